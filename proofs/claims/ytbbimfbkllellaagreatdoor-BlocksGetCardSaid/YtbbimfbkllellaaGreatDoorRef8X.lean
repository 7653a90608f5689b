/-
  Plain mathematics: the entries that are not ahead of a mark.
  The document's own answer of layer 8: From.
  Plain mathematics: what the document's Get of layer 8 reads of an entry; how far it has got.
  The document's own answer of layer 8: Get.
  The document's own answer of layer 8: Seek.
-/
import Derived.Test.YtbbimfbkllellaaGreatDoorCutE
import Derived.Test.YtbbimfbkllellaaGreatDoorRef4
import Derived.Test.YtbbimfbkllellaaGreatDoorBkPQ
import Derived.Deep.RegionHeld3
import Derived.Test.YtbbimfbkllellaaGreatDoorBkNR
import Derived.Test.YtbbimfbkllellaaGreatDoorRef8D
import Derived.Test.YtbbimfbkllellaaGreatDoorRef1B
import Derived.Test.YtbbimfbkllellaaGreatDoorBkHJ
import Derived.Test.YtbbimfbkllellaaGreatDoorCutM
import Derived.BigQuiet
import Derived.LoopTactic
namespace Go.Proofs.YtbbimfbkllellaaGreatDoor
open Go.RowKit
set_option linter.unusedVariables false

/-- those that are not ahead of m -/
def notB (m : Mk) (S : List En) : List En := S.filter fun e => !bef m e
theorem notB_next {S : List En} {k : Nat} {x : En} (m : Mk) (h : S[k]? = some x) : notB m (S.take (k + 1)) = notB m (S.take k) ++ (if bef m x then [] else [x]) := by
  unfold notB
  rw [List.take_add_one, h, List.filter_append]
  cases hb : bef m x <;> simp [hb]
theorem notB_from {S : List En} (hr : Rise S) (m : Mk) : notB m S = fromM S m := by
  unfold notB fromM
  conv => lhs; rw [← List.takeWhile_append_dropWhile (p := bef m) (l := S), List.filter_append]
  rw [List.filter_eq_nil_iff.2 (fun e he => by rw [take_while_mem _ _ _ he]; decide), List.nil_append, List.filter_eq_self.2 fun e he => ?_]
  have := hr.rest m e he
  unfold bef
  simpa using this
theorem notB_le (m : Mk) (S : List En) : (notB m S).length ≤ S.length := List.length_filter_le _ _
theorem notB_pre (m : Mk) (S : List En) (k : Nat) : notB m (S.take k) <+: notB m S := by
  refine ⟨notB m (S.drop k), ?_⟩
  unfold notB
  rw [← List.filter_append, List.take_append_drop]
end Go.Proofs.YtbbimfbkllellaaGreatDoor

namespace Go.Proofs.YtbbimfbkllellaaGreatDoor
open Go.RowKit
set_option linter.unusedVariables false
set_option maxRecDepth 100000

def RFr8 (W : World) (S : List En) (mk : Mk) (n : Nat) (v i : Value) (wr : World) : Prop :=
  ∃ k, k ≤ n ∧ i = .int .i64 (k : Int) ∧ wr.ownsRow W.heap.size 59 4 v (notB mk (S.take k)).length (ecs (notB mk (S.take k))) ∧ Below W.heap.size W wr
/-- what the region of a round reads -/
abbrev RFr8S (p b o : Nat) (x mk : Mk) (w : World) : Prop :=
  w.cell? ⟨b, o, none⟩ = some (.string x.k) ∧ w.cell? ⟨b, o + 1, none⟩ = some (.int .u64 (x.s : Int)) ∧ w.cell? ⟨b, o + 2, none⟩ = some (.bool x.g) ∧
  w.cell? ⟨p, 0, none⟩ = some (.string mk.k) ∧ w.cell? ⟨p, 1, none⟩ = some (.int .u64 (mk.s : Int)) ∧ w.cell? ⟨p, 2, none⟩ = some (.bool mk.g)
theorem RFr8S.below {p b o : Nat} {x mk : Mk} {w w' : World} (h : RFr8S p b o x mk w) (hb : Below w.heap.size w w') : RFr8S p b o x mk w' := by
  have t : ∀ {a : Addr} {v : Value}, w.cell? a = some v → w'.cell? a = some v := fun {a v} hv => (hb.cell (World.block_lt_of_cell? w _ hv)).trans hv
  obtain ⟨h1, h2, h3, h4, h5, h6⟩ := h
  exact ⟨t h1, t h2, t h3, t h4, t h5, t h6⟩
set_option maxHeartbeats 4000000 in
theorem rfrom8_any (S : List En) (A : Option Addr) (n c B : Nat) (w : World) (h : Lies w B 4 A n (ecs S)) (hB : B ≤ w.heap.size) (hn : n ≤ 4096) (hk : ∀ e ∈ S, e.m.k.size ≤ 1000000) (mk : Mk) (hmk : mk.k.size ≤ 1000000) :
    Calls Tryz.prog 24 #[.slice A n c, mk.v] w fun e w' => ∃ v, e = .returned v ∧ w'.ownsRow w.heap.size 59 4 v (notB mk S).length (ecs (notB mk S)) ∧ Below w.heap.size w w' := by
  obtain ⟨i0, hi, hz0, hz1, hz2⟩ := info_parts entry_info
  obtain ⟨b0, b1, b2, hBW, hz⟩ := mkW_facts w mk
  obtain ⟨W, hW⟩ : ∃ W, w.alloc (.cells #[.string mk.k, .int .u64 (mk.s : Int), .bool mk.g] 25) = W := ⟨_, rfl⟩
  rw [show mkW w mk = W from hW] at b0 b1 b2 hBW hz
  have HSn : Hid (S.length = n) := h.elen
  have HL := Lib.hid (h.more hB); clear h hB
  have HB := Lib.hid hBW
  have HBm := Lib.hid (And.intro b0 (And.intro b1 b2))
  have HC : Hid (∀ (W' : World) (x : En), x ∈ S → Calls Tryz.prog 84 #[x.m.v, mk.v] W' fun e w' => e = .returned (.int .i64 (cmpM x.m mk)) ∧ Below W'.heap.size W' w') := fun W' x hx => rcmp_any x.m mk W' (hk x hx) hmk
  have HF : Hid (S.take S.length = S) := List.take_of_length_le (Nat.le_refl _)
  have HW := Lib.hid hW
  clear hk hBW hz b0 b1 b2 hW
  unfold Mk.v at HC ⊢
  go_enter Tryz.func24, Tryz.ntmps24
  go_wp2
  rw [HW.out]
  clear HW
  have HR0 : Hid (RFr8 W S mk n (.slice none 0 0) (.int .i64 0) W) := ⟨0, Nat.zero_le _, rfl, World.ownsRow_nil _ _ _ _, Below.refl _ _⟩
  go_loopw [5, 6] (fun v i wr => RFr8 W S mk n v i wr) (fun _ i _ => n - (intOf i).toNat)
  case atStart => exact HR0.out
  case round =>
    clear HR0
    obtain ⟨k, hk, rfl, hown, hb⟩ := hrel
    obtain ⟨L, hL⟩ : ∃ L, notB mk (S.take k) = L := ⟨_, rfl⟩
    rw [hL] at hown
    obtain ⟨Av, cv, rfl, hnc, _⟩ := own_shape hown
    have hLl : L.length ≤ 4096 := by
      have := notB_le mk (S.take k)
      rw [hL, List.length_take] at this; omega
    have hl := (HL.out.below (HB.out.trans (hb.mono HB.out.size)))
    by_cases hlt : k < n
    · have hi1 : (k : Int) < (n : Int) := by omega
      have hi0 : (0 : Int) ≤ (k : Int) := by omega
      obtain ⟨b, o, x, rfl, hbB, hu, d0, d1, d2, d3⟩ := hl.entry hlt
      have hxm : x ∈ S := List.mem_of_getElem? hu
      have HU := Lib.hid hu
      have HOW := Lib.hid hown; have HBl := Lib.hid hb; have HLi := Lib.hid hl
      obtain ⟨b0', b1', b2'⟩ := HBm.out
      have hWs : w.heap.size < W.heap.size := World.block_lt_of_cell? W _ b0'
      have m0 := (hb.cell (p := ⟨w.heap.size, 0, none⟩) hWs).trans b0'
      have m1 := (hb.cell (p := ⟨w.heap.size, 1, none⟩) hWs).trans b1'
      have m2 := (hb.cell (p := ⟨w.heap.size, 2, none⟩) hWs).trans b2'
      have S0 : RFr8S w.heap.size b (o + k * 4) x.m mk wr := ⟨d0, d1, d2, m0, m1, m2⟩
      have hd1 : Below wr.heap.size wr wr.drew := ⟨rfl, rfl, rfl, Nat.le_refl _, fun _ _ => rfl⟩
      have HSd := Lib.hid (S0.below hd1)
      have HC1 := Lib.hid (HC.out wr.drew x hxm)
      have HNx := notB_next mk hu
      rw [hL] at HNx
      have HNxt := Lib.hid HNx
      have hwr : w.heap.size ≤ wr.heap.size := by have := hb.size; omega
      have HWR := Lib.hid hwr
      clear hwr hL hu hown hb hl d0 d1 d2 d3 m0 m1 m2 S0 b0' b1' b2' hxm HNx
      go_wp2
      have Sd := HSd.out
      go_region_held3 (fun w' => RFr8S w.heap.size b (o + k * 4) x.m mk w') (first | exact Sd | exact S1)
        (first
          | (go_at_call 84; refine HC1.out.mono ?_; rintro e w1 ⟨rfl, hb1⟩; have S1 := Sd.below hb1)
          | fail)
      have hbw : Below wr.heap.size wr w1 := hd1.trans hb1
      have HOW1 := Lib.hid (own_below HOW.out hbw)
      have HB1 := Lib.hid (HBl.out.trans (hbw.mono HBl.out.size))
      obtain ⟨d0, d1, d2, _⟩ := S1
      have d3 : w1.cell? ⟨b, o + k * 4 + 3, none⟩ = some (.string x.x) := by
        obtain ⟨b', o', x', e1, _, hu', _, _, _, d3'⟩ := ((HLi.out.more HWR.out).below hbw).entry hlt
        injection e1 with e1
        injection e1 with e1 e2
        subst e1 e2
        rw [HU.out] at hu'
        injection hu' with hu'
        subst hu'
        exact d3'
      clear Sd hb1 hd1 hbw HLi HOW HBl
      by_cases hbe : cmpM x.m mk < 0
      · have hbt : bef mk x = true := by unfold bef; simpa using hbe
        rw [hbt, if_pos rfl, List.append_nil] at HNxt
        have hcmp : ¬ (0 : Int) ≤ cmpM x.m mk := by omega
        clear hbt d0 d1 d2 d3
        go_wp2
        go_roundw
        case rel => exact ⟨k + 1, hlt, by go_num, by rw [HNxt.out]; exact HOW1.out, HB1.out⟩
        case measure => simp [intOf]; omega
      · have hbt : bef mk x = false := by unfold bef; simpa using hbe
        rw [hbt, if_neg (by decide)] at HNxt
        have hcmp : (0 : Int) ≤ cmpM x.m mk := by omega
        have hba := (enW_facts w1 x).2.2.2.2.1
        have HOA := Lib.hid (own_below HOW1.out hba)
        have HBA := Lib.hid (HB1.out.trans (hba.mono HB1.out.size))
        have HLA := Lib.hid (en_lies w1 x)
        have hbs : W.heap.size ≤ w1.heap.size := HB1.out.size
        clear hbt hba
        go_wp2_with (at_builtin; refine wpList_app _ rfl _ _ 27 rfl W.heap.size 59 i0 _ 4 48 Tryz.underlying27 hi hz0 hz1 hz2 rfl (by decide) (.slice Av L.length cv) L.length (ecs L) rfl HOA.out (w1.heap.size + 1) (some ⟨w1.heap.size, 0, none⟩) 1 1 (ecs [x]) rfl HLA.out (ecs_one _) (by unfold maxLen; omega) (by omega) (by simp; omega) ?_)
        intro v3 w3 hown3 hg3 _
        have hb3 := HBA.out.grown hg3 HBA.out.size (fun k hk => (HOA.out.lt k hk).1)
        have HB3 := Lib.hid hb3
        have HO3 : Hid (w3.ownsRow W.heap.size 59 4 v3 (notB mk (S.take (k + 1))).length (ecs (notB mk (S.take (k + 1))))) := by
          unfold Hid
          rw [HNxt.out, List.length_append, List.length_singleton, show ecs (L ++ [x]) = ecs L ++ ecs [x] from by simp [ecs]]
          exact hown3
        clear hown3 hg3 hb3 HOA HLA HBA d0 d1 d2 d3 HOW1 HB1
        go_wp2
        go_roundw
        case rel => exact ⟨k + 1, hlt, by go_num, HO3.out, HB3.out⟩
        case measure => simp [intOf]; omega
    · obtain rfl : k = n := by omega
      have HA : Hid (∃ v, (Value.slice Av L.length cv) = v ∧ wr.ownsRow w.heap.size 59 4 v (notB mk S).length (ecs (notB mk S)) ∧ Below w.heap.size w wr) := by
        have e4 : notB mk S = L := by rw [← hL, ← HSn.out, HF.out]
        rw [e4]
        exact ⟨_, rfl, own_base hown HB.out.size, HB.out.trans (hb.mono HB.out.size)⟩
      obtain ⟨v, rfl, HA2⟩ := HA.out
      have HA := Lib.hid HA2
      clear hL hown hb hl HA2
      go_wp2
      go_ret
      exact ⟨_, rfl, HA.out.1, HA.out.2⟩
end Go.Proofs.YtbbimfbkllellaaGreatDoor

namespace Go.Proofs.YtbbimfbkllellaaGreatDoor
open Go.RowKit
set_option linter.unusedVariables false

/-- behind the key and the number -/
def valG (k : ByteArray) (s m : Nat) : List UInt8 → Option (En × Nat)
  | [] => none
  | c :: r => if c.toNat = 1 then some (⟨⟨k, s, true⟩, ByteArray.empty⟩, m + 1) else if (getText r).2.2 = 0 then some (⟨⟨k, s, false⟩, ⟨(getText r).1.toArray⟩⟩, m + 1 + (getText r).2.1) else none
theorem valG_cons (k : ByteArray) (s m : Nat) (c : UInt8) (r : List UInt8) : valG k s m (c :: r) = if c.toNat = 1 then some (⟨⟨k, s, true⟩, ByteArray.empty⟩, m + 1) else if (getText r).2.2 = 0 then some (⟨⟨k, s, false⟩, ⟨(getText r).1.toArray⟩⟩, m + 1 + (getText r).2.1) else none := rfl
/-- an entry, and of how many bytes -/
def stepG (p : ByteArray) (l : List UInt8) : Option (En × Nat) :=
  if (Vi.get l).2.2 = 0 ∧ (Vi.get l).1 ≤ p.size then
    if (getText (l.drop (Vi.get l).2.1)).2.2 = 0 then
      if (Vi.get ((l.drop (Vi.get l).2.1).drop (getText (l.drop (Vi.get l).2.1)).2.1)).2.2 = 0 then
        valG (p.extract 0 (Vi.get l).1 ++ ⟨(getText (l.drop (Vi.get l).2.1)).1.toArray⟩) (Vi.get ((l.drop (Vi.get l).2.1).drop (getText (l.drop (Vi.get l).2.1)).2.1)).1
          ((Vi.get l).2.1 + (getText (l.drop (Vi.get l).2.1)).2.1 + (Vi.get ((l.drop (Vi.get l).2.1).drop (getText (l.drop (Vi.get l).2.1)).2.1)).2.1)
          (((l.drop (Vi.get l).2.1).drop (getText (l.drop (Vi.get l).2.1)).2.1).drop (Vi.get ((l.drop (Vi.get l).2.1).drop (getText (l.drop (Vi.get l).2.1)).2.1)).2.1)
      else none
    else none
  else none
theorem stepG_cases {p : ByteArray} {l : List UInt8} {n k1 e1 : Nat} (h1 : Vi.get l = (n, k1, e1)) :
    stepG p l = if e1 = 0 ∧ n ≤ p.size then
      if (getText (l.drop k1)).2.2 = 0 then
        if (Vi.get ((l.drop k1).drop (getText (l.drop k1)).2.1)).2.2 = 0 then
          valG (p.extract 0 n ++ ⟨(getText (l.drop k1)).1.toArray⟩) (Vi.get ((l.drop k1).drop (getText (l.drop k1)).2.1)).1
            (k1 + (getText (l.drop k1)).2.1 + (Vi.get ((l.drop k1).drop (getText (l.drop k1)).2.1)).2.1)
            (((l.drop k1).drop (getText (l.drop k1)).2.1).drop (Vi.get ((l.drop k1).drop (getText (l.drop k1)).2.1)).2.1)
        else none
      else none
    else none := by unfold stepG; rw [h1]
theorem stepG_bad {p : ByteArray} {l : List UInt8} {n k1 e1 : Nat} (h1 : Vi.get l = (n, k1, e1)) (h : ¬ (e1 = 0 ∧ n ≤ p.size)) : stepG p l = none := by rw [stepG_cases h1, if_neg h]
theorem stepG_tbad {p : ByteArray} {l : List UInt8} {n k1 k2 e2 : Nat} {ks : List UInt8} (h1 : Vi.get l = (n, k1, 0)) (h2 : getText (l.drop k1) = (ks, k2, e2)) (h : e2 ≠ 0) : stepG p l = none := by
  rw [stepG_cases h1, h2, if_neg (show ¬ (ks, k2, e2).2.2 = 0 from h)]; split <;> rfl
theorem stepG_ok {p : ByteArray} {l : List UInt8} {n k1 k2 s k3 e3 : Nat} {ks : List UInt8} (h1 : Vi.get l = (n, k1, 0)) (hn : n ≤ p.size) (h2 : getText (l.drop k1) = (ks, k2, 0)) (h3 : Vi.get ((l.drop k1).drop k2) = (s, k3, e3)) :
    stepG p l = if e3 = 0 then valG (p.extract 0 n ++ ⟨ks.toArray⟩) s (k1 + k2 + k3) (((l.drop k1).drop k2).drop k3) else none := by
  rw [stepG_cases h1, if_pos ⟨rfl, hn⟩, h2]
  show (if (0 : Nat) = 0 then (if (Vi.get ((l.drop k1).drop k2)).2.2 = 0 then _ else none) else none) = _
  rw [if_pos rfl, h3]
theorem stepG_row (p q : ByteArray) (x : En) (r : List UInt8) (hq : q = p ∨ q = ByteArray.empty) (hf : fineE x = true) (hs : x.m.s < 18446744073709551616) :
    stepG p (rowE q x ++ r) = some (x, (rowE q x).length) := by
  have hfs := fine_size hf
  have hle := cpK_le x.m.k q
  have hp : cpK x.m.k q ≤ p.size := by
    rcases hq with rfl | rfl
    · exact hle.2
    · rw [cpK_empty]; omega
  have hj : p.extract 0 (cpK x.m.k q) ++ cutK x.m.k (cpK x.m.k q) = x.m.k := by
    rcases hq with rfl | rfl
    · exact joinK _ _
    · exact join_empty _ _
  have hsz := cutK_size x.m.k (cpK x.m.k q)
  obtain ⟨n, hn⟩ : ∃ n, cpK x.m.k q = n := ⟨_, rfl⟩
  have hrow : rowE q x = Vi.enc n ++ (Vi.enc (cutK x.m.k n).size ++ ((cutK x.m.k n).data.toList ++ (Vi.enc x.m.s ++ tailE x))) := by
    have h0 : rowE q x ++ [] = Vi.enc n ++ (Vi.enc (cutK x.m.k n).size ++ ((cutK x.m.k n).data.toList ++ (Vi.enc x.m.s ++ (tailE x ++ [])))) := by
      unfold rowE
      rw [hn, List.append_assoc, encE_one]
      rfl
    simpa using h0
  rw [hn] at hj hp hsz hle
  obtain ⟨k, hk⟩ : ∃ k, cutK x.m.k n = k := ⟨_, rfl⟩
  rw [hk] at hrow hj hsz
  have h1 := Vi.get_enc n (Vi.enc k.size ++ (k.data.toList ++ (Vi.enc x.m.s ++ (tailE x ++ r)))) (by omega)
  have h2 := getText_enc k (Vi.enc x.m.s ++ (tailE x ++ r)) (by omega)
  have h3 := Vi.get_enc x.m.s (tailE x ++ r) hs
  have e0 : rowE q x ++ r = Vi.enc n ++ (Vi.enc k.size ++ (k.data.toList ++ (Vi.enc x.m.s ++ (tailE x ++ r)))) := by rw [hrow]; simp only [List.append_assoc]
  have d1 : (Vi.enc n ++ (Vi.enc k.size ++ (k.data.toList ++ (Vi.enc x.m.s ++ (tailE x ++ r))))).drop (Vi.enc n).length = Vi.enc k.size ++ (k.data.toList ++ (Vi.enc x.m.s ++ (tailE x ++ r))) := List.drop_left
  have d2 : (Vi.enc k.size ++ (k.data.toList ++ (Vi.enc x.m.s ++ (tailE x ++ r)))).drop ((Vi.enc k.size).length + k.size) = Vi.enc x.m.s ++ (tailE x ++ r) := by
    rw [← List.append_assoc, show (Vi.enc k.size).length + k.size = (Vi.enc k.size ++ k.data.toList).length from by rw [List.length_append, slen], List.drop_left]
  have d3 : (Vi.enc x.m.s ++ (tailE x ++ r)).drop (Vi.enc x.m.s).length = tailE x ++ r := List.drop_left
  have hst := stepG_ok h1 hp (by rw [d1]; exact h2) (show Vi.get (((Vi.enc n ++ (Vi.enc k.size ++ (k.data.toList ++ (Vi.enc x.m.s ++ (tailE x ++ r))))).drop (Vi.enc n).length).drop ((Vi.enc k.size).length + k.size)) = (x.m.s, (Vi.enc x.m.s).length, 0) from by rw [d1, d2]; exact h3)
  rw [if_pos rfl, d1, d2, d3, txt_of, hj] at hst
  rw [e0, hst]
  have hlen : (rowE q x).length = (Vi.enc n).length + ((Vi.enc k.size).length + k.size) + (Vi.enc x.m.s).length + (tailE x).length := by rw [hrow]; simp only [List.length_append, slen]; omega
  rw [hlen]
  obtain ⟨⟨xk, s, g⟩, y⟩ := x
  cases g
  · have hg := getText_enc y r (by have := hfs.2.2; simp only at this; omega)
    have ht : tailE ⟨⟨xk, s, false⟩, y⟩ = 0 :: (Vi.enc y.size ++ y.data.toList) := by unfold tailE; simp
    rw [ht, List.cons_append, List.append_assoc]
    rw [valG_cons, if_neg (by decide), hg, if_pos rfl]
    simp only [txt_of, List.length_cons, List.length_append, slen]
    congr 2
    omega
  · have hy : y = ByteArray.empty := by
      unfold fineE at hf
      simp only [Bool.and_eq_true, Bool.or_eq_true, Bool.not_true, or_false, Bool.false_eq_true] at hf
      have h := hf.2.2
      rw [Lib.toList_data] at h
      apply txt_ext
      have : y.data.toList = [] := by simpa using h
      rw [this]; rfl
    subst hy
    rfl
/-- how far it has got: if the bytes are a block's, then with as many of its entries -/
def GInv (l : List UInt8) (S : List En) (t : Nat) : Prop := ∀ T, getB l = some T → S = T.take S.length ∧ t = (body S).length
theorem GInv.start (l : List UInt8) : GInv l [] 0 := fun T _ => ⟨by simp, rfl⟩
theorem getB_facts {l : List UInt8} {T : List En} (h : getB l = some T) : okB T = true ∧ encB T = l ∧ (∀ e ∈ T, e.m.s < 18446744073709551616) ∧ bodyE l = some (body T).length ∧ l.take (body T).length = body T := by
  obtain ⟨h1, h2, h3⟩ := getB_some h
  have hs := decB_seqs l
  rw [h3] at hs
  refine ⟨h1, h2, hs, ?_, ?_⟩
  · rw [← h2]; exact bodyE_enc T h1
  · rw [← h2]; unfold encB; rw [List.take_left]
theorem GInv.at_ {l : List UInt8} {S : List En} {t m : Nat} (h : GInv l S t) (hm : bodyE l = some m) (hlt : t < m) {T : List En} (hT : getB l = some T) :
    ∃ x, T.take (S.length + 1) = S ++ [x] ∧ stepG (lastK ByteArray.empty S) ((l.take m).drop t) = some (x, (rowE (preK S.length (lastK ByteArray.empty S)) x).length) ∧ (body (S ++ [x])).length = t + (rowE (preK S.length (lastK ByteArray.empty S)) x).length := by
  obtain ⟨h1, h2, h3, h4, h5⟩ := getB_facts hT
  obtain ⟨_, _, hF, _⟩ := (okB_iff T).1 h1
  obtain ⟨hS, ht⟩ := h T hT
  rw [h4] at hm
  injection hm with hm
  subst hm
  obtain ⟨p, hp⟩ : ∃ p, lastK ByteArray.empty S = p := ⟨_, rfl⟩
  obtain ⟨k, hk⟩ : ∃ k, S.length = k := ⟨_, rfl⟩
  rw [hk] at hS ⊢
  rw [hp]
  have happ : S ++ T.drop k = T := by rw [hS]; exact List.take_append_drop k T
  have hsplit : body T = body S ++ bodyG k p (T.drop k) := by
    have := bodyG_app S (T.drop k) 0 ByteArray.empty
    rw [Nat.zero_add, happ, hp, hk] at this
    exact this
  cases hd : T.drop k with
  | nil =>
    rw [hd, bodyG, List.append_nil] at hsplit
    rw [hsplit] at hlt
    omega
  | cons x R =>
    rw [hd] at happ hsplit
    have hxT : x ∈ T := by rw [← happ]; simp
    have hb1 : bodyG k p (x :: R) = rowE (preK k p) x ++ bodyG (k + 1) x.m.k R := rfl
    have hb2 : body (S ++ [x]) = body S ++ rowE (preK k p) x := by
      have := bodyG_app S [x] 0 ByteArray.empty
      rw [Nat.zero_add, hp, hk] at this
      have h0 : bodyG k p [x] = rowE (preK k p) x := by show rowE (preK k p) x ++ [] = _; rw [List.append_nil]
      rw [h0] at this
      exact this
    refine ⟨x, ?_, ?_, ?_⟩
    · rw [← happ, show S ++ x :: R = (S ++ [x]) ++ R from by simp, List.take_left' (by simp [hk])]
    · rw [h5, hsplit, ht, List.drop_left, hb1]
      exact stepG_row p _ x _ (by unfold preK; split; exact .inr rfl; exact .inl rfl) (hF x hxT) (h3 x hxT)
    · rw [hb2, List.length_append, ← ht]
theorem GInv.next {l : List UInt8} {S : List En} {t m : Nat} (h : GInv l S t) (hm : bodyE l = some m) (hlt : t < m) {x : En} {k : Nat} (hx : stepG (lastK ByteArray.empty S) ((l.take m).drop t) = some (x, k)) : GInv l (S ++ [x]) (t + k) := by
  intro T hT
  obtain ⟨y, h1, h2, h3⟩ := h.at_ hm hlt hT
  rw [hx] at h2
  injection h2 with h2
  injection h2 with h2 h4
  subst h2
  rw [List.length_append, List.length_singleton, h1, h3, h4]
  exact ⟨rfl, rfl⟩
theorem GInv.none {l : List UInt8} {S : List En} {t m : Nat} (h : GInv l S t) (hm : bodyE l = some m) (hlt : t < m) (hx : stepG (lastK ByteArray.empty S) ((l.take m).drop t) = Option.none) : getB l = Option.none := by
  cases hT : getB l with
  | none => rfl
  | some T =>
    obtain ⟨y, _, h2, _⟩ := h.at_ hm hlt hT
    rw [hx] at h2; cases h2
theorem GInv.fin {l : List UInt8} {S : List En} {t m : Nat} (h : GInv l S t) (hs : ∀ e ∈ S, e.m.s < 18446744073709551616) (hm : bodyE l = some m) (hend : m ≤ t ∨ 64 < S.length) : getB l = if okB S = true ∧ encB S = l then some S else Option.none := by
  by_cases hc : okB S = true ∧ encB S = l
  · rw [if_pos hc, ← hc.2]; exact getB_enc S hc.1 hs
  · rw [if_neg hc]
    cases hT : getB l with
    | none => rfl
    | some T =>
      exfalso
      obtain ⟨h1, h2, h3, h4, h5⟩ := getB_facts hT
      obtain ⟨_, h64, hF, _⟩ := (okB_iff T).1 h1
      obtain ⟨hS, ht⟩ := h T hT
      rw [h4] at hm
      injection hm with hm
      obtain ⟨k, hk⟩ : ∃ k, S.length = k := ⟨_, rfl⟩
      rw [hk] at hS hend
      have hkT : k ≤ T.length := by have := congrArg List.length hS; rw [List.length_take, hk] at this; omega
      have happ : S ++ T.drop k = T := by rw [hS]; exact List.take_append_drop k T
      rcases hend with he | he
      · cases hd : T.drop k with
        | nil =>
          rw [hd, List.append_nil] at happ
          subst happ
          exact hc ⟨h1, h2⟩
        | cons x R =>
          rw [hd] at happ
          have hb := bodyG_app S (x :: R) 0 ByteArray.empty
          rw [happ] at hb
          have hl := congrArg List.length hb
          have hb1 : ∀ i p, bodyG i p (x :: R) = rowE (preK i p) x ++ bodyG (i + 1) x.m.k R := fun _ _ => rfl
          have hxT : x ∈ T := by rw [← happ]; simp
          rw [hb1, List.length_append, List.length_append] at hl
          have hr := (rowE_len (preK (0 + S.length) (lastK ByteArray.empty S)) x (hF x hxT)).1
          have e1 : (bodyG 0 ByteArray.empty T).length = (body T).length := rfl
          have e2 : (bodyG 0 ByteArray.empty S).length = (body S).length := rfl
          omega
      · omega
theorem getB_short {l : List UInt8} (h : l.length < 4) : getB l = none := by
  cases hT : getB l with
  | none => rfl
  | some T =>
    obtain ⟨h1, h2, _⟩ := getB_facts hT
    have := (encB_len T h1).1
    rw [h2] at this; omega
theorem getB_noend {l : List UInt8} (h : bodyE l = none) : getB l = none := by
  cases hT : getB l with
  | none => rfl
  | some T => rw [(getB_facts hT).2.2.2.1] at h; cases h
end Go.Proofs.YtbbimfbkllellaaGreatDoor

namespace Go.Proofs.YtbbimfbkllellaaGreatDoor
open Go.RowKit
set_option linter.unusedVariables false
set_option maxRecDepth 100000

/-- how far it has got -/
def RG8 (w : World) (l : List UInt8) (en : Int) (v p a : Value) (wr : World) : Prop :=
  ∃ (S : List En) (t : Nat) (k : ByteArray), lastK ByteArray.empty S = k ∧ p = .string k ∧ a = .int .i64 (t : Int) ∧ ((t : Int) ≤ en ∨ t = 0) ∧ GInv l S t ∧ k.size ≤ t ∧ S.length ≤ 65 ∧ (∀ x ∈ S, szE x) ∧
    wr.ownsRow w.heap.size 59 4 v S.length (ecs S) ∧ Below w.heap.size w wr
set_option maxHeartbeats 8000000 in
theorem rget8_any (A : Option Addr) (n c : Nat) (l : List UInt8) (w : World) (h : Lies w w.heap.size 1 A n (l.map bv)) (hnc : n ≤ c) (hc : c ≤ 140737488351232) (hl : n ≤ 1000000) :
    Calls Tryz.prog 7 #[.slice A n c] w (BGet w (getB l)) := by
  obtain ⟨i0, hi, hz0, hz1, hz2⟩ := info_parts entry_info
  have hln := h.blen
  obtain ⟨o, ho⟩ : ∃ o, getB l = o := ⟨_, rfl⟩
  have HO := Lib.hid ho
  rw [ho]
  have HErr : Hid (o = none → ∀ w', Below w.heap.size w w' → BGet w o (.returned (.tuple #[.slice none 0 0, .int .i64 4])) w') := fun q w' hb => ⟨hb, (fun S e => by rw [q] at e; cases e), fun _ => rfl⟩
  have HL := Lib.hid h
  have HLN := Lib.hid hln
  clear ho
  by_cases h4 : n < 4
  · have HF := Lib.hid (HErr.out (by rw [← HO.out]; exact getB_short (by omega)) w (Below.refl _ _))
    have h4i : (n : Int) < 4 := by omega
    clear h hln HErr
    go_enter Tryz.func7, Tryz.ntmps7
    go_wp2
    go_ret2
    exact HF.out
  · have h4i : ¬ (n : Int) < 4 := by omega
    obtain ⟨x, hx⟩ : ∃ x, l.getD (n - 2) 0 = x := ⟨_, rfl⟩
    obtain ⟨y, hy⟩ : ∃ y, l.getD (n - 1) 0 = y := ⟨_, rfl⟩
    have hx8 := x.toNat_lt; have hy8 := y.toNat_lt
    obtain ⟨b, o', u, rfl, hbB, hu, hc0⟩ := h.at_ (j := n - 2) (by omega)
    obtain ⟨b', o2, u', hA', _, hu', hc1⟩ := h.at_ (j := n - 1) (by omega)
    injection hA' with hA'
    injection hA' with e1 e2
    subst e1 e2
    rw [List.getElem?_map, getD_some l _ (by omega), hx] at hu
    rw [List.getElem?_map, getD_some l _ (by omega), hy] at hu'
    injection hu with hu
    injection hu' with hu'
    subst hu hu'
    have hbe : bodyE l = if n - 2 < 2 * (256 * x.toNat + y.toNat) then none else some (n - 2 - 2 * (256 * x.toNat + y.toNat)) := by
      unfold bodyE
      rw [hln, if_neg (by omega), hx, hy]
    have hc0' : w.cell? ⟨b, o' + (n - 2), none⟩ = some (.int .u8 (x.toNat : Int)) := hc0
    have hc1' : w.cell? ⟨b, o' + (n - 1), none⟩ = some (.int .u8 (y.toNat : Int)) := hc1
    generalize x.toNat = xn at *
    generalize y.toNat = yn at *
    have j0 : (0 : Int) ≤ (n : Int) - 2 := by omega
    have j1 : (n : Int) - 2 < (n : Int) := by omega
    have j2 : ((n : Int) - 2).toNat = n - 2 := by omega
    have k0 : (0 : Int) ≤ (n : Int) - 1 := by omega
    have k1 : (n : Int) - 1 < (n : Int) := by omega
    have k2 : ((n : Int) - 1).toNat = n - 1 := by omega
    obtain ⟨en, hen⟩ : ∃ en : Int, (n : Int) - 2 - 2 * (256 * (xn : Int) + (yn : Int)) = en := ⟨_, rfl⟩
    have HBE : Hid (∀ m : Nat, en = (m : Int) → bodyE l = some m) := fun m hm => by rw [hbe, if_neg (by omega)]; congr 1; omega
    have HBN : Hid (en < 0 → bodyE l = none) := fun hm => by rw [hbe, if_pos (by omega)]
    have HEN := Lib.hid hen
    have henn : en ≤ (n : Int) - 2 := by omega
    have HL0 : Hid (∀ W B, Lies W B 1 (some ⟨b, o', none⟩) n (l.map bv) → ∀ m j : Nat, m ≤ n → j ≤ m → Lies W B 1 (cutA (some ⟨b, o', none⟩) c j) (m - j) (((l.take m).drop j).map bv)) := fun W B hW m j hm hj => (lies_take hW hm).cutA hj (by omega)
    clear h hx hy hc0 hc1 hbe hln
    go_enter Tryz.func7, Tryz.ntmps7
    go_wp2
    go_quiet (fail)
    go_wp2
    have HR0 : Hid (RG8 w l en (.slice none 0 0) (.string ⟨#[]⟩) (.int .i64 0) (w.drewN nq)) := ⟨[], 0, ByteArray.empty, rfl, rfl, rfl, .inr rfl, GInv.start l, Nat.le_refl _, by simp, (fun x hx => by cases hx), World.ownsRow_nil _ _ _ _, below_drewN (Below.refl _ _) nq⟩
    clear hc0' hc1' j0 j1 j2 k0 k1 k2
    go_loopw [6, 7, 8] (fun v p a wr => RG8 w l en v p a wr) (fun _ _ a _ => en.toNat - (intOf a).toNat)
    case atStart => exact HR0.out
    case round =>
      clear HR0
      obtain ⟨S, t, k, hk, rfl, rfl, hte, hI, hkt, hS65, hsz, hown, hb⟩ := hrel
      obtain ⟨Av, cv, rfl, hnv, hcv, _⟩ := own_shape hown
      have HK := Lib.hid hk; have HI := Lib.hid hI; have HSz := Lib.hid hsz; have HOw := Lib.hid hown; have HB := Lib.hid hb
      clear hk hI hsz hown hb
      by_cases hgo : (t : Int) < en ∧ S.length ≤ 64
      · obtain ⟨hlt, h64⟩ := hgo
        obtain ⟨m, rfl⟩ : ∃ m : Nat, en = (m : Int) := ⟨en.toNat, by omega⟩
        have HM := Lib.hid (HBE.out m rfl)
        have hmn : m ≤ n := by omega
        have htm : t < m := by omega
        have hLw : ∀ (W : World), Below wr.heap.size wr W → ∀ j : Nat, j ≤ m → Lies W W.heap.size 1 (cutA (some ⟨b, o', none⟩) c j) (m - j) (((l.take m).drop j).map bv) := fun W hW j hj => HL0.out W W.heap.size (((HL.out.below (HB.out.trans (hW.mono HB.out.size)))).more (Nat.le_trans HB.out.size hW.size)) m j hmn hj
        have HLW := Lib.hid hLw
        have HCUT : Hid (∀ (W : World) (a : Int) (j : Nat), a = (j : Int) → j ≤ m → (Instr.slice 22 (.slice (some ⟨b, o', none⟩) n c) (some (.int .i64 a)) (some (.int .i64 (m : Int))) none).run Tryz.prog W = .ok (.slice (cutA (some ⟨b, o', none⟩) c j) (m - j) (c - j)) W) := fun W a j ha hj => by
          rw [ha]; exact run_cutLH W _ n c j m hj (by omega)
        have hBr : Below w.heap.size w wr := HB.out
        have hgd : decide ((S.length : Int) ≤ 64) = true := by simp; omega
        rcases h1 : Vi.get ((l.take m).drop t) with ⟨n1, k1, e1⟩
        have ht1 := get_took ((l.take m).drop t)
        have hsl : ((l.take m).drop t).length = m - t := by rw [List.length_drop, List.length_take, HLN.out]; omega
        have hlt1 := (Vi.get_lt ((l.take m).drop t))
        rw [h1] at ht1 hlt1
        rw [hsl] at ht1
        dsimp only at ht1 hlt1
        have G1 := ref_get (cutA (some ⟨b, o', none⟩) c t) (m - t) (c - t) wr.heap.size ((l.take m).drop t) wr (hLw wr (Below.refl _ _) t (by omega)) (by omega)
        rw [h1] at G1
        have HG1 := Lib.hid G1
        have H1 := Lib.hid h1
        have HNone : Hid (stepG k ((l.take m).drop t) = none → ∀ w', Below wr.heap.size wr w' → BGet w o (.returned (.tuple #[.slice none 0 0, .int .i64 4])) w') := fun q w' hb' => by
          refine HErr.out ?_ w' (hBr.trans (hb'.mono hBr.size))
          rw [← HO.out]
          exact GInv.none HI.out HM.out htm (by rw [HK.out]; exact q)
        have hcut1 := fun W => HCUT.out W (t : Int) t rfl (by omega)
        have hks : IntKind.u64.wrap (k.size : Int) = (k.size : Int) := by rw [IntKind.wrap_u64]; omega
        clear hLw G1 h1 hsl hBr hen HEN HBE HBN
        go_wp2_with fail
        clear hcut1
        refine HG1.out.mono ?_
        rintro e w1 ⟨rfl, rfl⟩
        clear HG1
        by_cases he1 : e1 = 0
        · subst he1
          by_cases hn1 : n1 ≤ k.size
          · have hd1 : decide ((k.size : Int) < (n1 : Int)) = false := by simp; omega
            have hk1 := (Vi.get_back _ n1 k1 H1.out).2.1
            rcases h2 : getText (((l.take m).drop t).drop k1) with ⟨ks, k2, e2⟩
            have hdr : ((l.take m).drop t).drop k1 = (l.take m).drop (t + k1) := List.drop_drop
            have ht2 := getText_took ((l.take m).drop (t + k1))
            rw [hdr] at h2
            rw [h2] at ht2
            have hsl : ((l.take m).drop (t + k1)).length = m - (t + k1) := by rw [List.length_drop, List.length_take, HLN.out]; omega
            rw [hsl] at ht2
            dsimp only at ht2
            have G2 := ref_getText (cutA (some ⟨b, o', none⟩) c (t + k1)) (m - (t + k1)) (c - (t + k1)) wr.heap.size ((l.take m).drop (t + k1)) wr (HLW.out wr (Below.refl _ _) (t + k1) (by omega)) (by omega) (by omega) (by unfold maxLen; omega)
            rw [h2] at G2
            have HG2 := Lib.hid G2
            have H2 := Lib.hid h2
            have HD2 := Lib.hid hdr
            have hcut2 := fun W => HCUT.out W ((t : Int) + (k1 : Int)) (t + k1) (by omega) (by omega)
            clear G2 h2 hdr hsl
            go_wp2_with fail
            clear hcut2
            refine HG2.out.mono ?_
            rintro e w1 ⟨rfl, rfl⟩
            clear HG2
            by_cases he2 : e2 = 0
            · subst he2
              have hdr : (((l.take m).drop t).drop k1).drop k2 = (l.take m).drop (t + k1 + k2) := by rw [HD2.out, List.drop_drop]
              rcases h3 : Vi.get ((l.take m).drop (t + k1 + k2)) with ⟨s3, k3, e3⟩
              have ht3 := get_took ((l.take m).drop (t + k1 + k2))
              have hsl : ((l.take m).drop (t + k1 + k2)).length = m - (t + k1 + k2) := by rw [List.length_drop, List.length_take, HLN.out]; omega
              have hlt3 := (Vi.get_lt ((l.take m).drop (t + k1 + k2)))
              rw [h3] at ht3 hlt3
              rw [hsl] at ht3
              dsimp only at ht3 hlt3
              have HH := fun W => run_headK k n1 hn1 W
              have hkk : (⟨ks.toArray⟩ : ByteArray).size = ks.length := txt_size ks
              obtain ⟨kt, hkt2⟩ : ∃ kt, (⟨ks.toArray⟩ : ByteArray) = kt := ⟨_, rfl⟩
              have HKT := Lib.hid hkt2
              rw [hkt2] at hkk ⊢
              obtain ⟨W1, hW1⟩ : ∃ W1, wr.alloc (.cells #[.string (k.extract 0 n1 ++ kt), .int .u64 0, .bool false, .string ⟨#[]⟩] 59) = W1 := ⟨_, rfl⟩
              have HW1 := Lib.hid hW1
              clear hW1 hkt2
              have hcut3 := fun W => HCUT.out W ((t : Int) + (k1 : Int) + (k2 : Int)) (t + k1 + k2) (by omega) (by omega)
              go_wp2_with fail
              rw [HW1.out]
              have hE1 : EnAt W1 wr.heap.size ⟨⟨k.extract 0 n1 ++ kt, 0, false⟩, ⟨#[]⟩⟩ := by rw [← HW1.out]; exact EnAt.new wr ⟨⟨k.extract 0 n1 ++ kt, 0, false⟩, ⟨#[]⟩⟩
              have hB1 : Below wr.heap.size wr W1 := by rw [← HW1.out]; exact (Below.refl _ _).alloc (Nat.le_refl _) _
              have hkks : (k.extract 0 n1 ++ kt).size ≤ k.size + kt.size := by rw [ByteArray.size_append, ByteArray.size_extract]; omega
              have HST : Hid (stepG k ((l.take m).drop t) = if e3 = 0 then valG (k.extract 0 n1 ++ kt) s3 (k1 + k2 + k3) ((l.take m).drop (t + k1 + k2 + k3)) else none) := by
                have h3' : Vi.get ((((l.take m).drop t).drop k1).drop k2) = (s3, k3, e3) := by rw [hdr]; exact h3
                have := stepG_ok (p := k) H1.out hn1 (by rw [HD2.out]; exact H2.out) h3'
                rw [hdr, List.drop_drop, HKT.out] at this
                exact this
              have G3 := ref_get (cutA (some ⟨b, o', none⟩) c (t + k1 + k2)) (m - (t + k1 + k2)) (c - (t + k1 + k2)) W1.heap.size ((l.take m).drop (t + k1 + k2)) W1 (HLW.out W1 hB1 (t + k1 + k2) (by omega)) (by omega)
              rw [h3] at G3
              have HG3 := Lib.hid G3
              obtain ⟨kk, hkk2⟩ : ∃ kk, k.extract 0 n1 ++ kt = kk := ⟨_, rfl⟩
              rw [hkk2] at hE1 hkks HST ⊢
              have hk2 : ks.length ≤ k2 := by have := (getText_back _ _ _ H2.out).2.2.2.1; omega
              have z1 := hE1.cell.2.1
              have f1 := hE1.f 1
              have hE2 := hE1.s1 s3
              have hB2 := hB1.setCell (p := ⟨wr.heap.size, 1, none⟩) (Nat.le_refl _) (.int .u64 (s3 : Int))
              obtain ⟨W2, hW2⟩ : ∃ W2, W1.setCell ⟨wr.heap.size, 1, none⟩ (.int .u64 (s3 : Int)) = W2 := ⟨_, rfl⟩
              rw [hW2] at hE2 hB2
              have HW2 := Lib.hid hW2
              have HE2 := Lib.hid hE2; have HB2 := Lib.hid hB2
              clear HW1 hE1 hB1 hcut3 HH h3 hdr hsl G3 hkk2 hW2 hE2 hB2
              refine HG3.out.mono ?_
              rintro e w1 ⟨rfl, rfl⟩
              clear HG3
              go_upto_region 19 with fail
              rw [HW2.out]
              clear HW2 z1 f1
              by_cases he3 : e3 = 0
              · subst he3
                by_cases hle : m ≤ t + k1 + k2 + k3
                · have hd3 : decide ((m : Int) ≤ (t : Int) + (k1 : Int) + (k2 : Int) + (k3 : Int)) = true := by simp; omega
                  have HF := Lib.hid (HNone.out (by rw [HST.out, if_pos rfl, List.drop_eq_nil_of_le (by rw [List.length_take]; omega)]; rfl) W2 HB2.out)
                  clear HNone HST
                  go_wp2
                  go_ret2
                  exact HF.out
                · have hd3 : decide ((m : Int) ≤ (t : Int) + (k1 : Int) + (k2 : Int) + (k3 : Int)) = false := by simp; omega
                  obtain ⟨b1, o1, z, hA1, _, hz, hc1⟩ := ((HL.out.below (HB.out.trans (HB2.out.mono HB.out.size))).byte (k := t + k1 + k2 + k3) (by omega))
                  injection hA1 with hA1
                  injection hA1 with ea eb
                  subst ea eb
                  have hdz : (l.take m).drop (t + k1 + k2 + k3) = z :: (l.take m).drop (t + k1 + k2 + k3 + 1) := by
                    have hz2 : (l.take m)[t + k1 + k2 + k3]? = some z := by rw [List.getElem?_take, if_pos (by omega)]; exact hz
                    obtain ⟨hlt', he'⟩ := List.getElem?_eq_some_iff.1 hz2
                    rw [List.drop_eq_getElem_cons hlt', he']
                  rw [hdz, valG_cons] at HST
                  clear hdz hz
                  have hz8 := z.toNat_lt
                  generalize z.toNat = zn at *
                  have x0 : (0 : Int) ≤ (t : Int) + (k1 : Int) + (k2 : Int) + (k3 : Int) := by omega
                  have x1 : (t : Int) + (k1 : Int) + (k2 : Int) + (k3 : Int) < (n : Int) := by omega
                  have x2 : ((t : Int) + (k1 : Int) + (k2 : Int) + (k3 : Int)).toNat = t + k1 + k2 + k3 := by omega
                  have z2 := HE2.out.cell.2.2.1
                  have f2 := HE2.out.f 2
                  by_cases hzn : zn = 1
                  · have hzz : ((zn : Int) == 1) = true := by simp; omega
                    have hE3 := HE2.out.s2 true
                    have hB3 := HB2.out.setCell (p := ⟨wr.heap.size, 2, none⟩) (Nat.le_refl _) (.bool true)
                    obtain ⟨W3, hW3⟩ : ∃ W3, W2.setCell ⟨wr.heap.size, 2, none⟩ (.bool true) = W3 := ⟨_, rfl⟩
                    rw [hW3] at hE3 hB3
                    have HW3 := Lib.hid hW3
                    have HE3 := Lib.hid hE3; have HB3w := Lib.hid hB3
                    clear hW3 hE3 hB3 HE2
                    go_upto_region 23 with fail
                    rw [HW3.out]
                    clear HW3 z2 f2 hc1 x0 x1 x2
                    have HStep : Hid (stepG k ((l.take m).drop t) = some (⟨⟨kk, s3, true⟩, ⟨#[]⟩⟩, k1 + k2 + k3 + 1)) := HST.out.trans (by first | (rw [if_pos rfl, if_pos hzn]; rfl) | (simp [hzn]; rfl) | simp [hzn])
                    have HBW := Lib.hid (HB.out.trans (HB3w.out.mono HB.out.size))
                    have hba := (enW_facts W3 ⟨⟨kk, s3, true⟩, ⟨#[]⟩⟩).2.2.2.2.1
                    have HOA := Lib.hid (own_below (own_below HOw.out HB3w.out) hba)
                    have HBA := Lib.hid (HBW.out.trans (hba.mono HBW.out.size))
                    have HLA := Lib.hid (en_lies W3 ⟨⟨kk, s3, true⟩, ⟨#[]⟩⟩)
                    have hbs : w.heap.size ≤ W3.heap.size := HBW.out.size
                    obtain ⟨z0, z1, z2, z3⟩ := HE3.out.cell
                    have HX : Hid (szE ⟨⟨kk, s3, true⟩, ⟨#[]⟩⟩) := ⟨by show kk.size ≤ _; omega, by show (0 : Nat) ≤ _; omega, by show s3 < _; omega⟩
                    clear hba HST HNone
                    go_wp2_with (at_builtin; refine wpList_app _ rfl _ _ 27 rfl w.heap.size 59 i0 _ 4 48 Tryz.underlying27 hi hz0 hz1 hz2 rfl (by decide) (.slice Av S.length cv) S.length (ecs S) rfl HOA.out (W3.heap.size + 1) (some ⟨W3.heap.size, 0, none⟩) 1 1 (ecs [(⟨⟨kk, s3, true⟩, ⟨#[]⟩⟩ : En)]) rfl HLA.out (ecs_one _) (by unfold maxLen; omega) (by omega) (by simp; omega) ?_)
                    intro v3 w3 hown3 hg3 _
                    have HB3 := Lib.hid (HBA.out.grown hg3 HBA.out.size (fun k hk => (HOA.out.lt k hk).1))
                    have HO3 : Hid (w3.ownsRow w.heap.size 59 4 v3 (S ++ [(⟨⟨kk, s3, true⟩, ⟨#[]⟩⟩ : En)]).length (ecs (S ++ [(⟨⟨kk, s3, true⟩, ⟨#[]⟩⟩ : En)]))) := by
                      unfold Hid
                      rw [List.length_append, List.length_singleton, show ecs (S ++ [(⟨⟨kk, s3, true⟩, ⟨#[]⟩⟩ : En)]) = ecs S ++ ecs [(⟨⟨kk, s3, true⟩, ⟨#[]⟩⟩ : En)] from by simp [ecs]]
                      exact hown3
                    have R : Hid (RG8 w l (m : Int) v3 (.string kk) (.int .i64 ((t : Int) + (k1 : Int) + (k2 : Int) + (k3 : Int) + 1)) w3) :=
                      ⟨S ++ [(⟨⟨kk, s3, true⟩, ⟨#[]⟩⟩ : En)], t + (k1 + k2 + k3 + 1), kk, lastK_snoc _ _ _, rfl, (by congr 1; omega), .inl (by omega), HI.out.next HM.out htm (by rw [HK.out]; exact HStep.out), (by omega), (by rw [List.length_append, List.length_singleton]; omega), (fun u hu => by
                        rcases List.mem_append.1 hu with hu | hu
                        · exact HSz.out u hu
                        · rw [List.mem_singleton.1 hu]; exact HX.out), HO3.out, HB3.out⟩
                    clear hown3 hg3 HOA HLA HBA HO3 HB3 HX HStep z0 z1 z2 z3
                    go_wp2
                    go_roundw
                    case rel => exact R.out
                    case measure => simp [intOf]; omega
                  · have hzz : ((zn : Int) == 1) = false := by simp; omega
                    have hE3 := HE2.out.s2 false
                    have hB3 := HB2.out.setCell (p := ⟨wr.heap.size, 2, none⟩) (Nat.le_refl _) (.bool false)
                    obtain ⟨W3, hW3⟩ : ∃ W3, W2.setCell ⟨wr.heap.size, 2, none⟩ (.bool false) = W3 := ⟨_, rfl⟩
                    rw [hW3] at hE3 hB3
                    have HW3 := Lib.hid hW3
                    have HE3 := Lib.hid hE3; have HB3w := Lib.hid hB3
                    clear hW3 hE3 hB3 HE2
                    rcases h4t : getText ((l.take m).drop (t + k1 + k2 + k3 + 1)) with ⟨vs, k4, e4⟩
                    have ht4 := getText_took ((l.take m).drop (t + k1 + k2 + k3 + 1))
                    have hsl : ((l.take m).drop (t + k1 + k2 + k3 + 1)).length = m - (t + k1 + k2 + k3 + 1) := by rw [List.length_drop, List.length_take, HLN.out]; omega
                    rw [h4t, hsl] at ht4
                    dsimp only at ht4
                    rw [h4t] at HST
                    have G4 := ref_getText (cutA (some ⟨b, o', none⟩) c (t + k1 + k2 + k3 + 1)) (m - (t + k1 + k2 + k3 + 1)) (c - (t + k1 + k2 + k3 + 1)) W3.heap.size ((l.take m).drop (t + k1 + k2 + k3 + 1)) W3 (HLW.out W3 HB3w.out (t + k1 + k2 + k3 + 1) (by omega)) (by omega) (by omega) (by unfold maxLen; omega)
                    rw [h4t] at G4
                    have hvs : (⟨vs.toArray⟩ : ByteArray).size = vs.length := txt_size vs
                    obtain ⟨vt, hvt⟩ : ∃ vt, (⟨vs.toArray⟩ : ByteArray) = vt := ⟨_, rfl⟩
                    rw [hvt] at hvs HST G4
                    have HG4 := Lib.hid G4
                    have hcut4 := fun W => HCUT.out W ((t : Int) + (k1 : Int) + (k2 : Int) + (k3 : Int) + 1) (t + k1 + k2 + k3 + 1) (by omega) (by omega)
                    clear G4 h4t hvt hsl
                    go_upto_region 23 with fail
                    rw [HW3.out]
                    clear HW3 z2 f2 hc1 x0 x1 x2
                    have z2 := HE3.out.cell.2.2.1
                    go_wp2_with fail
                    clear hcut4
                    have z3 := HE3.out.cell.2.2.2
                    have f3 := HE3.out.f 3
                    have hE4 := HE3.out.s3 vt
                    have hB4 := HB3w.out.setCell (p := ⟨wr.heap.size, 3, none⟩) (Nat.le_refl _) (.string vt)
                    obtain ⟨W4, hW4⟩ : ∃ W4, W3.setCell ⟨wr.heap.size, 3, none⟩ (.string vt) = W4 := ⟨_, rfl⟩
                    rw [hW4] at hE4 hB4
                    have HW4 := Lib.hid hW4
                    have HE4 := Lib.hid hE4; have HB4w := Lib.hid hB4
                    clear hW4 hE4 hB4 HE3
                    refine HG4.out.mono ?_
                    rintro e w1 ⟨rfl, rfl⟩
                    clear HG4
                    go_upto_region 26 with fail
                    rw [HW4.out]
                    clear HW4 z2 z3 f3
                    by_cases he4 : e4 = 0
                    · subst he4
                      have HStep : Hid (stepG k ((l.take m).drop t) = some (⟨⟨kk, s3, false⟩, vt⟩, k1 + k2 + k3 + 1 + k4)) := HST.out.trans (by first | (rw [if_pos rfl, if_neg hzn]; rfl) | (simp [hzn]; rfl) | simp [hzn])
                      have HBW := Lib.hid (HB.out.trans (HB4w.out.mono HB.out.size))
                      have hba := (enW_facts W4 ⟨⟨kk, s3, false⟩, vt⟩).2.2.2.2.1
                      have HOA := Lib.hid (own_below (own_below HOw.out HB4w.out) hba)
                      have HBA := Lib.hid (HBW.out.trans (hba.mono HBW.out.size))
                      have HLA := Lib.hid (en_lies W4 ⟨⟨kk, s3, false⟩, vt⟩)
                      have hbs : w.heap.size ≤ W4.heap.size := HBW.out.size
                      obtain ⟨z0, z1, z2, z3⟩ := HE4.out.cell
                      have HX : Hid (szE ⟨⟨kk, s3, false⟩, vt⟩) := ⟨by show kk.size ≤ _; omega, by show vt.size ≤ _; omega, by show s3 < _; omega⟩
                      clear hba HST HNone
                      go_wp2_with (at_builtin; refine wpList_app _ rfl _ _ 27 rfl w.heap.size 59 i0 _ 4 48 Tryz.underlying27 hi hz0 hz1 hz2 rfl (by decide) (.slice Av S.length cv) S.length (ecs S) rfl HOA.out (W4.heap.size + 1) (some ⟨W4.heap.size, 0, none⟩) 1 1 (ecs [(⟨⟨kk, s3, false⟩, vt⟩ : En)]) rfl HLA.out (ecs_one _) (by unfold maxLen; omega) (by omega) (by simp; omega) ?_)
                      intro v3 w3 hown3 hg3 _
                      have HB3 := Lib.hid (HBA.out.grown hg3 HBA.out.size (fun k hk => (HOA.out.lt k hk).1))
                      have HO3 : Hid (w3.ownsRow w.heap.size 59 4 v3 (S ++ [(⟨⟨kk, s3, false⟩, vt⟩ : En)]).length (ecs (S ++ [(⟨⟨kk, s3, false⟩, vt⟩ : En)]))) := by
                        unfold Hid
                        rw [List.length_append, List.length_singleton, show ecs (S ++ [(⟨⟨kk, s3, false⟩, vt⟩ : En)]) = ecs S ++ ecs [(⟨⟨kk, s3, false⟩, vt⟩ : En)] from by simp [ecs]]
                        exact hown3
                      have R : Hid (RG8 w l (m : Int) v3 (.string kk) (.int .i64 ((t : Int) + (k1 : Int) + (k2 : Int) + (k3 : Int) + 1 + (k4 : Int))) w3) :=
                        ⟨S ++ [(⟨⟨kk, s3, false⟩, vt⟩ : En)], t + (k1 + k2 + k3 + 1 + k4), kk, lastK_snoc _ _ _, rfl, (by congr 1; omega), .inl (by omega), HI.out.next HM.out htm (by rw [HK.out]; exact HStep.out), (by omega), (by rw [List.length_append, List.length_singleton]; omega), (fun u hu => by
                          rcases List.mem_append.1 hu with hu | hu
                          · exact HSz.out u hu
                          · rw [List.mem_singleton.1 hu]; exact HX.out), HO3.out, HB3.out⟩
                      clear hown3 hg3 HOA HLA HBA HO3 HB3 HX HStep z0 z1 z2 z3
                      go_wp2
                      go_roundw
                      case rel => exact R.out
                      case measure => simp [intOf]; omega
                    · have hne4 : ((e4 : Int) != 0) = true := by simp; omega
                      have HF := Lib.hid (HNone.out (by rw [HST.out]; simp [hzn, he4]) W4 HB4w.out)
                      clear HNone HST
                      go_wp2
                      go_ret2
                      exact HF.out
              · have hne3 : ((e3 : Int) != 0) = true := by simp; omega
                have HF := Lib.hid (HNone.out (by rw [HST.out, if_neg he3]) W2 HB2.out)
                clear HNone HST
                go_wp2
                go_ret2
                exact HF.out
            · have hne2 : ((e2 : Int) != 0) = true := by simp; omega
              have HF := Lib.hid (HNone.out (stepG_tbad H1.out (by rw [HD2.out]; exact H2.out) he2) wr (Below.refl _ _))
              clear HNone
              go_wp2
              go_ret2
              exact HF.out
          · have hd1 : decide ((k.size : Int) < (n1 : Int)) = true := by simp; omega
            have HF := Lib.hid (HNone.out (stepG_bad H1.out (fun q => hn1 q.2)) wr (Below.refl _ _))
            clear HNone
            go_wp2
            go_ret2
            exact HF.out
        · have hne1 : ((e1 : Int) != 0) = true := by simp; omega
          have HF := Lib.hid (HNone.out (stepG_bad H1.out (fun q => he1 q.1)) wr (Below.refl _ _))
          clear HNone
          go_wp2
          go_ret2
          exact HF.out
      · have hsq : ∀ e ∈ S, e.m.s < 18446744073709551616 := fun e he => (HSz.out e he).2.2
        have HFIN : Hid (o = if okB S = true ∧ encB S = l then some S else none) := by
          unfold Hid
          rw [← HO.out]
          by_cases hen0 : en < 0
          · have hno := getB_noend (HBN.out hen0)
            by_cases hc : okB S = true ∧ encB S = l
            · have := getB_enc S hc.1 hsq
              rw [hc.2, hno] at this
              cases this
            · rw [if_neg hc, hno]
          · obtain ⟨m, rfl⟩ : ∃ m : Nat, en = (m : Int) := ⟨en.toNat, by omega⟩
            exact HI.out.fin hsq (HBE.out m rfl) (by omega)
        have hEL : EL wr wr.heap.size Av S.length cv S := ⟨Lies.of_own HOw.out, Nat.le_refl _, hnv, hcv, fun x hx => by have := HSz.out x hx; unfold szE at this; exact ⟨by omega, by omega⟩⟩
        have HP := Lib.hid (rbp_any S hsq Av S.length cv wr.heap.size wr hEL)
        have hgx : (¬ (t : Int) < en) ∨ ((t : Int) < en ∧ ¬ S.length ≤ 64) := by omega
        obtain ⟨bk, hbk⟩ : ∃ bk, okB S = bk := ⟨_, rfl⟩
        have HBK := Lib.hid hbk
        clear hEL hsq hen HEN HBE HBN hgo hbk
        rcases hgx with hgx | ⟨hgx, hgx2⟩
        · have hge : ¬ (t : Int) < en := hgx
          clear hgx
          go_wp2_with fail
          refine HP.out.mono ?_
          rintro e w1 ⟨hb1, h1, h2⟩
          clear HP
          cases bk
          · obtain rfl := h2 HBK.out
            have HF := Lib.hid (HErr.out (by rw [HFIN.out, if_neg (by rintro ⟨q, _⟩; rw [HBK.out] at q; cases q)]) w1 (HB.out.trans (hb1.mono HB.out.size)))
            clear h1 h2 hb1 HErr HFIN
            go_wp2
            go_ret2
            exact HF.out
          · obtain ⟨A3, c3, rfl, hown3⟩ := h1 HBK.out
            have s1 := run_str (P := Tryz.prog) w1 22 9 5 Tryz.underlying22 Tryz.underlying5 Tryz.underlying9 c3 (Lies.of_own hown3)
            have s2 := run_str (P := Tryz.prog) w1 22 9 5 Tryz.underlying22 Tryz.underlying5 Tryz.underlying9 c (HL.out.below (HB.out.trans (hb1.mono HB.out.size)))
            have HB1 := Lib.hid (HB.out.trans (hb1.mono HB.out.size))
            have HOw1 := Lib.hid (own_below HOw.out hb1)
            have hq : ((⟨(encB S).toArray⟩ : ByteArray).toList == (⟨l.toArray⟩ : ByteArray).toList) = decide (encB S = l) := by
              rw [Lib.toList_data, Lib.toList_data, Bool.eq_iff_iff, beq_iff_eq, decide_eq_true_eq]
            obtain ⟨T1, hT1⟩ : ∃ T1, (⟨(encB S).toArray⟩ : ByteArray) = T1 := ⟨_, rfl⟩
            obtain ⟨T2, hT2⟩ : ∃ T2, (⟨l.toArray⟩ : ByteArray) = T2 := ⟨_, rfl⟩
            rw [hT1] at s1 hq
            rw [hT2] at s2 hq
            clear h1 h2 hb1 hown3 hT1 hT2 HOw HB
            by_cases hqq : encB S = l
            · have hqb : (T1.toList == T2.toList) = true := by rw [hq]; simpa using hqq
              have hqn : (T1.toList != T2.toList) = false := by unfold bne; rw [hqb]; rfl
              have HF : Hid (BGet w o (.returned (.tuple #[.slice Av S.length cv, .int .i64 0])) w1) := ⟨HB1.out, (fun S' e => by
                have h := HFIN.out
                rw [if_pos ⟨HBK.out, hqq⟩, e] at h
                injection h with h
                subst h
                exact ⟨Av, cv, rfl, HOw1.out, HSz.out⟩), fun e => by
                have h := HFIN.out
                rw [if_pos ⟨HBK.out, hqq⟩, e] at h
                cases h⟩
              clear hq hqq HErr HFIN
              go_wp2
              go_ret2
              exact HF.out
            · have hqb : (T1.toList == T2.toList) = false := by rw [hq]; simpa using hqq
              have hqn : (T1.toList != T2.toList) = true := by unfold bne; rw [hqb]; rfl
              have HF := Lib.hid (HErr.out (by rw [HFIN.out, if_neg (by rintro ⟨_, q⟩; exact hqq q)]) w1 HB1.out)
              clear hq hqq HErr HFIN
              go_wp2
              go_ret2
              exact HF.out
        · have hgb : decide ((S.length : Int) ≤ 64) = false := by simp; omega
          have hge : (t : Int) < en := hgx
          clear hgx
          go_wp2_with fail
          refine HP.out.mono ?_
          rintro e w1 ⟨hb1, h1, h2⟩
          clear HP
          cases bk
          · obtain rfl := h2 HBK.out
            have HF := Lib.hid (HErr.out (by rw [HFIN.out, if_neg (by rintro ⟨q, _⟩; rw [HBK.out] at q; cases q)]) w1 (HB.out.trans (hb1.mono HB.out.size)))
            clear h1 h2 hb1 HErr HFIN
            go_wp2
            go_ret2
            exact HF.out
          · obtain ⟨A3, c3, rfl, hown3⟩ := h1 HBK.out
            have s1 := run_str (P := Tryz.prog) w1 22 9 5 Tryz.underlying22 Tryz.underlying5 Tryz.underlying9 c3 (Lies.of_own hown3)
            have s2 := run_str (P := Tryz.prog) w1 22 9 5 Tryz.underlying22 Tryz.underlying5 Tryz.underlying9 c (HL.out.below (HB.out.trans (hb1.mono HB.out.size)))
            have HB1 := Lib.hid (HB.out.trans (hb1.mono HB.out.size))
            have HOw1 := Lib.hid (own_below HOw.out hb1)
            have hq : ((⟨(encB S).toArray⟩ : ByteArray).toList == (⟨l.toArray⟩ : ByteArray).toList) = decide (encB S = l) := by
              rw [Lib.toList_data, Lib.toList_data, Bool.eq_iff_iff, beq_iff_eq, decide_eq_true_eq]
            obtain ⟨T1, hT1⟩ : ∃ T1, (⟨(encB S).toArray⟩ : ByteArray) = T1 := ⟨_, rfl⟩
            obtain ⟨T2, hT2⟩ : ∃ T2, (⟨l.toArray⟩ : ByteArray) = T2 := ⟨_, rfl⟩
            rw [hT1] at s1 hq
            rw [hT2] at s2 hq
            clear h1 h2 hb1 hown3 hT1 hT2 HOw HB
            by_cases hqq : encB S = l
            · have hqb : (T1.toList == T2.toList) = true := by rw [hq]; simpa using hqq
              have hqn : (T1.toList != T2.toList) = false := by unfold bne; rw [hqb]; rfl
              have HF : Hid (BGet w o (.returned (.tuple #[.slice Av S.length cv, .int .i64 0])) w1) := ⟨HB1.out, (fun S' e => by
                have h := HFIN.out
                rw [if_pos ⟨HBK.out, hqq⟩, e] at h
                injection h with h
                subst h
                exact ⟨Av, cv, rfl, HOw1.out, HSz.out⟩), fun e => by
                have h := HFIN.out
                rw [if_pos ⟨HBK.out, hqq⟩, e] at h
                cases h⟩
              clear hq hqq HErr HFIN
              go_wp2
              go_ret2
              exact HF.out
            · have hqb : (T1.toList == T2.toList) = false := by rw [hq]; simpa using hqq
              have hqn : (T1.toList != T2.toList) = true := by unfold bne; rw [hqb]; rfl
              have HF := Lib.hid (HErr.out (by rw [HFIN.out, if_neg (by rintro ⟨_, q⟩; exact hqq q)]) w1 HB1.out)
              clear hq hqq HErr HFIN
              go_wp2
              go_ret2
              exact HF.out
end Go.Proofs.YtbbimfbkllellaaGreatDoor

namespace Go.Proofs.YtbbimfbkllellaaGreatDoor
open Go.RowKit
set_option linter.unusedVariables false
set_option maxRecDepth 100000

/-- what the document's Seek answers -/
def RSk8 (w : World) (o : Option (List En)) (m : Mk) (e : Ending) (w' : World) : Prop :=
  Below w.heap.size w w' ∧ (∀ S, o = some S → ∃ A c, e = .returned (.tuple #[.slice A (notB m S).length c, .int .i64 0]) ∧ w'.ownsRow w.heap.size 59 4 (.slice A (notB m S).length c) (notB m S).length (ecs (notB m S))) ∧
    (o = none → e = .returned (.tuple #[.slice none 0 0, .int .i64 4]))
set_option maxHeartbeats 2000000 in
theorem rseek8_any (A : Option Addr) (n c : Nat) (l : List UInt8) (m : Mk) (w : World) (h : Lies w w.heap.size 1 A n (l.map bv)) (hnc : n ≤ c) (hc : c ≤ 140737488351232) (hl : n ≤ 1000000) (hmk : m.k.size ≤ 1000000) :
    Calls Tryz.prog 8 #[.slice A n c, m.v] w (RSk8 w (getB l) m) := by
  obtain ⟨b0, b1, b2, hB, hz⟩ := mkW_facts w m
  have HW : Hid (w.alloc (.cells #[.string m.k, .int .u64 (m.s : Int), .bool m.g] 25) = mkW w m) := rfl
  have hx0 : MkAt (mkW w m) w.heap.size m := heap_alloc_new w _
  obtain ⟨W1, hW⟩ : ∃ W1, mkW w m = W1 := ⟨_, rfl⟩
  rw [hW] at hB hz HW hx0
  have HG := Lib.hid (rget8_any A n c l W1 ((h.below hB).more hB.size) hnc hc hl)
  have HX := Lib.hid hx0; have HB := Lib.hid hB
  obtain ⟨o, ho⟩ : ∃ o, getB l = o := ⟨_, rfl⟩
  rw [ho] at HG ⊢
  have hlen : ∀ S, o = some S → S.length ≤ 64 ∧ ∀ e ∈ S, e.m.k.size ≤ 1000000 := fun S e => by
    obtain ⟨_, h1, h2, _⟩ := (okB_iff S).1 (getB_some (ho.trans e)).1
    exact ⟨h1, fun x hx => by have := fine_size (h2 x hx); omega⟩
  have HLen := Lib.hid hlen
  have HFR : Hid (∀ (S : List En) (A : Option Addr) (n c B : Nat) (w : World), Lies w B 4 A n (ecs S) → B ≤ w.heap.size → n ≤ 4096 → (∀ e ∈ S, e.m.k.size ≤ 1000000) →
      Calls Tryz.prog 24 #[.slice A n c, m.v] w fun e w' => ∃ v, e = .returned v ∧ w'.ownsRow w.heap.size 59 4 v (notB m S).length (ecs (notB m S)) ∧ Below w.heap.size w w') :=
    fun S A n c B w h1 h2 h3 h4 => rfrom8_any S A n c B w h1 h2 h3 h4 m hmk
  unfold Mk.v at HFR ⊢
  clear b0 b1 b2 hB hz hx0 hW h ho hlen
  go_enter Tryz.func8, Tryz.ntmps8
  go_wp2_with fail
  rw [HW.out]
  clear HW
  refine HG.out.mono ?_
  rintro e w1 ⟨hb1, h1, h2⟩
  cases o with
  | none =>
    obtain rfl := h2 rfl
    have HF : Hid (RSk8 w none m (.returned (.tuple #[.slice none 0 0, .int .i64 4])) w1) := ⟨HB.out.trans (hb1.mono HB.out.size), (fun S e => by cases e), fun _ => rfl⟩
    clear h1 h2 hb1 HG
    go_wp2
    go_ret2
    exact HF.out
  | some S =>
    obtain ⟨A1, c1, rfl, hown, hsz⟩ := h1 S rfl
    have hbw := HB.out.trans (hb1.mono HB.out.size)
    obtain ⟨h64, hks⟩ := HLen.out S rfl
    obtain ⟨m0, m1, m2⟩ := (HX.out.below hb1 HX.out.lt).cell
    have HV := Lib.hid (HFR.out S A1 S.length c1 w1.heap.size w1 (Lies.of_own hown) (Nat.le_refl _) (by omega) hks)
    have HBW := Lib.hid hbw
    clear h1 h2 hb1 HG hown hsz hbw hks HLen
    go_wp2_with fail
    refine HV.out.mono ?_
    rintro e w2 ⟨v, rfl, ho2, hb2⟩
    obtain ⟨A2, c2, rfl, _⟩ := own_shape ho2
    have HF : Hid (RSk8 w (some S) m (.returned (.tuple #[.slice A2 (notB m S).length c2, .int .i64 0])) w2) := by
      refine ⟨HBW.out.trans (hb2.mono HBW.out.size), (fun S' e => ?_), fun e => by cases e⟩
      injection e with e; subst e
      exact ⟨A2, c2, rfl, own_base ho2 HBW.out.size⟩
    clear HV HFR ho2 hb2 m0 m1 m2
    go_wp2
    go_ret2
    exact HF.out
end Go.Proofs.YtbbimfbkllellaaGreatDoor

