/-
  The document's own (bucketlineref04.Rises; bucketlineref08.alike, May).
  The document's own (bucketlineref08.May).
  The document's own (bucketlineref08.alike).
-/
import Derived.Test.YtbbimfbkllellaaGreatDoorRefFine
import Derived.Test.YtbbimfbkllellaaGreatDoorBkCD
import Derived.LoopTactic
namespace Go.Proofs.YtbbimfbkllellaaGreatDoor
open Go.RowKit
set_option linter.unusedVariables false
set_option maxRecDepth 100000

/-- does each stand behind the one ahead? -/
def upB (S : List En) (j : Nat) : Bool :=
  match S[j]?, S[j + 1]? with
  | some a, some b => decide (cmpM a.m b.m < 0)
  | _, _ => false
theorem up_some {S : List En} {j : Nat} {a b : En} (ha : S[j]? = some a) (hb : S[j + 1]? = some b) : upB S j = decide (cmpM a.m b.m < 0) := by
  unfold upB; rw [ha, hb]
def ups (S : List En) : Bool := decide (S.Pairwise fun a b => cmpM a.m b.m < 0)
theorem ups_iff (S : List En) : ups S = true ↔ ∀ j, j + 1 < S.length → upB S j = true := by
  unfold ups
  rw [decide_eq_true_eq]
  constructor
  · intro h j hj
    rw [up_some (List.getElem?_eq_getElem (by omega)) (List.getElem?_eq_getElem hj)]
    exact decide_eq_true (List.pairwise_iff_getElem.1 h j (j + 1) (by omega) hj (by omega))
  · intro h
    rw [List.pairwise_iff_getElem]
    have hd : ∀ d i (hi : i < S.length) (hj : i + d + 1 < S.length), cmpM S[i].m S[i + d + 1].m < 0 := by
      intro d
      have hn : ∀ i (hj : i + 1 < S.length), cmpM S[i].m S[i + 1].m < 0 := fun i hj => by
        have := h i hj
        rw [up_some (List.getElem?_eq_getElem (by omega)) (List.getElem?_eq_getElem hj)] at this
        exact of_decide_eq_true this
      induction d with
      | zero => intro i hi hj; exact hn i hj
      | succ d ih =>
        intro i hi hj
        exact cmp_trans (ih i hi (by omega)) (hn (i + d + 1) hj)
    intro i j hi hj hij
    obtain ⟨d, rfl⟩ : ∃ d, j = i + d + 1 := ⟨j - i - 1, by omega⟩
    exact hd d i hi hj
abbrev RRs (b o o2 : Nat) (x m : Mk) (w : World) : Prop :=
  w.cell? ⟨b, o, none⟩ = some (.string x.k) ∧ w.cell? ⟨b, o + 1, none⟩ = some (.int .u64 (x.s : Int)) ∧ w.cell? ⟨b, o + 2, none⟩ = some (.bool x.g) ∧
  w.cell? ⟨b, o2, none⟩ = some (.string m.k) ∧ w.cell? ⟨b, o2 + 1, none⟩ = some (.int .u64 (m.s : Int)) ∧ w.cell? ⟨b, o2 + 2, none⟩ = some (.bool m.g)
theorem RRs.below {b o o2 : Nat} {x m : Mk} {w w' : World} (H : RRs b o o2 x m w) (hb : Below w.heap.size w w') : RRs b o o2 x m w' := by
  have up : ∀ {p v}, w.cell? p = some v → w'.cell? p = some v := fun {p v} h => (hb.cell (World.block_lt_of_cell? w _ h)).trans h
  exact ⟨up H.1, up H.2.1, up H.2.2.1, up H.2.2.2.1, up H.2.2.2.2.1, up H.2.2.2.2.2⟩
def RrR (w : World) (n : Nat) (S : List En) (i : Value) (wr : World) : Prop :=
  ∃ k : Nat, 1 ≤ k ∧ (k ≤ n ∨ k = 1) ∧ i = .int .i64 (k : Int) ∧ (∀ j, j + 1 < k → upB S j = true) ∧ Below w.heap.size w wr

set_option maxHeartbeats 4000000 in
theorem rrises_any (S : List En) (A : Option Addr) (n c B : Nat) (w : World) (hL : EL w B A n c S) (hsz : ∀ e ∈ S, e.m.k.size ≤ 1000000) (hn6 : n ≤ 1000000) :
    Calls Tryz.prog 123 #[.slice A n c] w fun e w' => e = .returned (.bool (ups S)) ∧ Below w.heap.size w w' := by
  have hln := hL.lies.elen
  have HEL := Lib.hid hL; have HLn := Lib.hid hln; have HSz := Lib.hid hsz
  have hnc := hL.nc
  clear hL hln hsz
  go_enter Tryz.func123, Tryz.ntmps123
  go_wp2
  go_loopw [3] (fun i wr => RrR w n S i wr) (fun i _ => n - (intOf i).toNat)
  case atStart => exact ⟨1, Nat.le_refl _, .inr rfl, rfl, fun j hj => by omega, Below.refl _ _⟩
  case round =>
    obtain ⟨k, hk1, hk, rfl, hz, hb⟩ := hrel
    have HZ := Lib.hid hz; have HB := Lib.hid hb
    clear hz hb
    by_cases hlt : k < n
    · obtain ⟨j, rfl⟩ : ∃ j, k = j + 1 := ⟨k - 1, by omega⟩
      have hELr : EL wr B A n c S := HEL.out.keep (fun p hp => HB.out.cell (Nat.lt_of_lt_of_le hp HEL.out.B)) HB.out.size
      obtain ⟨b, o, x, rfl, hbB, hu, c0, c1, c2, _⟩ := hELr.lies.entry hlt
      obtain ⟨b', o', y, hA', _, hu', d0, d1, d2, _⟩ := hELr.lies.entry (i := j) (by omega)
      injection hA' with hA'
      injection hA' with e1 e2
      subst e1 e2
      have hd1 : Below wr.heap.size wr wr.drew := ⟨rfl, rfl, rfl, Nat.le_refl _, fun _ _ => rfl⟩
      have Sd : RRs b (o + j * 4) (o + (j + 1) * 4) y.m x.m wr.drew := RRs.below ⟨d0, d1, d2, c0, c1, c2⟩ hd1
      have HC := Lib.hid (rcmp_any y.m x.m wr.drew (HSz.out y (List.mem_of_getElem? hu')) (HSz.out x (List.mem_of_getElem? hu)))
      have HUp := Lib.hid (up_some hu' hu)
      have HBd := Lib.hid (HB.out.trans (hd1.mono HB.out.size))
      unfold Mk.v at HC
      obtain ⟨z, hzz⟩ : ∃ z, cmpM y.m x.m = z := ⟨_, rfl⟩
      rw [hzz] at HC HUp
      obtain ⟨q, hq⟩ : ∃ q, j + 1 = q := ⟨_, rfl⟩
      rw [hq] at hlt Sd ⊢
      have i0 : (0 : Int) ≤ (j : Int) := by omega
      have i1 : (j : Int) < (n : Int) := by omega
      have i2 : IntKind.i64.wrap ((q : Int) - 1) = (j : Int) := by rw [IntWalk.i64_in] <;> omega
      have i3 : (0 : Int) ≤ (q : Int) := by omega
      have i4 : (q : Int) < (n : Int) := by omega
      have HQ := Lib.hid hq
      clear hu hu' c0 c1 c2 d0 d1 d2 hELr hd1 hzz hk1 hk hq
      by_cases hzn : z < 0
      · have hzi : decide ((0 : Int) ≤ z) = false := by rw [decide_eq_false_iff_not]; omega
        have HO : Hid (∀ i, i + 1 < q + 1 → upB S i = true) := fun i hi => by
          have := HQ.out
          by_cases hi2 : i + 1 < j + 1
          · exact HZ.out i (by omega)
          · obtain rfl : i = j := by omega
            rw [HUp.out, decide_eq_true hzn]
        clear HZ
        go_wp2
        go_region_held3 (fun w' => RRs b (o + j * 4) (o + q * 4) y.m x.m w') (first | exact Sd | exact S1 | fail)
          (first | (go_at_call 84; refine HC.out.mono ?_; rintro e w6 ⟨rfl, hb6⟩; have S1 := RRs.below Sd hb6) | fail)
        have H6 := Lib.hid (HBd.out.trans (hb6.mono HBd.out.size))
        clear Sd S1 hb6 i2
        go_wp2
        go_roundw
        case rel => exact ⟨q + 1, by omega, .inl hlt, by go_num, HO.out, H6.out⟩
        case measure => simp [intOf]; omega
      · have hzi : decide ((0 : Int) ≤ z) = true := by rw [decide_eq_true_eq]; omega
        have HF : Hid (ups S = false) := by
          unfold Hid
          cases hr : ups S with
          | false => rfl
          | true => have := (ups_iff S).1 hr j (by rw [HLn.out]; have := HQ.out; omega); rw [HUp.out, decide_eq_false hzn] at this; cases this
        go_wp2
        go_region_held3 (fun w' => RRs b (o + j * 4) (o + q * 4) y.m x.m w') (first | exact Sd | exact S1 | fail)
          (first | (go_at_call 84; refine HC.out.mono ?_; rintro e w6 ⟨rfl, hb6⟩; have S1 := RRs.below Sd hb6) | fail)
        have H6 := Lib.hid (HBd.out.trans (hb6.mono HBd.out.size))
        clear Sd S1 hb6 i2
        go_wp2
        go_ret
        exact ⟨by rw [HF.out]; rfl, H6.out⟩
    · have HT : Hid (ups S = true) := (ups_iff S).2 fun j hj => HZ.out j (by have := HLn.out; omega)
      have hlt2 : decide (k < n) = false := decide_eq_false hlt
      go_wp2
      go_ret
      exact ⟨by rw [HT.out]; rfl, HB.out⟩
end Go.Proofs.YtbbimfbkllellaaGreatDoor

namespace Go.Proofs.YtbbimfbkllellaaGreatDoor
open Go.RowKit
set_option linter.unusedVariables false
set_option maxRecDepth 100000

def MayR (w : World) (n : Nat) (S : List En) (i : Value) (wr : World) : Prop :=
  ∃ k : Nat, k ≤ n ∧ i = .int .i64 (k : Int) ∧ (∀ j x, j < k → S[j]? = some x → fineE x = true) ∧ Below w.heap.size w wr
theorem ok_parts (S : List En) : okB S = (decide (1 ≤ S.length) && (decide (S.length ≤ 64) && (S.all fineE && ups S))) := rfl

set_option maxHeartbeats 4000000 in
theorem rmay_any (S : List En) (A : Option Addr) (n c B : Nat) (w : World) (hL : EL w B A n c S) :
    Calls Tryz.prog 80 #[.slice A n c] w fun e w' => e = .returned (.bool (okB S)) ∧ Below w.heap.size w w' := by
  have hln := hL.lies.elen
  have HEL := Lib.hid hL; have HLn := Lib.hid hln
  by_cases h1 : n < 1
  · have HR : Hid (okB S = false) := by unfold Hid okB; rw [decide_eq_false (by omega)]; rfl
    have h1' : decide ((n : Int) < 1) = true := decide_eq_true (by omega)
    clear hL hln
    go_enter Tryz.func80, Tryz.ntmps80
    go_wp2
    go_ret
    exact ⟨by rw [HR.out]; rfl, Below.refl _ _⟩
  · have h1' : decide ((n : Int) < 1) = false := decide_eq_false (by omega)
    by_cases h2 : 64 < n
    · have HR : Hid (okB S = false) := by unfold Hid okB; rw [decide_eq_false (p := S.length ≤ 64) (by omega)]; simp
      have h2' : decide ((64 : Int) < (n : Int)) = true := decide_eq_true (by omega)
      clear hL hln
      go_enter Tryz.func80, Tryz.ntmps80
      go_wp2
      go_ret
      exact ⟨by rw [HR.out]; rfl, Below.refl _ _⟩
    · have h2' : decide ((64 : Int) < (n : Int)) = false := decide_eq_false (by omega)
      have HP : Hid (okB S = (S.all fineE && ups S)) := by
        unfold Hid
        rw [ok_parts, decide_eq_true (show 1 ≤ S.length by omega), decide_eq_true (show S.length ≤ 64 by omega)]; rfl
      clear hL hln
      go_enter Tryz.func80, Tryz.ntmps80
      go_wp2
      go_loopw [3] (fun i wr => MayR w n S i wr) (fun i _ => n - (intOf i).toNat)
      case atStart => exact ⟨0, Nat.zero_le _, rfl, fun j x hj => by omega, Below.refl _ _⟩
      case round =>
        obtain ⟨k, hk, rfl, hz, hb⟩ := hrel
        have HZ := Lib.hid hz; have HB := Lib.hid hb
        clear hz hb
        have hELr : EL wr B A n c S := HEL.out.keep (fun p hp => HB.out.cell (Nat.lt_of_lt_of_le hp HEL.out.B)) HB.out.size
        have HELr := Lib.hid hELr
        by_cases hlt : k < n
        · obtain ⟨b, o, x, rfl, hbB, hu, c0, c1, c2, c3⟩ := hELr.lies.entry hlt
          have hxs := hELr.sz x (List.mem_of_getElem? hu)
          have HC := Lib.hid (rfine_any x wr hxs.1 hxs.2)
          have HU := Lib.hid hu
          unfold En.v at HC
          obtain ⟨q, hq⟩ : ∃ q, fineE x = q := ⟨_, rfl⟩
          have HQ := Lib.hid hq
          rw [hq] at HC
          clear hu hxs hELr hq
          go_wp2_with fail
          refine HC.out.mono ?_
          rintro e w1 ⟨rfl, hb1⟩
          have H1 := Lib.hid (HB.out.trans (hb1.mono HB.out.size))
          clear hb1 HC c0 c1 c2 c3
          cases q
          · have HF : Hid (okB S = false) := by
              unfold Hid
              rw [HP.out]
              have : S.all fineE = false := by
                rw [List.all_eq_false]
                exact ⟨x, List.mem_of_getElem? HU.out, by rw [HQ.out]; decide⟩
              rw [this]; rfl
            go_wp2
            go_ret
            exact ⟨by rw [HF.out]; rfl, H1.out⟩
          · have HO : Hid (∀ j y, j < k + 1 → S[j]? = some y → fineE y = true) := fun j y hj hy => by
              by_cases hj2 : j < k
              · exact HZ.out j y hj2 hy
              · obtain rfl : j = k := by omega
                rw [HU.out] at hy
                injection hy with hy
                rw [← hy]; exact HQ.out
            go_wp2
            go_roundw
            case rel => exact ⟨k + 1, hlt, by go_num, HO.out, H1.out⟩
            case measure => simp [intOf]; omega
        · obtain rfl : k = n := by omega
          have HAll : Hid (∀ e ∈ S, fineE e = true) := fun e he => by
            obtain ⟨j, hj⟩ := List.getElem?_of_mem he
            exact HZ.out j e (by have := (List.getElem?_eq_some_iff.1 hj).1; have := HLn.out; omega) hj
          have HFin : Hid (okB S = ups S) := by
            unfold Hid
            rw [HP.out, List.all_eq_true.2 HAll.out]; rfl
          have HR := Lib.hid (rrises_any S A k c B wr hELr (fun e he => by have := fine_size (HAll.out e he); omega) (by omega))
          clear hELr
          go_wp2_with fail
          refine HR.out.mono ?_
          rintro e w1 ⟨rfl, hb1⟩
          have H1 := Lib.hid (HB.out.trans (hb1.mono HB.out.size))
          clear hb1 HR
          go_wp2
          go_ret
          exact ⟨by rw [HFin.out]; rfl, H1.out⟩
end Go.Proofs.YtbbimfbkllellaaGreatDoor

namespace Go.Proofs.YtbbimfbkllellaaGreatDoor
open Go.RowKit
set_option linter.unusedVariables false
set_option maxRecDepth 100000

theorem cpl_comm : ∀ l m : List UInt8, cpl l m = cpl m l
  | [], m => by rw [cpl_nil]; simp [cpl]
  | a :: l, [] => by simp [cpl]
  | a :: l, b :: m => by
    unfold cpl
    by_cases h : a = b
    · rw [if_pos h, if_pos h.symm, cpl_comm l m]
    · rw [if_neg h, if_neg (fun e => h e.symm)]
theorem cpK_comm (a b : ByteArray) : cpK a b = cpK b a := cpl_comm _ _
theorem cp_at {a b : ByteArray} {k : Nat} (hk : k ≤ a.size) (hkb : k ≤ b.size) (ht : a.data.toList.take k = b.data.toList.take k)
    (hf : k < a.size → k < b.size → a.data.toList[k]? ≠ b.data.toList[k]?) : cpK a b = k := by
  refine cpl_eq _ _ k (by rw [slen]; exact hk) (fun j hj => ⟨by rw [slen]; omega, ?_⟩) (fun hl h => ?_)
  · have := congrArg (fun l : List UInt8 => l[j]?) ht
    simpa [List.getElem?_take, hj] using this
  · rw [slen] at hl
    rw [slen] at h
    exact hf hl h.1 h.2

set_option maxHeartbeats 2000000 in
theorem ralike_any (a b : ByteArray) (w : World) (ha : a.size ≤ 1000000) (hb : b.size ≤ 1000000) :
    Calls Tryz.prog 81 #[.string a, .string b] w fun e w' => e = .returned (.int .i64 (cpK a b : Int)) ∧ ∃ q, w' = w.drewN q := by
  have HA := Lib.hid (slen a); have HB := Lib.hid (slen b)
  go_enter Tryz.func81, Tryz.ntmps81
  go_wp2
  go_loopw [5] (fun i wr => ∃ k q : Nat, k ≤ a.size ∧ k ≤ b.size ∧ i = .int .i64 (k : Int) ∧ a.data.toList.take k = b.data.toList.take k ∧ wr = w.drewN q) (fun i _ => a.size - (intOf i).toNat)
  case atStart => exact ⟨0, 0, Nat.zero_le _, Nat.zero_le _, rfl, by simp, rfl⟩
  case round =>
    obtain ⟨k, q, hka, hkb, rfl, heq, rfl⟩ := hrel
    have HE := Lib.hid heq; clear heq
    by_cases h1 : k < a.size
    · by_cases h2 : k < b.size
      · obtain ⟨x, hx⟩ : ∃ x, a.data.toList[k]? = some x := ⟨_, List.getElem?_eq_getElem (by rw [HA.out]; exact h1)⟩
        obtain ⟨y, hy⟩ : ∃ y, b.data.toList[k]? = some y := ⟨_, List.getElem?_eq_getElem (by rw [HB.out]; exact h2)⟩
        have r1 := run_idx a k x hx
        have r2 := run_idx b k y hy
        have d1 : decide (k < a.size) = true := decide_eq_true h1
        have d2 : decide (k < b.size) = true := decide_eq_true h2
        by_cases hxy : x = y
        · have hbq : ((x.toNat : Int) == (y.toNat : Int)) = true := by simp [hxy]
          have HT := Lib.hid (show a.data.toList.take (k + 1) = b.data.toList.take (k + 1) from by rw [List.take_add_one, List.take_add_one, HE.out, hx, hy, hxy])
          clear hx hy hxy
          generalize x.toNat = xn at *
          generalize y.toNat = yn at *
          go_wp2
          go_quiet (fail)
          go_wp2
          go_roundw
          case rel => exact ⟨k + 1, _, h1, h2, by go_num, HT.out, by first | rfl | (rw [World.drewN_drewN])⟩
          case measure => simp [intOf]; omega
        · have hbq : ((x.toNat : Int) == (y.toNat : Int)) = false := by
            have : x.toNat ≠ y.toNat := fun h => hxy (UInt8.toNat_inj.1 h)
            simp; omega
          have HT := Lib.hid (show cpK a b = k from cp_at hka hkb HE.out (fun _ _ => by rw [hx, hy]; exact fun e => hxy (by injection e)))
          clear hx hy hxy
          generalize x.toNat = xn at *
          generalize y.toNat = yn at *
          go_wp2
          go_quiet (fail)
          go_wp2
          go_ret
          exact ⟨by rw [HT.out]; rfl, _, by first | rfl | (rw [World.drewN_drewN])⟩
      · have d1 : decide (k < a.size) = true := decide_eq_true h1
        have d2 : decide (k < b.size) = false := decide_eq_false h2
        have HT := Lib.hid (show cpK a b = k from cp_at hka hkb HE.out (fun _ h => absurd h h2))
        go_wp2
        go_quiet (fail)
        go_wp2
        go_ret
        exact ⟨by rw [HT.out]; rfl, _, by first | rfl | (rw [World.drewN_drewN])⟩
    · have d1 : decide (k < a.size) = false := decide_eq_false h1
      have HT := Lib.hid (show cpK a b = k from cp_at hka hkb HE.out (fun h _ => absurd h h1))
      go_wp2
      go_quiet (fail)
      go_wp2
      go_ret
      exact ⟨by rw [HT.out]; rfl, _, by first | rfl | (rw [World.drewN_drewN])⟩
end Go.Proofs.YtbbimfbkllellaaGreatDoor

