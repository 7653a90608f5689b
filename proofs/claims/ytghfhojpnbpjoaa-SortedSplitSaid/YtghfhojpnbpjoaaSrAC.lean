/-
  Contracts of package sorted: isValid, framed, four, encodedMark, note; a file's parts in their block.
  Package sorted: a file's parts in their block; note, add.
  Package sorted: add: a block's entries are put behind a file's others.
-/
import Derived.Test.YtghfhojpnbpjoaaSrMQ
import Derived.Test.YtghfhojpnbpjoaaBkPQ
import Derived.Test.YtghfhojpnbpjoaaFrX
import Derived.Test.YtghfhojpnbpjoaaInA
import Derived.Test.YtghfhojpnbpjoaaKpX
import Derived.Test.YtghfhojpnbpjoaaOrX
import Derived.BigQuiet
import Derived.Deep.Cut
namespace Go.Proofs.Ytghfhojpnbpjoaa
open Go.RowKit
set_option linter.unusedVariables false
set_option maxRecDepth 100000

theorem svalid_any (x : En) (w : World) (hk : x.m.k.size ≤ 140737488351232) (hx : x.x.size ≤ 140737488351232) :
    Calls Try.prog 41 #[x.v] w fun e w' => e = .returned (.bool (fineE x)) ∧ Below w.heap.size w w' := by
  unfold fineE En.v
  obtain ⟨b0, b1, b2, b3, hB, _⟩ := enW_facts w x
  have HB := Lib.hid hB
  have HC : Hid (∀ W, Calls Try.prog 65 #[.string x.m.k] W fun e w' => e = .returned (.bool (chk x.m.k)) ∧ W = w') := fun W => chk_any x.m.k W (by omega)
  clear hB b0 b1 b2 b3
  obtain ⟨c, hc⟩ : ∃ c, chk x.m.k = c := ⟨_, rfl⟩
  rw [hc] at HC ⊢
  clear hc
  cases c
  · go_enter Try.func41, Try.ntmps41
    go_wp2_with (go_at_call 65; refine (HC.out _).mono ?_; rintro e w' ⟨rfl, rfl⟩)
    go_ret
    exact ⟨rfl, HB.out⟩
  · by_cases h2 : x.x.size ≤ 256
    · have i2 : (x.x.size : Int) ≤ 256 := by omega
      have d2 : decide (x.x.size ≤ 256) = true := decide_eq_true h2
      rw [d2]
      cases h3 : x.x.toList.isEmpty <;> cases h4 : x.m.g <;>
      · go_enter Try.func41, Try.ntmps41
        go_wp2_with (go_at_call 65; refine (HC.out _).mono ?_; rintro e w' ⟨rfl, rfl⟩)
        go_ret
        exact ⟨rfl, by rw [← h4]; exact HB.out⟩
    · have i2 : ¬ (x.x.size : Int) ≤ 256 := by omega
      have d2 : decide (x.x.size ≤ 256) = false := decide_eq_false h2
      rw [d2]
      go_enter Try.func41, Try.ntmps41
      go_wp2_with (go_at_call 65; refine (HC.out _).mono ?_; rintro e w' ⟨rfl, rfl⟩)
      go_ret
      exact ⟨rfl, HB.out⟩


theorem framed_any (A : Option Addr) (n c : Nat) (r : List UInt8) (w : World) (h : Lies w w.heap.size 1 A n (r.map bv)) (hn : n ≤ 65536) :
    Calls Try.prog 45 #[.slice A n c] w fun e w' => Got w (n + 8) (fr r) e w' := by
  have HP := Lib.hid (framesPut_ok A n c r w h hn)
  clear h
  go_enter Try.func45, Try.ntmps45
  go_wp2_with fail
  refine HP.out.mono ?_
  rintro e w1 ⟨g, rfl, ho, hb⟩
  have HG := Lib.hid (got_of ho hb)
  clear ho hb HP
  go_wp2
  go_ret
  exact HG.out
theorem sfour_any (k : Nat) (w : World) (hk : k < 4294967296) :
    Calls Try.prog 48 #[.int .i64 (k : Int)] w fun e w' => Got w 4 (four k) e w' := by
  have HP := Lib.hid (putFour_nil k w hk)
  have hw : IntKind.u32.wrap (k : Int) = (k : Int) := by rw [IntKind.wrap_u32']; omega
  go_enter Try.func48, Try.ntmps48
  go_wp2_with fail
  refine HP.out.mono ?_
  rintro e w1 ⟨A, c, rfl, h1, h2, ho, hb⟩
  have HG := Lib.hid (got_of ho hb)
  clear ho hb HP h1 h2
  go_wp2
  go_ret
  exact HG.out

theorem got_app1 {w w3 : World} {v : Value} {L : List UInt8} {x : UInt8} (h : w3.ownsRow w.heap.size 5 1 v (L.length + 1) (L.map bv ++ [bv x])) (hb : Below w.heap.size w w3) : Got w (L ++ [x]).length (L ++ [x]) (.returned v) w3 :=
  got_of (by rw [List.map_append, List.length_append]; exact h) hb
/-- a mark's bytes, but for the last one -/
def encM0 (m : Mk) : List UInt8 := (Vi.enc m.k.size ++ m.k.data.toList) ++ Vi.enc m.s
theorem encM_eq (m : Mk) : encM m = encM0 m ++ [if m.g then 1 else 0] := by unfold encM encM0; simp
set_option maxHeartbeats 2000000 in
theorem encMark_any (m : Mk) (w : World) (hk : m.k.size ≤ 137438953472) (hs : m.s < 18446744073709551616) :
    Calls Try.prog 76 #[m.v] w fun e w' => Got w (encM m).length (encM m) e w' := by
  obtain ⟨i0, hi, hz0, hz1, hz2⟩ := info_parts byte_info
  obtain ⟨b0, b1, b2, hB, hz⟩ := mkW_facts w m
  have h1 := Vi.enc_len m.k.size
  have h2 := Vi.enc_len m.s
  have hml : (encM0 m).length = (Vi.enc m.k.size).length + m.k.size + (Vi.enc m.s).length := by unfold encM0; rw [List.length_append, List.length_append, slen]
  rw [encM_eq]
  unfold Mk.v
  obtain ⟨W, hW⟩ : ∃ W, mkW w m = W := ⟨_, rfl⟩
  have HW : Hid (w.alloc (.cells #[.string m.k, .int .u64 (m.s : Int), .bool m.g] 38) = W) := hW
  rw [hW] at b0 b1 b2 hB hz
  have HB := Lib.hid hB
  have HM : Hid (MkAt W w.heap.size m) := by unfold Hid MkAt; rw [← HW.out]; exact heap_alloc_new w _
  have hwl : w.heap.size < W.heap.size := by omega
  have KE : Hid (∀ W', Below W.drew.heap.size W.drew W' → W'.cell? ⟨w.heap.size, 0, none⟩ = some (.string m.k) ∧ W'.cell? ⟨w.heap.size, 1, none⟩ = some (.int .u64 (m.s : Int)) ∧ W'.cell? ⟨w.heap.size, 2, none⟩ = some (.bool m.g)) := fun W' hb => by
    have h : W'.heap[w.heap.size]? = some (.cells #[.string m.k, .int .u64 (m.s : Int), .bool m.g] 38 (0, 0)) := (hb.block _ hwl).trans HM.out
    exact ⟨cell_of_row _ _ 0 _ _ (0, 0) h, cell_of_row _ _ 1 _ _ (0, 0) h, cell_of_row _ _ 2 _ _ (0, 0) h⟩
  have HT := Lib.hid (fun W' => putText_ans m.k W' (by omega))
  have HP := Lib.hid (show ∀ (A : Option Addr) (n c : Nat) (w0 W' : World), Ans w0 (Vi.enc m.k.size ++ m.k.data.toList) A n c W' → Calls Try.prog 9 #[.slice A n c, .int .u64 (m.s : Int)] W' fun e w' => ∃ A' c', e = .returned (.slice A' (encM0 m).length c') ∧ (w'.ownsRow W'.heap.size 5 1 (.slice A' (encM0 m).length c') (encM0 m).length ((encM0 m).map bv) ∧ Below W'.heap.size W' w' ∧ Below w0.heap.size w0 w') from fun A n c w0 W' hA => (put_any A n c m.s _ W' hA.2.1 hs (by rw [hA.1, List.length_append, slen]; omega)).mono fun e w' ⟨v, he, ho, hb⟩ => by
      have e2 : n + (Vi.enc m.s).length = (encM0 m).length := by rw [hA.1, hml, List.length_append, slen]
      rw [e2] at ho
      obtain ⟨A', c', rfl, _⟩ := own_shape ho
      exact ⟨A', c', he, ho, hb, hA.2.2.trans (hb.mono hA.2.2.size)⟩)
  have HBd : Hid (Below w.heap.size w W.drew) := hB.drew
  have HLen : Hid ((encM0 m).length ≤ 274877906944) := by unfold Hid; omega
  have HM' := HM
  clear hB hz hW HB HM h1 h2 hml hk
  obtain ⟨gn, hgn⟩ : ∃ gn, m.g = gn := ⟨_, rfl⟩
  obtain ⟨L, hL⟩ : ∃ L, encM0 m = L := ⟨_, rfl⟩
  rw [hgn] at KE b2 HW ⊢
  rw [hL] at HP HLen ⊢
  clear hgn HM' hL
  go_enter Try.func76, Try.ntmps76
  go_wp2_with fail
  rw [HW.out]
  go_region_held3 (fun w' => w'.cell? ⟨w.heap.size, 0, none⟩ = some (.string m.k) ∧ w'.cell? ⟨w.heap.size, 1, none⟩ = some (.int .u64 (m.s : Int)) ∧ w'.cell? ⟨w.heap.size, 2, none⟩ = some (.bool gn))
    (first
      | exact KE.out _ (Below.refl _ _)
      | exact KE.out _ hf1.2.2 | exact KE.out _ hf2.2.2
      | fail)
    (first
    | (go_at_call 13; refine (HT.out _).mono ?_; rintro e w1 ⟨A1, n1, c1, rfl, hf1⟩)
    | (go_at_call 9; refine (HP.out _ _ _ _ _ hf1).mono ?_; rintro e w2 ⟨A2, c2, rfl, hf2⟩)
    | fail)
  obtain ⟨q0, q1, q2⟩ := KE.out _ hf2.2.2
  have ho2 := own_base hf2.1 (hf1.2.2.size)
  have hb2 := HBd.out.trans (hf2.2.2.mono HBd.out.size)
  clear hf2 hf1 HT HP KE q0 q1
  have ho2 := own_base ho2 HBd.out.size
  have HO := Lib.hid ho2
  have HB2 := Lib.hid hb2
  clear ho2 hb2 HW b0 b1 b2
  cases gn
  · go_wp2_with (at_builtin; refine wpList_app _ rfl (.tmp 15) (.tmp 16) 25 rfl w.heap.size 5 i0 _ 1 1 Try.underlying25 hi hz0 hz1 hz2 rfl (by decide) _ _ _ rfl (World.ownsRow.alloc (own_base HO.out (Nat.le_refl _)) _) _ _ 1 1 [.int .u8 0] rfl (one_lies rfl _ _) (by intro u hu; simp at hu; subst hu; rfl) (by have := HLen.out; unfold maxLen; omega) (by have := HLen.out; omega) (by have := HB2.out.size; simp; omega) ?_; intro v3 w3 ho3 hg3 _)
    have HF := Lib.hid (got_app1 (x := 0) ho3 ((HB2.out.alloc HB2.out.size _).grown hg3 (by have := HB2.out.size; simp; omega) (fun j hj => (HO.out.lt j hj).1)))
    go_wp2
    go_ret
    simpa using HF.out
  · go_wp2_with (at_builtin; refine wpList_app _ rfl (.tmp 12) (.tmp 13) 25 rfl w.heap.size 5 i0 _ 1 1 Try.underlying25 hi hz0 hz1 hz2 rfl (by decide) _ _ _ rfl (World.ownsRow.alloc (own_base HO.out (Nat.le_refl _)) _) _ _ 1 1 [.int .u8 1] rfl (one_lies rfl _ _) (by intro u hu; simp at hu; subst hu; rfl) (by have := HLen.out; unfold maxLen; omega) (by have := HLen.out; omega) (by have := HB2.out.size; simp; omega) ?_; intro v3 w3 ho3 hg3 _)
    have HF := Lib.hid (got_app1 (x := 1) ho3 ((HB2.out.alloc HB2.out.size _).grown hg3 (by have := HB2.out.size; simp; omega) (fun j hj => (HO.out.lt j hj).1)))
    go_wp2
    go_ret
    simpa using HF.out
end Go.Proofs.Ytghfhojpnbpjoaa

namespace Go.Proofs.Ytghfhojpnbpjoaa
open Go.RowKit
set_option linter.unusedVariables false
set_option maxRecDepth 100000

/-- the world where a walk goes on, as a letter -/
theorem at_worldS {Q : Exit → Act → World → Prop} {e : Exit} {a : Act} {W : World} (P : World → Prop) (hP : P W) (h : ∀ W5, P W5 → Q e a W5) : Q e a W := h W hP
/-- the parts of a file, in their block -/
def FlIs (w : World) (g : Nat) (cs : Array Value) : Prop := w.heap[g]? = some (.cells cs 87 (0, 0))
section
variable {w w' : World} {g : Nat} {cs : Array Value}
theorem FlIs.lt (h : FlIs w g cs) : g < w.heap.size := (Array.getElem?_eq_some_iff.1 h).1
theorem FlIs.frozen (h : FlIs w g cs) (i : Nat) : w.frozen? ⟨g, i, none⟩ = false := by
  unfold FlIs at h
  simp [World.frozen?, h]
theorem FlIs.cell (h : FlIs w g cs) (i : Nat) : w.cell? ⟨g, i, none⟩ = cs[i]? := cell_of_row w g i _ _ (0, 0) h
theorem FlIs.set (h : FlIs w g cs) (i : Nat) (v : Value) : FlIs (w.setCell ⟨g, i, none⟩ v) g (cs.setIfInBounds i v) := by
  unfold FlIs at h ⊢
  simp [World.setCell, Array.getElem?_modify, h]
theorem FlIs.alloc (h : FlIs w g cs) (o : Obj) : FlIs (w.alloc o) g cs := (Below.heap_alloc w o g h.lt).trans h
theorem FlIs.grown {row : Option Nat} (h : FlIs w g cs) (hb : w.grownBy w' row) (hg : some g ≠ row) : FlIs w' g cs := (hb.block g h.lt hg).trans h
theorem FlIs.below {B : Nat} (h : FlIs w g cs) (hb : Below B w w') (hg : g < B) : FlIs w' g cs := (hb.block g hg).trans h
theorem FlIs.not_own {base e k m : Nat} {x : Value} {xs : List Value} (h : FlIs w g cs) (ho : w.ownsRow base e k x m xs) (hne : e ≠ 87) : some g ≠ x.ownBlock := by
  rcases ho.2 with ⟨rfl, _⟩ | ⟨g', cap, cur, rfl, _, hh, _⟩
  · simp [Value.ownBlock]
  · intro he
    have : g = g' := by simpa [Value.ownBlock] using he
    subst this
    unfold FlIs at h
    rw [hh] at h
    injection h with h
    injection h with _ h
    exact hne h
end
/-- what is owned stays, if another block is written -/
theorem own_setS {w : World} {base e k n : Nat} {x : Value} {xs : List Value} (ho : w.ownsRow base e k x n xs) {p : Addr} (hp : some p.block ≠ x.ownBlock) (u : Value) : (w.setCell p u).ownsRow base e k x n xs := by
  refine ⟨ho.1, ?_⟩
  rcases ho.2 with h2 | ⟨g', cap, cur, hv, hg, hh, r⟩
  · exact .inl h2
  · refine .inr ⟨g', cap, cur, hv, hg, (Below.heap_setCell w _ u g' ?_).trans hh, r⟩
    rintro rfl
    rw [hv] at hp
    exact hp rfl
theorem own_blk {W : World} {base e k n g : Nat} {v : Value} {xs : List Value} (h : W.ownsRow base e k v n xs) (hg : v.ownBlock = some g) : base ≤ g ∧ ∃ cur, W.heap[g]? = some (.cells cur e (0, 0)) := by
  rcases h.2 with ⟨rfl, _⟩ | ⟨g', cap, cur, rfl, hb, hh, _⟩
  · cases hg
  · have : g' = g := by simpa [Value.ownBlock] using hg
    subst this
    exact ⟨hb, cur, hh⟩
/-- rows of unlike element types: what grows the one leaves the other -/
theorem own_ty {w w' : World} {b1 e1 k1 n1 b2 e2 k2 n2 : Nat} {v1 v2 : Value} {x1 x2 : List Value} (h1 : w.ownsRow b1 e1 k1 v1 n1 x1) (h2 : w.ownsRow b2 e2 k2 v2 n2 x2) (hne : e1 ≠ e2) (hg : w.grownBy w' v1.ownBlock) : w'.ownsRow b2 e2 k2 v2 n2 x2 :=
  (Wrote.grown hg).row h2 fun g hg2 hg1 => by
    obtain ⟨_, c1, q1⟩ := own_blk h1 hg1
    obtain ⟨_, c2, q2⟩ := own_blk h2 hg2
    rw [q1] at q2
    injection q2 with q2
    injection q2 with _ q2
    exact hne q2
theorem lits4 {w : World} {g : Nat} (hg : g = w.heap.size) (a b c d : Value) (t : TypeId) : Lies (w.alloc (.cells #[a, b, c, d] t)) (g + 1) 4 (some ⟨g, 0, none⟩) 1 [a, b, c, d] := by
  subst hg
  refine ⟨rfl, fun j hj => ⟨_, [a, b, c, d][j], rfl, by simp, List.getElem?_eq_getElem hj, ?_⟩⟩
  rw [add_lit]
  have h : (w.alloc (.cells #[a, b, c, d] t)).heap[w.heap.size]? = some (.cells #[a, b, c, d] t (0, 0)) := heap_alloc_new w _
  rw [Nat.zero_add, cell_of_row _ w.heap.size j #[a, b, c, d] t (0, 0) h]
  match j, hj with
  | 0, _ => rfl
  | 1, _ => rfl
  | 2, _ => rfl
  | 3, _ => rfl
theorem srow_info : (Try.prog.info? 128).map (fun i => (i.zero, i.size, i.bytes)) = some (some (.agg #[.int .i64 0, .string ByteArray.empty, .int .u64 0, .bool false]), 4, 40) := by kernel_rfl
/-- a row of the index, as it lies -/
def rowCs (r : Nat × Mk) : List Value := [.int .i64 (r.1 : Int), .string r.2.k, .int .u64 (r.2.s : Int), .bool r.2.g]
theorem rowCs_one (r : Nat × Mk) : ∀ u ∈ rowCs r, u.oneCell' = true := by
  intro u hu
  simp only [rowCs, List.mem_cons, List.not_mem_nil, or_false] at hu
  rcases hu with rfl | rfl | rfl | rfl <;> rfl

set_option maxHeartbeats 2000000 in
theorem note_any (g b o : Nat) (m : Mk) (vr vb vk vn : Value) (k : Nat) (xs : List Value) (w : World) (hF : FlIs w g #[vr, vb, vk, vn]) (hr : w.ownsRow b 128 4 vr k xs) (hb : b ≤ w.heap.size) (hk : k ≤ 1000000) :
    Calls Try.prog 73 #[.pointer (some ⟨g, 0, none⟩), .int .i64 (o : Int), m.v] w fun e w' => e = .returned (.tuple #[]) ∧ ∃ vr', FlIs w' g #[vr', vb, vk, vn] ∧
      w'.ownsRow b 128 4 vr' (k + 1) (xs ++ rowCs (o, m)) ∧ Wrote (fun i => i = g ∨ vr.ownBlock = some i) w w' := by
  obtain ⟨i0, hi, hz0, hz1, hz2⟩ := info_parts srow_info
  obtain ⟨b0, b1, b2, hB, hz⟩ := mkW_facts w m
  obtain ⟨W, hW⟩ : ∃ W, mkW w m = W := ⟨_, rfl⟩
  have HW : Hid (w.alloc (.cells #[.string m.k, .int .u64 (m.s : Int), .bool m.g] 38) = W) := hW
  rw [hW] at b0 b1 b2 hB hz
  have hF1 : FlIs W g #[vr, vb, vk, vn] := hF.below hB hF.lt
  have hr1 := own_below hr hB
  have hc0 : W.cell? ⟨g, 0, none⟩ = some vr := hF1.cell 0
  have hf0 := hF1.frozen 0
  have hgl := hF1.lt
  have hgne : W.heap.size ≠ g := by omega
  have hgne2 : g ≠ W.heap.size := by omega
  have hbW : b ≤ W.heap.size := by omega
  have HB := Lib.hid hB
  have HF := Lib.hid hF1
  have HR := Lib.hid hr1
  unfold Mk.v
  clear hW hB hF hr hF1 hr1 hz
  go_enter Try.func73, Try.ntmps73
  go_wp2_with fail
  rw [HW.out]
  clear HW
  go_region_law (refine step_app _ rfl (.tmp 10) (.tmp 14) 83 rfl b 128 i0 _ 4 40 Try.underlying83 hi hz0 hz1 hz2 rfl (by decide) vr k xs rfl (World.ownsRow.alloc (w := W.drew) HR.out _) (W.heap.size + 1) (some ⟨W.heap.size, 0, none⟩) 1 1 (rowCs (o, m)) rfl (lits4 (w := W.drew) rfl _ _ _ _ _) (rowCs_one _) (by unfold maxLen; omega) (by omega) (by simp; omega) ?_; intro v2 w2 ho2 hg2 hat2; have hF2 := FlIs.grown (FlIs.alloc (w := W.drew) HF.out _) hg2 (HF.out.not_own HR.out (by decide)); have hc2 : w2.cell? ⟨g, 0, none⟩ = some vr := hF2.cell 0; have hf2 := hF2.frozen 0; obtain ⟨A2, c2, rfl, _⟩ := own_shape ho2)
  all_goals
    have hfin : FlIs (w2.setCell ⟨g, 0, none⟩ (.slice A2 (k + 1) c2)) g #[.slice A2 (k + 1) c2, vb, vk, vn] := hF2.set 0 _
    have ho3 := own_setS ho2 (p := ⟨g, 0, none⟩) (hF2.not_own ho2 (by decide)) (.slice A2 (k + 1) c2)
    have hwr : Wrote (fun i => i = g ∨ vr.ownBlock = some i) w (w2.setCell ⟨g, 0, none⟩ (.slice A2 (k + 1) c2)) :=
      (((Wrote.of_below HB.out).trans ((Wrote.refl _ W).drew.alloc _)).trans ((Wrote.grown hg2).mono fun i _ h => .inr h)).set (p := ⟨g, 0, none⟩) (.inl rfl) _
    have HFin := Lib.hid (show _ ∧ _ ∧ _ from ⟨hfin, ho3, hwr⟩)
    clear hfin ho3 hwr ho2 hg2 hat2 hF2 hc2 hf2
    go_wp2
    go_end0
    exact ⟨rfl, _, HFin.out⟩
end Go.Proofs.Ytghfhojpnbpjoaa

namespace Go.Proofs.Ytghfhojpnbpjoaa
open Go.RowKit
set_option linter.unusedVariables false
set_option maxRecDepth 100000

/-- a file's parts: its blocks' frames, the index's rows, its keys, how many entries -/
structure FAt (w : World) (b g : Nat) (bl : List UInt8) (rs : List (Nat × Mk)) (ks : List ByteArray) (N : Nat) (vr vb vk : Value) : Prop where
  fl : FlIs w g #[vr, vb, vk, .int .i64 (N : Int)]
  rw : w.ownsRow b 128 4 vr rs.length (rs.flatMap rowCs)
  bk : w.ownsRow b 5 1 vb bl.length (bl.map bv)
  ky : w.ownsRow b 9 1 vk ks.length (ks.map Value.string)
  sz : b ≤ w.heap.size
  lt : g < b
/-- what is written: the file's block, rows behind b -/
def Wr (b g : Nat) (W W' : World) : Prop := Wrote (fun i => i = g ∨ (b ≤ i ∧ ∃ cs t, W.heap[i]? = some (.cells cs t (0, 0)))) W W'
section
variable {w w' : World} {b g N : Nat} {bl : List UInt8} {rs : List (Nat × Mk)} {ks : List ByteArray} {vr vb vk : Value}
theorem FAt.below (h : FAt w b g bl rs ks N vr vb vk) (hb : Below w.heap.size w w') : FAt w' b g bl rs ks N vr vb vk :=
  ⟨h.fl.below hb h.fl.lt, own_below h.rw hb, own_below h.bk hb, own_below h.ky hb, Nat.le_trans h.sz hb.size, h.lt⟩
theorem Wr.of_below (hb : Below w.heap.size w w') : Wr b g w w' := Wrote.of_below hb
theorem Wr.trans {A B C : World} (h : Wr b g A B) (k : Wr b g B C) : Wr b g A C :=
  ⟨k.os.trans h.os, k.tape.trans h.tape, k.output.trans h.output, Nat.le_trans h.size k.size, fun i hi hs => by
    have e := h.block i hi hs
    refine (k.block i (Nat.lt_of_lt_of_le hi h.size) ?_).trans e
    rintro (q | ⟨q, cs, t, q2⟩)
    · exact hs (.inl q)
    · rw [e] at q2; exact hs (.inr ⟨q, cs, t, q2⟩)⟩
theorem Wr.on {A B C : World} (h : Wr b g A B) (hb : Below B.heap.size B C) : Wr b g A C := h.trans (Wr.of_below hb)
theorem Wr.row {e k n : Nat} {v : Value} {xs : List Value} (hr : w.ownsRow b e k v n xs) (hw : Wrote (fun i => i = g ∨ v.ownBlock = some i) w w') : Wr b g w w' :=
  hw.mono fun i _ h => by
    rcases h with h | h
    · exact .inl h
    · obtain ⟨h1, cur, h2⟩ := own_blk hr h
      exact .inr ⟨h1, _, _, h2⟩
theorem Wr.low (h : Wr b g w w') (hg : g < b) (hs : g ≤ w.heap.size) : Below g w w' :=
  Wrote.below h (fun i hi => by rcases hi with e | ⟨e, _⟩ <;> omega) hs
end
theorem El_low {w w' : World} {B g n c : Nat} {A : Option Addr} {S : List En} (h : EL w B A n c S) (hB : B ≤ g) (hb : Below g w w') (hs : B ≤ w'.heap.size) : EL w' B A n c S :=
  ⟨h.lies.keep fun p hp => hb.cell (Nat.lt_of_lt_of_le hp hB), hs, h.nc, h.cc, h.sz⟩
theorem key_info : (Try.prog.info? 9).map (fun i => (i.zero, i.size, i.bytes)) = some (some (.string ByteArray.empty), 1, 16) := by kernel_rfl

section
variable {w3 w5 : World} {b g N : Nat} {bl : List UInt8} {rs : List (Nat × Mk)} {ks : List ByteArray} {vr vb vk v5 : Value}
theorem FAt.setBk {bl2 : List UInt8} (h : FAt w3 b g bl rs ks N vr vb vk) (hg : w3.grownBy w5 vb.ownBlock) (ho : w5.ownsRow b 5 1 v5 bl2.length (bl2.map bv)) :
    FAt (w5.setCell ⟨g, 1, none⟩ v5) b g bl2 rs ks N vr v5 vk ∧ Wr b g w3 (w5.setCell ⟨g, 1, none⟩ v5) := by
  have f5 : FlIs w5 g #[vr, vb, vk, .int .i64 (N : Int)] := h.fl.grown hg (h.fl.not_own h.bk (by decide))
  have hw : Wr b g w3 (w5.setCell ⟨g, 1, none⟩ v5) := Wr.row h.bk (((Wrote.grown hg).mono fun i _ q => .inr q).set (p := ⟨g, 1, none⟩) (.inl rfl) _)
  have r5 := own_ty h.bk h.rw (by decide) hg
  have k5 := own_ty h.bk h.ky (by decide) hg
  exact ⟨⟨f5.set 1 _, own_setS r5 (f5.not_own r5 (by decide)) _, own_setS ho (f5.not_own ho (by decide)) _, own_setS k5 (f5.not_own k5 (by decide)) _, Nat.le_trans h.sz hw.size, h.lt⟩, hw⟩
theorem FAt.setKy {ks2 : List ByteArray} (h : FAt w3 b g bl rs ks N vr vb vk) (hg : w3.grownBy w5 vk.ownBlock) (ho : w5.ownsRow b 9 1 v5 ks2.length (ks2.map Value.string)) :
    FAt (w5.setCell ⟨g, 2, none⟩ v5) b g bl rs ks2 N vr vb v5 ∧ Wr b g w3 (w5.setCell ⟨g, 2, none⟩ v5) := by
  have f5 : FlIs w5 g #[vr, vb, vk, .int .i64 (N : Int)] := h.fl.grown hg (h.fl.not_own h.ky (by decide))
  have hw : Wr b g w3 (w5.setCell ⟨g, 2, none⟩ v5) := Wr.row h.ky (((Wrote.grown hg).mono fun i _ q => .inr q).set (p := ⟨g, 2, none⟩) (.inl rfl) _)
  have r5 := own_ty h.ky h.rw (by decide) hg
  have k5 := own_ty h.ky h.bk (by decide) hg
  exact ⟨⟨f5.set 2 _, own_setS r5 (f5.not_own r5 (by decide)) _, own_setS k5 (f5.not_own k5 (by decide)) _, own_setS ho (f5.not_own ho (by decide)) _, Nat.le_trans h.sz hw.size, h.lt⟩, hw⟩
end

/-- the round's relation: the first k entries' keys were looked at -/
def AddR (w : World) (b g : Nat) (bl : List UInt8) (rs : List (Nat × Mk)) (ks : List ByteArray) (N : Nat) (S : List En) (i : Value) (wr : World) : Prop :=
  ∃ (k : Nat) (vr vb vk : Value), k ≤ S.length ∧ i = .int .i64 (k : Int) ∧ FAt wr b g bl rs (keysG ks (S.take k)) N vr vb vk ∧ Wr b g w wr

set_option maxHeartbeats 4000000 in
theorem add_any (b g B n c N : Nat) (A : Option Addr) (S : List En) (bl : List UInt8) (rs : List (Nat × Mk)) (ks : List ByteArray) (vr vb vk : Value) (w : World) (hF : FAt w b g bl rs ks N vr vb vk)
    (hL : EL w B A n c S) (hBg : B ≤ g) (hok : okB S = true) (hq : SQ S) (hbl : bl.length ≤ 1073741824) (hrs : rs.length ≤ 100000) (hks : ks.length ≤ 100000) :
    Calls Try.prog 44 #[.pointer (some ⟨g, 0, none⟩), .slice A n c] w fun e w' => e = .returned (.tuple #[]) ∧ ∃ vr' vb' vk', FAt w' b g (bl ++ fr (encB S)) (rs ++ [(bl.length, lastM S)]) (keysG ks S) N vr' vb' vk' ∧ Wr b g w w' := by
  obtain ⟨hn1, hn64, hfi, hri⟩ := (okB_iff S).1 hok
  have hln := hL.lies.elen
  have hmx := hL.cc
  have hnc := hL.nc
  unfold maxLen at hmx
  obtain ⟨ab, ao, x, rfl, hab, hx, c0, c1, c2, c3⟩ := hL.lies.entry (i := n - 1) (by omega)
  have hlm : lastM S = x.m := lastM_get (by rw [hln]; exact hx)
  obtain ⟨A1, cb, rfl, _⟩ := own_shape hF.bk
  have hv : w.cell? ⟨g, 1, none⟩ = some (.slice A1 bl.length cb) := hF.fl.cell 1
  have HN := Lib.hid (fun W hb => note_any g b bl.length x.m vr (.slice A1 bl.length cb) vk (.int .i64 (N : Int)) rs.length (rs.flatMap rowCs) W (hF.below hb).fl (hF.below hb).rw (hF.below hb).sz (by omega))
  unfold Mk.v at HN
  have hwr : IntKind.i64.wrap ((n : Int) - 1) = ((n - 1 : Nat) : Int) := by rw [IntWalk.i64_in] <;> omega
  obtain ⟨j, hj⟩ : ∃ j, n - 1 = j := ⟨_, rfl⟩
  have hj0 : (0 : Int) ≤ (j : Int) := by omega
  have hjn : (j : Int) < (n : Int) := by omega
  have hjt : (j : Int).toNat = j := by simp
  rw [hj] at hwr c0 c1 c2 c3 hx
  have HF := Lib.hid hF; have HL := Lib.hid hL
  have HFt := Lib.hid (show okB S = true ∧ SQ S ∧ bl.length ≤ 1073741824 ∧ rs.length ≤ 100000 ∧ ks.length ≤ 100000 ∧ S.length = n ∧ lastM S = x.m from ⟨hok, hq, hbl, hrs, hks, hln, hlm⟩)
  have HK : Hid (∀ W, Below g w W → W.cell? ⟨g, 1, none⟩ = some (.slice A1 bl.length cb) → W.cell? ⟨g, 1, none⟩ = some (.slice A1 bl.length cb) ∧ W.cell? ⟨ab, ao + j * 4, none⟩ = some (.string x.m.k) ∧ W.cell? ⟨ab, ao + j * 4 + 1, none⟩ = some (.int .u64 (x.m.s : Int)) ∧ W.cell? ⟨ab, ao + j * 4 + 2, none⟩ = some (.bool x.m.g)) :=
    fun W hb q => ⟨q, (hb.cell (Nat.lt_of_lt_of_le hab hBg)).trans c0, (hb.cell (Nat.lt_of_lt_of_le hab hBg)).trans c1, (hb.cell (Nat.lt_of_lt_of_le hab hBg)).trans c2⟩
  have hgl : g < b := hF.lt
  have hgs : g ≤ w.heap.size := Nat.le_trans (Nat.le_of_lt hgl) hF.sz
  have HD : Hid (Below g w w.drew) := (Below.refl _ _).drew
  have HW1 : Hid (∀ w1, Wrote (fun i => i = g ∨ vr.ownBlock = some i) w.drew w1 → Wr b g w w1 ∧ Below g w w1) := fun w1 h => by
    have h1 : Wr b g w w1 := (Wr.of_below (below_drew (Below.refl _ _))).trans (Wr.row (hF.below (below_drew (Below.refl _ _))).rw h)
    exact ⟨h1, h1.low hgl hgs⟩
  clear hF hL hok hq hbl hrs hks hfi hri hln hlm hx hj c3 hmx c0 c1 c2
  go_enter Try.func44, Try.ntmps44
  go_wp2_with fail
  go_region_held3 (fun W => W.cell? ⟨g, 1, none⟩ = some (.slice A1 bl.length cb) ∧ W.cell? ⟨ab, ao + j * 4, none⟩ = some (.string x.m.k) ∧ W.cell? ⟨ab, ao + j * 4 + 1, none⟩ = some (.int .u64 (x.m.s : Int)) ∧ W.cell? ⟨ab, ao + j * 4 + 2, none⟩ = some (.bool x.m.g))
    (first | exact HK.out _ HD.out hv | exact HK.out _ (HW1.out _ hw1).2 (hf1.cell 1) | fail)
    (first
    | (go_at_call 73; refine (HN.out _ (below_drew (Below.refl _ _))).mono ?_; rintro e w1 ⟨rfl, vr1, hf1, hr1, hw1⟩)
    | fail)
  obtain ⟨HWr, hlow⟩ := HW1.out _ hw1
  have hF1 : FAt w1 b g bl (rs ++ [(bl.length, x.m)]) ks N vr1 (.slice A1 bl.length cb) vk := by
    have hF := HF.out
    have hw2 : Wrote (fun i => i = g ∨ vr.ownBlock = some i) w w1 := (Wrote.of_below (below_drew (Below.refl _ _))).trans hw1
    have hne : ∀ {e k n : Nat} {v : Value} {xs : List Value}, w.ownsRow b e k v n xs → e ≠ 128 → w1.ownsRow b e k v n xs := fun ho hne => hw2.row ho fun i hi hs => by
      rcases hs with rfl | hs
      · have := (own_blk ho hi).1; omega
      · obtain ⟨_, c1, q1⟩ := own_blk ho hi
        obtain ⟨_, c2, q2⟩ := own_blk hF.rw hs
        rw [q1] at q2
        injection q2 with q2
        injection q2 with _ q2
        exact hne q2
    exact ⟨hf1, by rw [List.flatMap_append, List.length_append]; simpa using hr1, hne hF.bk (by decide), hne hF.ky (by decide), Nat.le_trans hF.sz hw2.size, hF.lt⟩
  have HF1 := Lib.hid hF1; have HWr1 := Lib.hid HWr
  have HL1 := Lib.hid (El_low HL.out hBg hlow (by have := HL.out.B; have := HWr.size; omega))
  have HP := Lib.hid (bput_any S HFt.out.2.1 (some ⟨ab, ao, none⟩) n c B w1 HL1.out)
  clear hF1 hw1 hf1 hr1 HN HK HD HW1 hv hwr hj0 hjn hjt hlow HWr
  go_wp2_with fail
  refine HP.out.mono ?_
  rintro e w2 ⟨hb2, hy, _⟩
  obtain ⟨A3, c3, rfl, ho3⟩ := hy HFt.out.1
  clear hy HP
  have hel := encB_len S HFt.out.1
  obtain ⟨el, hle⟩ : ∃ el, (encB S).length = el := ⟨_, rfl⟩
  rw [hle] at ho3 hel
  have HF2 := Lib.hid (HF1.out.below hb2)
  have HWr2 := Lib.hid (HWr1.out.on hb2)
  have HL2 := Lib.hid (HL1.out.below hb2)
  have HFr := Lib.hid (fun W (hb : Below w2.heap.size w2 W) => framed_any A3 el c3 (encB S) W ((Lies.of_own (own_below ho3 hb)).more (Nat.le_refl _)) (by omega))
  obtain ⟨i0, hi, hz0, hz1, hz2⟩ := info_parts byte_info
  have hv2 : w2.cell? ⟨g, 1, none⟩ = some (.slice A1 bl.length cb) := HF2.out.fl.cell 1
  have hfl := fr_len (encB S)
  rw [hle] at hfl
  have hbl := HFt.out.2.2.1
  clear ho3 hb2 HF1 HWr1 HL1 HF
  go_wp2_with fail
  go_region_law (first
    | (go_simp; go_at_call 45; refine (HFr.out _ (below_drew (Below.refl _ _))).mono ?_; rintro e w3 ⟨A4, c4, rfl, _, _, ho4, hb4⟩; have hb24 := (below_drew (Below.refl w2.heap.size w2)).trans hb4; have HF3 := HF2.out.below hb24; have hv3 : w3.cell? ⟨g, 1, none⟩ = some (.slice A1 bl.length cb) := HF3.fl.cell 1)
    | (refine step_app _ rfl (.tmp 34) (.tmp 36) 25 rfl b 5 i0 _ 1 1 Try.underlying25 hi hz0 hz1 hz2 rfl (by decide) (.slice A1 bl.length cb) bl.length (bl.map bv) rfl HF3.bk w3.heap.size A4 (el + 8) c4 ((fr (encB S)).map bv) rfl (Lies.of_own ho4) (bv_one _) (by unfold maxLen; omega) (by omega) HF3.sz ?_; intro v5 w5 ho5 hg5 hat5; have hF5 := HF3.fl.grown hg5 (HF3.fl.not_own HF3.bk (by decide)); have hv5 : w5.cell? ⟨g, 1, none⟩ = some (.slice A1 bl.length cb) := hF5.cell 1; have hf5 := hF5.frozen 1; obtain ⟨A5, c5, rfl, _⟩ := own_shape ho5)
    | fail)
  all_goals
    have HX := HF3.setBk (bl2 := bl ++ fr (encB S)) hg5 (by rw [List.map_append, List.length_append, hfl]; exact ho5)
    refine at_worldS (P := fun W6 => FAt W6 b g (bl ++ fr (encB S)) (rs ++ [(bl.length, x.m)]) ks N vr1 (.slice A5 (bl.length + (el + 8)) c5) vk ∧ Wr b g w W6) ⟨HX.1, (HWr2.out.on hb24).trans HX.2⟩ ?_
    clear HX ho5 hg5 hat5 hF5 hv5 hf5 ho4 hb4 hb24 HF3 hv3
    rintro W6 ⟨hF6, hWr6⟩
    have HF6 := Lib.hid hF6; have HWr6 := Lib.hid hWr6
    have HL6 := Lib.hid (fun W (h : Wr b g w W) => El_low HL.out hBg (h.low hgl hgs) (by have := HL.out.B; have := h.size; omega))
    clear hF6 hWr6 HFr HL2 HWr2 HF2 hv2 hi hz0 hz1 hz2
    go_wp2_with fail
    go_loopw [42] (fun i wr => AddR w b g (bl ++ fr (encB S)) (rs ++ [(bl.length, x.m)]) ks N S i wr) (fun i _ => n - (intOf i).toNat)
    case atStart => exact ⟨0, _, _, _, Nat.zero_le _, rfl, HF6.out, HWr6.out⟩
    case round =>
      obtain ⟨k, ur, ub, uk, hk, rfl, hF, hW⟩ := hrel
      have HF := Lib.hid hF; have HW := Lib.hid hW
      by_cases hlt : k < n
      · have hELr := HL6.out _ hW
        obtain ⟨ab', ao', y, hA, hab', hy, c0, c1, c2, c3⟩ := hELr.lies.entry hlt
        injection hA with hA
        injection hA with hA1 hA2
        subst hA1 hA2
        have hi0 : (0 : Int) ≤ (k : Int) := by omega
        have hi1 : (k : Int) < (n : Int) := by omega
        have hit : ((k : Int)).toNat = k := by simp
        have hkl : (keysG ks (S.take k)).length ≤ 200000 := by
          have := keysG_len (S.take k) ks
          have := HFt.out.2.2.2.2.1
          rw [List.length_take] at *; omega
        have hkn : keysG ks (S.take (k + 1)) = addK (keysG ks (S.take k)) y := by
          rw [List.take_add_one, hy]; exact keysG_snoc ks (S.take k) y
        obtain ⟨K, hK⟩ : ∃ K, keysG ks (S.take k) = K := ⟨_, rfl⟩
        have hF := HF.out
        rw [hK] at hkn hkl hF
        obtain ⟨Ak, ck, rfl, _⟩ := own_shape hF.ky
        have hvk : wr.cell? ⟨g, 2, none⟩ = some (.slice Ak K.length ck) := hF.fl.cell 2
        have HKn := Lib.hid hkn; have HY := Lib.hid hy; have HFk := Lib.hid hF
        clear hkn hy hF hK hELr hab'
        obtain ⟨_, _, _, _, hB7, hz7⟩ := enW_facts wr y
        have e7 : (enW wr y).heap[wr.heap.size]? = some (.cells #[.string y.m.k, .int .u64 (y.m.s : Int), .bool y.m.g, .string y.x] 40 (0, 0)) := heap_alloc_new wr _
        have hgw : g < wr.heap.size := HFk.out.fl.lt
        have hv7 : (enW wr y).cell? ⟨g, 2, none⟩ = some (.slice Ak K.length ck) := (hB7.cell (p := ⟨g, 2, none⟩) hgw).trans hvk
        have HF7 := Lib.hid (HFk.out.below hB7)
        have HW7 := Lib.hid (HW.out.on hB7)
        obtain ⟨W7, hW7⟩ : ∃ W7, enW wr y = W7 := ⟨_, rfl⟩
        rw [hW7] at HF7 HW7 e7 hz7 hv7 hB7
        have hE7 : wr.alloc (.cells #[.string y.m.k, .int .u64 (y.m.s : Int), .bool y.m.g, .string y.x] 40) = W7 := hW7
        clear hW7
        go_wp2_with fail
        obtain ⟨h7, hh7⟩ : ∃ h7, wr.heap.size = h7 := ⟨_, rfl⟩
        rw [hh7] at e7 hz7 ⊢
        clear hE7 hB7 hv7 hvk hh7 c0 c1 c2 c3 HFk HW hW
        obtain ⟨i1, ji, jz0, jz1, jz2⟩ := info_parts key_info
        obtain ⟨nk, hnk⟩ : ∃ nk, K.length = nk := ⟨_, rfl⟩
        have hv7 : W7.cell? ⟨g, 2, none⟩ = some (.slice Ak K.length ck) := HF7.out.fl.cell 2
        have q0 : W7.cell? ⟨h7, 0, none⟩ = some (.string y.m.k) := cell_of_row _ _ 0 _ _ (0, 0) e7
        have hh7 : h7 < W7.heap.size := by omega
        have HK7 := Lib.hid HF7.out.ky
        have hk0 : (wr : World) = wr := rfl
        rw [hnk] at hv7 hkl HF7 HK7 ⊢
        have HNk := Lib.hid hnk
        -- the key is put behind
        have HAdd : Hid (K.getLast? ≠ some y.m.k → addK K y = K ++ [y.m.k]) := fun q => if_neg q
        have HSame : Hid (K.getLast? = some y.m.k → addK K y = K) := fun q => if_pos q
        have hstr : ∀ s : ByteArray, (s.toList == y.m.k.toList) = decide (s = y.m.k) := fun s => txt_eqB _ _
        clear hk0 hnk e7
        rcases Nat.eq_zero_or_pos nk with h0 | h0
        · have z0 : ((nk : Int) == 0) = true := by simp; omega
          have HG : Hid (K.getLast? ≠ some y.m.k) := by
            have e : K = [] := List.length_eq_zero_iff.1 (by rw [HNk.out]; exact h0)
            unfold Hid; rw [e]; simp
          have HH0 := Lib.hid h0
          clear h0
          go_quiet (fail)
          refine at_worldS (P := fun W8 => Below W7.heap.size W7 W8) (below_drewN (Below.refl _ _) _) ?_
          intro W8 hb8
          have HF8 := Lib.hid (HF7.out.below hb8); have HW8 := Lib.hid (HW7.out.on hb8)
          have hv8 : W8.cell? ⟨g, 2, none⟩ = some (.slice Ak nk ck) := HF8.out.fl.cell 2
          have q8 : W8.cell? ⟨h7, 0, none⟩ = some (.string y.m.k) := (hb8.cell (p := ⟨h7, 0, none⟩) hh7).trans q0
          have hb89 : ∀ o, Below W8.heap.size W8 (W8.drew.alloc o) := fun o => (below_drew (Below.refl _ _)).alloc (Nat.le_refl _) o
          have HK8 := Lib.hid (fun o => (HF8.out.below (hb89 o)))
          have hlk := HNk.out
          have HKy : Hid (∀ o, (W8.drew.alloc o).ownsRow b 9 1 (.slice Ak nk ck) nk (K.map Value.string)) := fun o => by
            have q := (HK8.out o).ky
            rwa [hlk] at q
          have hva : ∀ o, (W8.alloc o).cell? ⟨g, 2, none⟩ = some (.slice Ak nk ck) := fun o => (HK8.out o).fl.cell 2
          have hne8 : W8.heap.size ≠ g := by have := HF8.out.fl.lt; omega
          clear hb8 q0 hv7 hstr
          go_wp2_with fail
          go_region_law (refine step_app _ rfl (.tmp 71) (.tmp 75) 31 rfl b 9 i1 _ 1 16 Try.underlying31 ji jz0 jz1 jz2 rfl (by decide) (.slice Ak nk ck) nk (K.map Value.string) rfl (HKy.out (.cells #[.string y.m.k] 9)) (W8.heap.size + 1) (some ⟨W8.heap.size, 0, none⟩) 1 1 [.string y.m.k] rfl (one_lies (w := W8.drew) rfl _ _) (by intro u hu; simp at hu; subst hu; rfl) (by unfold maxLen; omega) (by omega) (HK8.out (.cells #[.string y.m.k] 9)).sz ?_; intro v9 w9 ho9 hg9 hat9; have hF9 := FlIs.grown (HK8.out (.cells #[.string y.m.k] 9)).fl hg9 ((HK8.out (.cells #[.string y.m.k] 9)).fl.not_own (HKy.out (.cells #[.string y.m.k] 9)) (by decide)); have hv9 : w9.cell? ⟨g, 2, none⟩ = some (.slice Ak nk ck) := hF9.cell 2; have hf9 := hF9.frozen 2; obtain ⟨A9, c9, rfl, _⟩ := own_shape ho9)
          all_goals
            have HX := (HK8.out _).setKy (ks2 := K ++ [y.m.k]) hg9 (by rw [List.map_append, List.length_append, hlk]; exact ho9)
            have HFin := Lib.hid (show AddR w b g (bl ++ fr (encB S)) (rs ++ [(bl.length, x.m)]) ks N S (.int .i64 ((k + 1 : Nat) : Int)) _ from ⟨k + 1, _, _, _, by have := HFt.out.2.2.2.2.2.1; omega, rfl, by rw [HKn.out, HAdd.out HG.out]; exact HX.1, (HW8.out.on (hb89 _)).trans HX.2⟩)
            clear HX ho9 hg9 hat9 hF9 hv9 hf9 hv8 q8 hva
            go_wp2
            go_roundw
            case rel => exact HFin.out
            case measure => simp [intOf]; omega
        · obtain ⟨q, hq⟩ : ∃ q, nk - 1 = q := ⟨_, rfl⟩
          have hqn : q < nk := by omega
          have z0 : ((nk : Int) == 0) = false := by simp; omega
          have hwq : IntKind.i64.wrap ((nk : Int) - 1) = (q : Int) := by rw [IntWalk.i64_in] <;> omega
          have hq0 : (0 : Int) ≤ (q : Int) := by omega
          have hq1 : (q : Int) < (nk : Int) := by omega
          have hqt : ((q : Int)).toNat = q := by simp
          obtain ⟨bk, ok, u, hA, _, hu, hcu⟩ := (Lies.of_own HK7.out).at_ hqn
          rw [List.getElem?_map] at hu
          obtain ⟨s, hs⟩ : ∃ s, K[q]? = some s := ⟨K[q]'(by rw [HNk.out]; exact hqn), List.getElem?_eq_getElem _⟩
          rw [hs] at hu
          injection hu with hu
          subst hu hA
          have HLast : Hid (K.getLast? = some s) := by
            unfold Hid; rw [List.getLast?_eq_getElem?, HNk.out, hq]; exact hs
          have hst := hstr s
          have HH0 := Lib.hid h0
          clear hs h0 hq hstr
          obtain ⟨d, hd⟩ : ∃ d, decide (s = y.m.k) = d := ⟨_, rfl⟩
          have HD := Lib.hid hd
          rw [hd] at hst
          clear hd
          cases d
          · have HG : Hid (K.getLast? ≠ some y.m.k) := by
              unfold Hid; rw [HLast.out]; intro e; injection e with e; exact absurd e (of_decide_eq_false HD.out)
            go_quiet (fail)
            clear hst hcu hwq
            refine at_worldS (P := fun W8 => Below W7.heap.size W7 W8) (below_drewN (Below.refl _ _) _) ?_
            intro W8 hb8
            have HF8 := Lib.hid (HF7.out.below hb8); have HW8 := Lib.hid (HW7.out.on hb8)
            have hv8 : W8.cell? ⟨g, 2, none⟩ = some (.slice (some ⟨bk, ok, none⟩) nk ck) := HF8.out.fl.cell 2
            have q8 : W8.cell? ⟨h7, 0, none⟩ = some (.string y.m.k) := (hb8.cell (p := ⟨h7, 0, none⟩) hh7).trans q0
            have hb89 : ∀ o, Below W8.heap.size W8 (W8.drew.alloc o) := fun o => (below_drew (Below.refl _ _)).alloc (Nat.le_refl _) o
            have HK8 := Lib.hid (fun o => (HF8.out.below (hb89 o)))
            have hlk := HNk.out
            have HKy : Hid (∀ o, (W8.drew.alloc o).ownsRow b 9 1 (.slice (some ⟨bk, ok, none⟩) nk ck) nk (K.map Value.string)) := fun o => by
              have q := (HK8.out o).ky
              rwa [hlk] at q
            have hva : ∀ o, (W8.alloc o).cell? ⟨g, 2, none⟩ = some (.slice (some ⟨bk, ok, none⟩) nk ck) := fun o => (HK8.out o).fl.cell 2
            have hne8 : W8.heap.size ≠ g := by have := HF8.out.fl.lt; omega
            clear hb8 q0 hv7
            go_wp2_with fail
            go_region_law (refine step_app _ rfl (.tmp 71) (.tmp 75) 31 rfl b 9 i1 _ 1 16 Try.underlying31 ji jz0 jz1 jz2 rfl (by decide) (.slice (some ⟨bk, ok, none⟩) nk ck) nk (K.map Value.string) rfl (HKy.out (.cells #[.string y.m.k] 9)) (W8.heap.size + 1) (some ⟨W8.heap.size, 0, none⟩) 1 1 [.string y.m.k] rfl (one_lies (w := W8.drew) rfl _ _) (by intro u hu; simp at hu; subst hu; rfl) (by unfold maxLen; omega) (by omega) (HK8.out (.cells #[.string y.m.k] 9)).sz ?_; intro v9 w9 ho9 hg9 hat9; have hF9 := FlIs.grown (HK8.out (.cells #[.string y.m.k] 9)).fl hg9 ((HK8.out (.cells #[.string y.m.k] 9)).fl.not_own (HKy.out (.cells #[.string y.m.k] 9)) (by decide)); have hv9 : w9.cell? ⟨g, 2, none⟩ = some (.slice (some ⟨bk, ok, none⟩) nk ck) := hF9.cell 2; have hf9 := hF9.frozen 2; obtain ⟨A9, c9, rfl, _⟩ := own_shape ho9)
            all_goals
              have HX := (HK8.out _).setKy (ks2 := K ++ [y.m.k]) hg9 (by rw [List.map_append, List.length_append, hlk]; exact ho9)
              have HFin := Lib.hid (show AddR w b g (bl ++ fr (encB S)) (rs ++ [(bl.length, x.m)]) ks N S (.int .i64 ((k + 1 : Nat) : Int)) _ from ⟨k + 1, _, _, _, by have := HFt.out.2.2.2.2.2.1; omega, rfl, by rw [HKn.out, HAdd.out HG.out]; exact HX.1, (HW8.out.on (hb89 _)).trans HX.2⟩)
              clear HX ho9 hg9 hat9 hF9 hv9 hf9 hv8 q8 hva
              go_wp2
              go_roundw
              case rel => exact HFin.out
              case measure => simp [intOf]; omega
          · have HG : Hid (K.getLast? = some y.m.k) := by
              unfold Hid; rw [HLast.out, of_decide_eq_true HD.out]
            go_quiet (fail)
            refine at_worldS (P := fun W8 => Below W7.heap.size W7 W8) (below_drewN (Below.refl _ _) _) ?_
            intro W8 hb8
            have HFin := Lib.hid (show AddR w b g (bl ++ fr (encB S)) (rs ++ [(bl.length, x.m)]) ks N S (.int .i64 ((k + 1 : Nat) : Int)) W8 from ⟨k + 1, _, _, _, by have := HFt.out.2.2.2.2.2.1; omega, rfl, by rw [HKn.out, HSame.out HG.out]; exact HF7.out.below hb8, HW7.out.on hb8⟩)
            clear hb8 q0 hv7 hst hcu hwq
            go_wp2
            go_roundw
            case rel => exact HFin.out
            case measure => simp [intOf]; omega
      · have hkn : k = n := by have := HFt.out.2.2.2.2.2.1; omega
        have hni : ¬ ((k : Int) < (n : Int)) := by omega
        have HFin : Hid (FAt wr b g (bl ++ fr (encB S)) (rs ++ [(bl.length, lastM S)]) (keysG ks S) N ur ub uk ∧ Wr b g w wr) := by
          have h := HF.out
          rw [List.take_of_length_le (by have := HFt.out.2.2.2.2.2.1; omega)] at h
          rw [HFt.out.2.2.2.2.2.2]; exact ⟨h, hW⟩
        clear hF hW hkn
        go_wp2
        go_end0
        exact ⟨rfl, ⟨_, _, _, HFin.out.1⟩, HFin.out.2⟩
end Go.Proofs.Ytghfhojpnbpjoaa

