/-
  Package edits: the reader's edit.
-/
import Derived.Test.YtnnocjnmfabnaaaEdU
namespace Go.Proofs.Ytnnocjnmfabnaaa
open Go.RowKit
set_option linter.unusedVariables false
set_option maxRecDepth 100000

theorem own_gr {w w' : World} {base e k n i : Nat} {v : Value} {xs : List Value} (h : w.ownsRow base e k v n xs) (hg : w.grownBy w' (some i)) (hi : i < base) : w'.ownsRow base e k v n xs := by
  refine ⟨h.1, ?_⟩
  rcases h.2 with q | ⟨gg, cap, cur, hv, hgb, hh, r⟩
  · exact .inl q
  · exact .inr ⟨gg, cap, cur, hv, hgb, (hg.block gg (Array.getElem?_eq_some_iff.1 hh).1 (by simp; omega)).trans hh, r⟩
abbrev zE : Array Value := #[.slice none 0 0, .slice none 0 0, .int .u32 0, .int .u32 0, .int .u64 0]
/-- five cells of a block are written -/
theorem five_setE {w : World} {E g : Nat} {a0 a1 a2 a3 a4 : Value} {t : TypeId} (h : w.heap[E]? = some (.cells #[a0, a1, a2, a3, a4] t (0, 0))) (hg : g ≤ E) (u0 u1 u2 u3 u4 : Value) :
    (((((w.setCell ⟨E, 0, none⟩ u0).setCell ⟨E, 1, none⟩ u1).setCell ⟨E, 2, none⟩ u2).setCell ⟨E, 3, none⟩ u3).setCell ⟨E, 4, none⟩ u4).heap[E]? = some (.cells #[u0, u1, u2, u3, u4] t (0, 0)) ∧
    w.grownBy (((((w.setCell ⟨E, 0, none⟩ u0).setCell ⟨E, 1, none⟩ u1).setCell ⟨E, 2, none⟩ u2).setCell ⟨E, 3, none⟩ u3).setCell ⟨E, 4, none⟩ u4) (some E) := by
  have st : ∀ {W : World} {k : Nat} {l : List Value} (v : Value), W.heap[E]? = some (.cells l.toArray t (0, 0)) → (W.setCell ⟨E, k, none⟩ v).heap[E]? = some (.cells (l.set k v).toArray t (0, 0)) := fun v h => by
    have := h
    simp [World.setCell, Array.getElem?_modify, h]
  exact ⟨st u4 (st u3 (st u2 (st u1 (st (l := [a0, a1, a2, a3, a4]) u0 h)))), gro_trans (gro_trans (gro_trans (gro_trans (grE_set w ⟨E, 0, none⟩ _) (grE_set _ ⟨E, 1, none⟩ _)) (grE_set _ ⟨E, 2, none⟩ _)) (grE_set _ ⟨E, 3, none⟩ _)) (grE_set _ ⟨E, 4, none⟩ _)⟩
/-- an edit that is being read: the reader, the answer's block, the edit's -/
structure XS (w W : World) (B g B2 : Nat) (s : RS) (v0 v1 v2 v3 v4 : Value) : Prop where
  rd : ∃ A n c, ER W B g s A n c
  b2 : W.heap[B2]? = some (.cells zE 27 (0, 0))
  b3 : W.heap[B2 + 1]? = some (.cells #[v0, v1, v2, v3, v4] 27 (0, 0))
  os : W.os = w.os
  tape : W.tape = w.tape
  output : W.output = w.output
  size : w.heap.size ≤ W.heap.size
  block : ∀ k, k < w.heap.size → k ≠ g → W.heap[k]? = w.heap[k]?
  lt : g < w.heap.size
  sz : w.heap.size = B2
section
variable {w W W' : World} {B g B2 : Nat} {s s' : RS} {v0 v1 v2 v3 v4 : Value}
theorem XS.ba (h : XS w W B g B2 s v0 v1 v2 v3 v4) : B2 + 1 < W.heap.size := (Array.getElem?_eq_some_iff.1 h.b3).1
theorem XS.call (h : XS w W B g B2 s v0 v1 v2 v3 v4) (hp : EP W B g s' W') : XS w W' B g B2 s' v0 v1 v2 v3 v4 := by
  have hl := h.lt; have hz := h.sz; have hb := h.ba
  obtain ⟨hr, hg⟩ := hp
  exact ⟨hr, (hg.block _ (by omega) (by simp; omega)).trans h.b2, (hg.block _ hb (by simp; omega)).trans h.b3, hg.os.trans h.os, hg.tape.trans h.tape, hg.output.trans h.output, Nat.le_trans h.size hg.size,
    (fun k hk hne => (hg.block k (by omega) (by simpa using hne)).trans (h.block k hk hne)), h.lt, h.sz⟩
theorem XS.set (h : XS w W B g B2 s v0 v1 v2 v3 v4) (k : Nat) (u : Value) {u0 u1 u2 u3 u4 : Value} (e : [v0, v1, v2, v3, v4].set k u = [u0, u1, u2, u3, u4]) : XS w (W.setCell ⟨B2 + 1, k, none⟩ u) B g B2 s u0 u1 u2 u3 u4 := by
  have hl := h.lt; have hz := h.sz
  obtain ⟨A, n, c, hr⟩ := h.rd
  refine ⟨⟨A, n, c, hr.far (by show g < B2 + 1; omega) u⟩, (Below.heap_setCell W ⟨B2 + 1, k, none⟩ u B2 (by show B2 ≠ B2 + 1; omega)).trans h.b2, ?_, h.os, h.tape, h.output, ?_, fun i hi hne => (Below.heap_setCell W ⟨B2 + 1, k, none⟩ u i (by show i ≠ B2 + 1; omega)).trans (h.block i hi hne), h.lt, h.sz⟩
  · have hb := h.b3
    simp [World.setCell, Array.getElem?_modify, hb]
    exact e
  · have : (W.setCell ⟨B2 + 1, k, none⟩ u).heap.size = W.heap.size := by simp [World.setCell]
    rw [this]; exact h.size
theorem XS.cs (h : XS w W B g B2 s v0 v1 v2 v3 v4) : W.cell? ⟨B2 + 1, 0, none⟩ = some v0 ∧ W.cell? ⟨B2 + 1, 1, none⟩ = some v1 ∧ W.cell? ⟨B2 + 1, 2, none⟩ = some v2 ∧ W.cell? ⟨B2 + 1, 3, none⟩ = some v3 ∧ W.cell? ⟨B2 + 1, 4, none⟩ = some v4 ∧ ∀ o, W.frozen? ⟨B2 + 1, o, none⟩ = false :=
  ⟨cell_of_row _ _ 0 _ _ (0, 0) h.b3, cell_of_row _ _ 1 _ _ (0, 0) h.b3, cell_of_row _ _ 2 _ _ (0, 0) h.b3, cell_of_row _ _ 3 _ _ (0, 0) h.b3, cell_of_row _ _ 4 _ _ (0, 0) h.b3, fun o => by have := h.b3; simp [World.frozen?, this]⟩
end
theorem xs_start {w : World} {B g n c : Nat} {s : RS} {A : Option Addr} (h : ER w B g s A n c) :
    XS w ((w.alloc (.cells zE 27)).alloc (.cells zE 27)) B g w.heap.size s (.slice none 0 0) (.slice none 0 0) (.int .u32 0) (.int .u32 0) (.int .u64 0) := by
  have hb1 : Below w.heap.size w (w.alloc (.cells zE 27)) := (Below.refl _ _).alloc (Nat.le_refl _) _
  have hb := hb1.alloc hb1.size (.cells zE 27)
  have e1 := heap_alloc_new w (.cells zE 27)
  have e2 := heap_alloc_new (w.alloc (.cells zE 27)) (.cells zE 27)
  have hs : (w.alloc (.cells zE 27)).heap.size = w.heap.size + 1 := by simp
  rw [hs] at e2
  exact ⟨⟨A, n, c, h.below hb⟩, (Below.heap_alloc _ _ _ (by omega)).trans e1, e2, hb.os, hb.tape, hb.output, hb.size, fun k hk _ => hb.block k hk, h.lt, rfl⟩
theorem rdL_len {α : Type} {rd : RS → α × RS} (hrd : ∀ s, (rd s).2.1.length ≤ s.1.length) : ∀ (k : Nat) (s : RS), (rdL rd k s).2.1.length ≤ s.1.length
  | 0, s => Nat.le_refl _
  | k + 1, s => by
    unfold rdL
    split
    · exact hrd s
    · exact Nat.le_trans (rdL_len hrd k (rd s).2) (hrd s)
theorem rdAll_len {α : Type} {rd : RS → α × RS} (hrd : ∀ s, (rd s).2.1.length ≤ s.1.length) (s : RS) : (rdAll rd s).2.1.length ≤ s.1.length := Nat.le_trans (rdL_len hrd _ _) (rdN_len s)
theorem rdF_len4 (s : RS) : (rdF s).2.1.length ≤ s.1.length := (rdF_len s).2.2.2

/-- what edit answers -/
def SEd (w : World) (B g : Nat) (s : RS) (e : Ending) (w' : World) : Prop :=
  ∃ A1 n1 c1 A2 n2 c2, e = .returned (.agg #[.slice A1 n1 c1, .slice A2 n2 c2, .int .u32 ((rdEd s).jn : Int), .int .u32 ((rdEd s).nx : Int), .int .u64 ((rdEd s).sq : Int)]) ∧
    n1 ≤ s.1.length ∧ n2 ≤ s.1.length ∧ w'.ownsRow w.heap.size 37 4 (.slice A1 n1 c1) n1 (fcs (rdEd s).add) ∧ w'.ownsRow w.heap.size 24 1 (.slice A2 n2 c2) n2 (kvs (rdEd s).rem) ∧ EP w B g (rdE5 s) w'

set_option maxHeartbeats 8000000 in
theorem eedit_any (B g n c : Nat) (s : RS) (A : Option Addr) (w : World) (h : ER w B g s A n c) (hn : n ≤ 100000) :
    Calls Try.prog 19 #[.pointer (some ⟨g, 0, none⟩)] w (SEd w B g s) := by
  have h0 := xs_start h
  have hl0 := h.len
  have hl1 := rdAll_len rdF_len4 s
  have hs2 : (w.alloc (.cells zE 27)).heap.size = w.heap.size + 1 := by simp
  have hs3 : ((w.alloc (.cells zE 27)).alloc (.cells zE 27)).heap.size = w.heap.size + 2 := by simp
  obtain ⟨B2, hB2⟩ : ∃ B2, w.heap.size = B2 := ⟨_, rfl⟩
  have HB2 := Lib.hid hB2
  rw [hB2] at h0 hs2 hs3
  have hmf : ∀ (fn : Fn) (first cap : Array Value) (w : World), (Instr.makeFunc fn first cap).run Try.prog w = .ok (.func fn first cap) w := fun _ _ _ _ => rfl
  obtain ⟨W1, hW1⟩ : ∃ W, (w.alloc (.cells zE 27)).alloc (.cells zE 27) = W := ⟨_, rfl⟩
  rw [hW1] at h0 hs3
  have hEd : rdEd s = ⟨(rdAll rdF s).1.getD [], (rdAll rdS (rdE1 s)).1.getD [], (rdS (rdE2 s)).1, (rdS (rdE3 s)).1, (rdN (rdE4 s)).1⟩ := rfl
  unfold SEd
  rw [hEd]
  dsimp only
  have C1 : Hid (∀ (W : World) A n c, ER W B g s A n c → n ≤ 100000 → Calls Try.prog 30 #[.pointer (some ⟨g, 0, none⟩), .func (.func 31) #[.pointer (some ⟨g, 0, none⟩)] #[]] W (ELsF W B g s)) := fun W A n c hr hn => elistF_any B g n c s A W hr hn
  have C2 : Hid (∀ (W : World) A n c, ER W B g (rdE1 s) A n c → n ≤ 100000 → Calls Try.prog 32 #[.pointer (some ⟨g, 0, none⟩), .func (.func 33) #[.pointer (some ⟨g, 0, none⟩)] #[]] W (ELsK W B g (rdE1 s))) := fun W A n c hr hn => elistK_any B g n c (rdE1 s) A W hr hn
  have e1 : (rdAll rdF s).2 = rdE1 s := rfl
  have e2 : (rdAll rdS (rdE1 s)).2 = rdE2 s := rfl
  have e3 : (rdS (rdE2 s)).2 = rdE3 s := rfl
  have e4 : (rdS (rdE3 s)).2 = rdE4 s := rfl
  have e5 : (rdN (rdE4 s)).2 = rdE5 s := rfl
  have C3 : Hid (∀ (W : World) A n c, ER W B g (rdE2 s) A n c → Calls Try.prog 33 #[.pointer (some ⟨g, 0, none⟩)] W fun e w' => e = .returned (.int .u32 ((rdS (rdE2 s)).1 : Int)) ∧ EP W B g (rdE3 s) w') := fun W A n c hr => by rw [← e3]; exact eshort_any B g n c _ A W hr
  have C4 : Hid (∀ (W : World) A n c, ER W B g (rdE3 s) A n c → Calls Try.prog 33 #[.pointer (some ⟨g, 0, none⟩)] W fun e w' => e = .returned (.int .u32 ((rdS (rdE3 s)).1 : Int)) ∧ EP W B g (rdE4 s) w') := fun W A n c hr => by rw [← e4]; exact eshort_any B g n c _ A W hr
  have C5 : Hid (∀ (W : World) A n c, ER W B g (rdE4 s) A n c → Calls Try.prog 34 #[.pointer (some ⟨g, 0, none⟩)] W fun e w' => e = .returned (.int .u64 ((rdN (rdE4 s)).1 : Int)) ∧ EP W B g (rdE5 s) w') := fun W A n c hr => by rw [← e5]; exact enum_any B g n c _ A W hr
  obtain ⟨LF, hLF⟩ : ∃ x, (rdAll rdF s).1.getD [] = x := ⟨_, rfl⟩
  obtain ⟨LK, hLK⟩ : ∃ x, (rdAll rdS (rdE1 s)).1.getD [] = x := ⟨_, rfl⟩
  obtain ⟨jn, hjn⟩ : ∃ x, (rdS (rdE2 s)).1 = x := ⟨_, rfl⟩
  obtain ⟨nx, hnx⟩ : ∃ x, (rdS (rdE3 s)).1 = x := ⟨_, rfl⟩
  obtain ⟨sq, hsq⟩ : ∃ x, (rdN (rdE4 s)).1 = x := ⟨_, rfl⟩
  unfold ELsF at C1
  unfold ELsK at C2
  rw [e1, hLF] at C1
  rw [e2, hLK] at C2
  rw [e1] at hl1
  rw [hjn] at C3; rw [hnx] at C4; rw [hsq] at C5
  rw [hLF, hLK, hjn, hnx, hsq]
  have H0 := Lib.hid h0
  have HL1 := Lib.hid hl1; have HL0 := Lib.hid hl0; have HZ := Lib.hid hs3
  clear h h0 hl0 hl1 hEd e1 e2 e3 e4 e5 hLF hLK hjn hnx hsq
  go_enter Try.func19, Try.ntmps19
  go_wp2_with fail
  clear hW1
  obtain ⟨A1, n1, c1, r1⟩ := H0.out.rd
  with_reducible refine Calls.mono (C1.out _ _ _ _ r1 (by have := r1.len; have := HL0.out; omega)) ?_
  rintro e w2 ⟨Af, nf, cf, rfl, hnf, hof, hp⟩
  have hgB : g < B2 + 2 := by have := H0.out.lt; have := H0.out.sz; omega
  rw [HZ.out] at hof
  have S1 := H0.out.call hp
  obtain ⟨z0, z1, z2, z3, z4, fz⟩ := S1.cs
  have f0 := fz 0
  have T1 := S1.set 0 (.slice Af nf cf) rfl
  have hgs := grE_set w2 ⟨B2 + 1, 0, none⟩ (.slice Af nf cf)
  have of1 := own_gr hof hgs (show B2 + 1 < B2 + 2 by omega)
  obtain ⟨W11, hW11⟩ : ∃ W, w2.setCell ⟨B2 + 1, 0, none⟩ (.slice Af nf cf) = W := ⟨_, rfl⟩
  rw [hW11] at T1
  rw [hW11] at of1
  have H1 := Lib.hid T1; have OF1 := Lib.hid of1
  clear hp S1 T1 fz hof of1 hgs r1
  go_wp2_with fail
  clear hW11 z0 z1 z2 z3 z4 f0
  obtain ⟨A2, n2, c2, r2⟩ := H1.out.rd
  with_reducible refine Calls.mono (C2.out _ _ _ _ r2 (by have := r2.len; have := HL0.out; have := HL1.out; omega)) ?_
  rintro e w3 ⟨Ak, nk, ck, rfl, hnk, hok, hp⟩
  have hok := own_base hok (show B2 + 2 ≤ W11.heap.size by have := H1.out.ba; omega)
  have of2 := own_gr OF1.out hp.2 hgB
  have S2 := H1.out.call hp
  obtain ⟨z0, z1, z2, z3, z4, fz⟩ := S2.cs
  have f0 := fz 1
  have T2 := S2.set 1 (.slice Ak nk ck) rfl
  have hgs := grE_set w3 ⟨B2 + 1, 1, none⟩ (.slice Ak nk ck)
  have of3 := own_gr of2 hgs (show B2 + 1 < B2 + 2 by omega)
  have ok3 := own_gr hok hgs (show B2 + 1 < B2 + 2 by omega)
  obtain ⟨W12, hW12⟩ : ∃ W, w3.setCell ⟨B2 + 1, 1, none⟩ (.slice Ak nk ck) = W := ⟨_, rfl⟩
  rw [hW12] at T2
  rw [hW12] at of3 ok3
  have H2 := Lib.hid T2; have OF2 := Lib.hid of3; have OK2 := Lib.hid ok3
  clear hp S2 T2 fz hok of2 of3 ok3 hgs r2 OF1
  go_wp2_with fail
  clear hW12 z0 z1 z2 z3 z4 f0
  obtain ⟨A3, n3, c3, r3⟩ := H2.out.rd
  with_reducible refine Calls.mono (C3.out _ _ _ _ r3) ?_
  rintro e w4 ⟨rfl, hp⟩
  have of2 := own_gr OF2.out hp.2 hgB
  have ok2 := own_gr OK2.out hp.2 hgB
  have S3 := H2.out.call hp
  obtain ⟨z0, z1, z2, z3, z4, fz⟩ := S3.cs
  have f0 := fz 2
  have T3 := S3.set 2 (.int .u32 (jn : Int)) rfl
  have hgs := grE_set w4 ⟨B2 + 1, 2, none⟩ (.int .u32 (jn : Int))
  have of3 := own_gr of2 hgs (show B2 + 1 < B2 + 2 by omega)
  have ok3 := own_gr ok2 hgs (show B2 + 1 < B2 + 2 by omega)
  obtain ⟨W13, hW13⟩ : ∃ W, w4.setCell ⟨B2 + 1, 2, none⟩ (.int .u32 (jn : Int)) = W := ⟨_, rfl⟩
  rw [hW13] at T3
  rw [hW13] at of3 ok3
  have H3 := Lib.hid T3; have OF3 := Lib.hid of3; have OK3 := Lib.hid ok3
  clear hp S3 T3 fz ok2 of2 of3 ok3 hgs r3 OF2 OK2
  go_wp2_with fail
  clear hW13 z0 z1 z2 z3 z4 f0
  obtain ⟨A4, n4, c4, r4⟩ := H3.out.rd
  with_reducible refine Calls.mono (C4.out _ _ _ _ r4) ?_
  rintro e w5 ⟨rfl, hp⟩
  have of2 := own_gr OF3.out hp.2 hgB
  have ok2 := own_gr OK3.out hp.2 hgB
  have S4 := H3.out.call hp
  obtain ⟨z0, z1, z2, z3, z4, fz⟩ := S4.cs
  have f0 := fz 3
  have T4 := S4.set 3 (.int .u32 (nx : Int)) rfl
  have hgs := grE_set w5 ⟨B2 + 1, 3, none⟩ (.int .u32 (nx : Int))
  have of3 := own_gr of2 hgs (show B2 + 1 < B2 + 2 by omega)
  have ok3 := own_gr ok2 hgs (show B2 + 1 < B2 + 2 by omega)
  obtain ⟨W14, hW14⟩ : ∃ W, w5.setCell ⟨B2 + 1, 3, none⟩ (.int .u32 (nx : Int)) = W := ⟨_, rfl⟩
  rw [hW14] at T4
  rw [hW14] at of3 ok3
  have H4 := Lib.hid T4; have OF4 := Lib.hid of3; have OK4 := Lib.hid ok3
  clear hp S4 T4 fz ok2 of2 of3 ok3 hgs r4 OF3 OK3
  go_wp2_with fail
  clear hW14 z0 z1 z2 z3 z4 f0
  obtain ⟨A5, n5, c5, r5⟩ := H4.out.rd
  with_reducible refine Calls.mono (C5.out _ _ _ _ r5) ?_
  rintro e w6 ⟨rfl, hp⟩
  have of2 := own_gr OF4.out hp.2 hgB
  have ok2 := own_gr OK4.out hp.2 hgB
  have S5 := H4.out.call hp
  obtain ⟨z0, z1, z2, z3, z4, fz⟩ := S5.cs
  have f0 := fz 4
  have T5 := S5.set 4 (.int .u64 (sq : Int)) rfl
  have hgs := grE_set w6 ⟨B2 + 1, 4, none⟩ (.int .u64 (sq : Int))
  have of3 := own_gr of2 hgs (show B2 + 1 < B2 + 2 by omega)
  have ok3 := own_gr ok2 hgs (show B2 + 1 < B2 + 2 by omega)
  obtain ⟨W15, hW15⟩ : ∃ W, w6.setCell ⟨B2 + 1, 4, none⟩ (.int .u64 (sq : Int)) = W := ⟨_, rfl⟩
  rw [hW15] at T5
  rw [hW15] at of3 ok3
  obtain ⟨y0, y1, y2, y3, y4, _⟩ := T5.cs
  have hb2 := T5.b2
  unfold zE at hb2
  have x0 : W15.cell? ⟨B2, 0, none⟩ = some (.slice none 0 0) := cell_of_row W15 _ 0 _ _ (0, 0) hb2
  have x1 : W15.cell? ⟨B2, 1, none⟩ = some (.slice none 0 0) := cell_of_row W15 _ 1 _ _ (0, 0) hb2
  have x2 : W15.cell? ⟨B2, 2, none⟩ = some (.int .u32 0) := cell_of_row W15 _ 2 _ _ (0, 0) hb2
  have x3 : W15.cell? ⟨B2, 3, none⟩ = some (.int .u32 0) := cell_of_row W15 _ 3 _ _ (0, 0) hb2
  have x4 : W15.cell? ⟨B2, 4, none⟩ = some (.int .u64 0) := cell_of_row W15 _ 4 _ _ (0, 0) hb2
  have g0 : W15.frozen? ⟨B2, 0, none⟩ = false := by simp [World.frozen?, hb2]
  have g1 : W15.frozen? ⟨B2, 1, none⟩ = false := by simp [World.frozen?, hb2]
  have g2 : W15.frozen? ⟨B2, 2, none⟩ = false := by simp [World.frozen?, hb2]
  have g3 : W15.frozen? ⟨B2, 3, none⟩ = false := by simp [World.frozen?, hb2]
  have g4 : W15.frozen? ⟨B2, 4, none⟩ = false := by simp [World.frozen?, hb2]
  obtain ⟨hf8, hg8⟩ := five_setE (g := B2) hb2 (Nat.le_refl _) (.slice Af nf cf) (.slice Ak nk ck) (.int .u32 (jn : Int)) (.int .u32 (nx : Int)) (.int .u64 (sq : Int))
  obtain ⟨W8, hW8⟩ : ∃ W, ((((W15.setCell ⟨B2, 0, none⟩ (.slice Af nf cf)).setCell ⟨B2, 1, none⟩ (.slice Ak nk ck)).setCell ⟨B2, 2, none⟩ (.int .u32 (jn : Int))).setCell ⟨B2, 3, none⟩ (.int .u32 (nx : Int))).setCell ⟨B2, 4, none⟩ (.int .u64 (sq : Int)) = W := ⟨_, rfl⟩
  rw [hW8] at hf8 hg8
  have u0 : W8.cell? ⟨B2, 0, none⟩ = some (.slice Af nf cf) := cell_of_row W8 _ 0 _ _ (0, 0) hf8
  have u1 : W8.cell? ⟨B2, 1, none⟩ = some (.slice Ak nk ck) := cell_of_row W8 _ 1 _ _ (0, 0) hf8
  have u2 : W8.cell? ⟨B2, 2, none⟩ = some (.int .u32 (jn : Int)) := cell_of_row W8 _ 2 _ _ (0, 0) hf8
  have u3 : W8.cell? ⟨B2, 3, none⟩ = some (.int .u32 (nx : Int)) := cell_of_row W8 _ 3 _ _ (0, 0) hf8
  have u4 : W8.cell? ⟨B2, 4, none⟩ = some (.int .u64 (sq : Int)) := cell_of_row W8 _ 4 _ _ (0, 0) hf8
  have HF : Hid (nf ≤ s.1.length ∧ nk ≤ s.1.length ∧ W8.ownsRow w.heap.size 37 4 (.slice Af nf cf) nf (fcs LF) ∧ W8.ownsRow w.heap.size 24 1 (.slice Ak nk ck) nk (kvs LK) ∧ EP w B g (rdE5 s) W8) := by
    have hl := T5.lt; have hz := T5.sz
    refine ⟨hnf, Nat.le_trans hnk HL1.out, own_base (own_gr of3 hg8 (by omega)) (by omega), own_base (own_gr ok3 hg8 (by omega)) (by omega), ?_⟩
    obtain ⟨A, n, c, hr⟩ := T5.rd
    refine ⟨⟨A, n, c, ⟨(hg8.block g hr.lt (by simp; omega)).trans hr.box, hr.lies.keep (fun p hp => ?_), hr.nc, hr.cm, hr.Bg⟩⟩, ?_⟩
    · have hB := hr.Bg
      have hlt := hr.lt
      unfold World.cell?
      rw [hg8.block p.block (by omega) (by simp; omega)]
    · exact ⟨hg8.os.trans T5.os, hg8.tape.trans T5.tape, hg8.output.trans T5.output, Nat.le_trans T5.size hg8.size, fun k hk hne => (hg8.block k (Nat.lt_of_lt_of_le hk T5.size) (by simp; omega)).trans (T5.block k hk (fun e => hne (by rw [e])))⟩
  clear hp S5 T5 fz ok2 of2 of3 ok3 hgs r5 OF4 OK4 hf8 hg8 hb2 hnf hnk
  go_wp2
  clear x0 x1 x2 x3 x4 g0 g1 g2 g3 g4 y0 y1 y2 y3 y4 z0 z1 z2 z3 z4 f0 hW15 hW8
  exact bodyPost_ret (v := .agg #[.slice Af nf cf, .slice Ak nk ck, .int .u32 (jn : Int), .int .u32 (nx : Int), .int .u64 (sq : Int)]) (by simp [results, Try.results19, go_sem, u0, u1, u2, u3, u4]) rfl ⟨Af, nf, cf, Ak, nk, ck, rfl, HF.out⟩
end Go.Proofs.Ytnnocjnmfabnaaa
