/-
  What package models answers for a state that is not there, or that no call made.
-/
import Derived.Test.YtlbnhiilllohfaaMem
namespace Go.Proofs.Ytlbnhiilllohfaa
open Go.RowKit
set_option linter.unusedVariables false
set_option maxRecDepth 100000

def MNo (w : World) (p : Option Addr) : Prop := p = none ∨ ∃ b, p = some ⟨b, 0, none⟩ ∧ b < w.heap.size ∧ w.cell? ⟨b, 0, none⟩ = some (.bool false)
theorem MNo.below {w w' : World} {p : Option Addr} (h : MNo w p) (hb : Below w.heap.size w w') : MNo w' p := by
  rcases h with h | ⟨b, h1, h2, h3⟩
  · exact .inl h
  · exact .inr ⟨b, h1, Nat.lt_of_lt_of_le h2 hb.size, by rw [hb.cell h2]; exact h3⟩
/-- a struct of three cells is written whole -/
theorem three_set {w w0 : World} {E g : Nat} {a0 a1 a2 : Value} {t : TypeId} (h : w.heap[E]? = some (.cells #[a0, a1, a2] t (0, 0))) (hb : Below g w0 w) (hg : g ≤ E) (u0 u1 u2 : Value) :
    (((w.setCell ⟨E, 0, none⟩ u0).setCell ⟨E, 1, none⟩ u1).setCell ⟨E, 2, none⟩ u2).heap[E]? = some (.cells #[u0, u1, u2] t (0, 0)) ∧
    Below g w0 (((w.setCell ⟨E, 0, none⟩ u0).setCell ⟨E, 1, none⟩ u1).setCell ⟨E, 2, none⟩ u2) := by
  have st : ∀ {W : World} {k : Nat} {l : List Value} (v : Value), W.heap[E]? = some (.cells l.toArray t (0, 0)) → (W.setCell ⟨E, k, none⟩ v).heap[E]? = some (.cells (l.set k v).toArray t (0, 0)) := fun v h => by
    have := h
    simp [World.setCell, Array.getElem?_modify, h]
  exact ⟨st u2 (st u1 (st (l := [a0, a1, a2]) u0 h)), ((hb.setCell hg _).setCell hg _).setCell hg _⟩
section
variable {p : Option Addr} {w : World} (h : MNo w p)
include h
theorem exists_mno : Calls Try.prog 8 #[.pointer p] w fun x w' => x = .returned (.bool false) ∧ w' = w := by
  rcases h with rfl | ⟨b, rfl, _, h3⟩
  · go_enter Try.func8, Try.ntmps8
    go_wp2
    go_ret
    exact ⟨rfl, rfl⟩
  · go_enter Try.func8, Try.ntmps8
    go_wp2
    go_ret
    exact ⟨rfl, rfl⟩
theorem rows_mno : Calls Try.prog 5 #[.pointer p] w fun x w' => x = .returned (.slice none 0 0) ∧ w' = w := by
  have HE := Lib.hid (exists_mno h)
  clear h
  go_enter Try.func5, Try.ntmps5
  go_wp2_with fail
  refine HE.out.mono ?_
  rintro x w1 ⟨rfl, hw⟩
  obtain rfl := hw.symm
  go_wp2
  go_ret
  exact ⟨rfl, rfl⟩
theorem said_mno : Calls Try.prog 6 #[.pointer p] w fun x w' => x = .returned (.slice none 0 0) ∧ w' = w := by
  have HE := Lib.hid (exists_mno h)
  clear h
  go_enter Try.func6, Try.ntmps6
  go_wp2_with fail
  refine HE.out.mono ?_
  rintro x w1 ⟨rfl, hw⟩
  obtain rfl := hw.symm
  go_wp2
  go_ret
  exact ⟨rfl, rfl⟩
theorem changes_mno (v0 v1 v2 v3 v4 v5 v6 v7 : Value) : Calls Try.prog 7 #[.pointer p, .agg #[v0, v1, v2, v3, v4, v5, v6, v7]] w fun x w' => x = .returned (.slice none 0 0) ∧ Below w.heap.size w w' := by
  have hB : Below w.heap.size w (w.alloc (.cells #[v0, v1, v2, v3, v4, v5, v6, v7] 26)) := (Below.refl _ _).alloc (Nat.le_refl _) _
  obtain ⟨W, hW⟩ : ∃ W, w.alloc (.cells #[v0, v1, v2, v3, v4, v5, v6, v7] 26) = W := ⟨_, rfl⟩
  rw [hW] at hB
  have HE := Lib.hid (exists_mno (h.below hB))
  have HB := Lib.hid hB
  clear h hB
  go_enter Try.func7, Try.ntmps7
  go_wp2_with fail
  clear hW
  refine HE.out.mono ?_
  rintro x w1 ⟨rfl, hw⟩
  obtain rfl := hw.symm
  go_wp2
  go_ret
  exact ⟨rfl, HB.out⟩
theorem do_mno (c k : Int) (v0 v1 v2 v3 v4 v5 v6 v7 : Value) : Calls Try.prog 4 #[.pointer p, .int .u8 c, .int .u32 k, .agg #[v0, v1, v2, v3, v4, v5, v6, v7]] w fun x w' => x = .returned (.tuple #[.agg #[.int .i64 0, .bool false, .slice none 0 0], .int .i64 2]) ∧ Below w.heap.size w w' := by
  have hB : Below w.heap.size w (w.alloc (.cells #[v0, v1, v2, v3, v4, v5, v6, v7] 26)) := (Below.refl _ _).alloc (Nat.le_refl _) _
  obtain ⟨W, hW⟩ : ∃ W, w.alloc (.cells #[v0, v1, v2, v3, v4, v5, v6, v7] 26) = W := ⟨_, rfl⟩
  rw [hW] at hB
  have hB2 : Below w.heap.size w (W.alloc (.cells #[.int .i64 0, .bool false, .slice none 0 0] 31)) := hB.alloc hB.size _
  have hbx : (W.alloc (.cells #[.int .i64 0, .bool false, .slice none 0 0] 31)).heap[W.heap.size]? = some (.cells #[.int .i64 0, .bool false, .slice none 0 0] 31 (0, 0)) := heap_alloc_new W _
  obtain ⟨W2, hW2⟩ : ∃ W2, W.alloc (.cells #[.int .i64 0, .bool false, .slice none 0 0] 31) = W2 := ⟨_, rfl⟩
  rw [hW2] at hB2 hbx
  have HE := Lib.hid (exists_mno (h.below hB2))
  have HX := Lib.hid hbx
  have HF := Lib.hid (three_set hbx hB2 hB.size (.int .i64 0) (.bool false) (.slice none 0 0))
  clear h hB hB2 hbx
  go_enter Try.func4, Try.ntmps4
  go_wp2_with fail
  refine HE.out.mono ?_
  rintro x w1 ⟨rfl, hw⟩
  obtain rfl := hw.symm
  have hbx := HX.out
  have z0 : W2.cell? ⟨W.heap.size, 0, none⟩ = some (.int .i64 0) := cell_of_row W2 _ 0 _ _ (0, 0) hbx
  have z1 : W2.cell? ⟨W.heap.size, 1, none⟩ = some (.bool false) := cell_of_row W2 _ 1 _ _ (0, 0) hbx
  have z2 : W2.cell? ⟨W.heap.size, 2, none⟩ = some (.slice none 0 0) := cell_of_row W2 _ 2 _ _ (0, 0) hbx
  have f0 : W2.frozen? ⟨W.heap.size, 0, none⟩ = false := by simp [World.frozen?, hbx]
  have f1 : W2.frozen? ⟨W.heap.size, 1, none⟩ = false := by simp [World.frozen?, hbx]
  have f2 : W2.frozen? ⟨W.heap.size, 2, none⟩ = false := by simp [World.frozen?, hbx]
  clear hW hW2 hbx HE
  go_wp2
  clear z0 z1 z2 f0 f1 f2
  generalize ((W2.setCell ⟨W.heap.size, 0, none⟩ (.int .i64 0)).setCell ⟨W.heap.size, 1, none⟩ (.bool false)).setCell ⟨W.heap.size, 2, none⟩ (.slice none 0 0) = WF at *
  obtain ⟨hf, hbf⟩ := HF.out
  have z0 : WF.cell? ⟨W.heap.size, 0, none⟩ = some (.int .i64 0) := cell_of_row WF _ 0 _ _ (0, 0) hf
  have z1 : WF.cell? ⟨W.heap.size, 1, none⟩ = some (.bool false) := cell_of_row WF _ 1 _ _ (0, 0) hf
  have z2 : WF.cell? ⟨W.heap.size, 2, none⟩ = some (.slice none 0 0) := cell_of_row WF _ 2 _ _ (0, 0) hf
  exact bodyPost_ret (v := .tuple #[.agg #[.int .i64 0, .bool false, .slice none 0 0], .int .i64 2]) (by simp [results, Try.results4, go_sem, z0, z1, z2]) rfl ⟨rfl, hbf⟩
end
end Go.Proofs.Ytlbnhiilllohfaa
