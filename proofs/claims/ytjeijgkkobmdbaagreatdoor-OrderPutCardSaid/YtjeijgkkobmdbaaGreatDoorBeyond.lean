/-
  What laws of all layers share: Beyond at one number.
-/
import Derived.Test.YtjeijgkkobmdbaaGreatDoorHelpA
namespace Go.Proofs.YtjeijgkkobmdbaaGreatDoor
open Go.RowKit
set_option linter.unusedVariables false
set_option maxRecDepth 100000

theorem beyond_yes (z : Nat) (w : World) (hz : z ≤ 4611686018427387904) (h : 1048576 < z) :
    Calls Tryz.prog 4 #[.slice (some ⟨w.heap.size, 0, none⟩) 1 1] (w.alloc (.cells #[.int .i64 (z : Int)] 3)) fun e w' => e = .returned (.bool true) ∧ Below w.heap.size w w' := by
  have hl := one_lies (w := w) rfl (.int .i64 (z : Int)) 3
  refine (beyond_any _ 1 1 [z] _ (hl.more (by simp)) (by simpa using hz) (by decide)).mono fun e w' ⟨he, hw⟩ => ?_
  subst hw
  have hb : big [z] = true := by unfold big; rw [List.sum_singleton]; exact decide_eq_true h
  exact ⟨by rw [he, hb], (Below.refl _ _).alloc (Nat.le_refl _) _⟩
theorem beyond_no (z : Nat) (w : World) (h : z ≤ 1048576) :
    Calls Tryz.prog 4 #[.slice (some ⟨w.heap.size, 0, none⟩) 1 1] (w.alloc (.cells #[.int .i64 (z : Int)] 3)) fun e w' => e = .returned (.bool false) ∧ Below w.heap.size w w' := by
  have hl := one_lies (w := w) rfl (.int .i64 (z : Int)) 3
  refine (beyond_any _ 1 1 [z] _ (hl.more (by simp)) (by simp; omega) (by decide)).mono fun e w' ⟨he, hw⟩ => ?_
  subst hw
  have hb : big [z] = false := by unfold big; rw [List.sum_singleton]; exact decide_eq_false (by omega)
  exact ⟨by rw [he, hb], (Below.refl _ _).alloc (Nat.le_refl _) _⟩

theorem beyond_z (z : Int) (k : Nat) (w : World) (g : Nat) (hg : w.heap.size = g) (hz : (k : Int) = z) (hk : k ≤ 4611686018427387904) (b : Bool) (hb : decide (1048576 < k) = b) :
    Calls Tryz.prog 4 #[.slice (some ⟨g, 0, none⟩) 1 1] (w.alloc (.cells #[.int .i64 z] 3)) fun e w' => e = .returned (.bool b) ∧ Below w.heap.size w w' := by
  subst hg hz hb
  by_cases h : 1048576 < k
  · rw [decide_eq_true h]; exact beyond_yes k w hk h
  · rw [decide_eq_false h]; exact beyond_no k w (by omega)
end Go.Proofs.YtjeijgkkobmdbaaGreatDoor
