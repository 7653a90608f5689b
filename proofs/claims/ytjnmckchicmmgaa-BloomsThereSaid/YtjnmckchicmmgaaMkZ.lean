/-
  make([]byte, n): the memory behind it.
-/
import Derived.Test.YtjnmckchicmmgaaMem
import Derived.Laws.OwnMore
namespace Go.Proofs.Ytjnmckchicmmgaa
open Go.RowKit
set_option linter.unusedVariables false
set_option linter.unusedSimpArgs false
set_option maxRecDepth 100000

theorem mkZ_ex (w : World) (n : Nat) (b : n ≤ 1099511627776) : ∃ w', (Instr.makeSlice 22 (.int .i64 (n : Int)) (.int .i64 (n : Int))).run Try.prog w = .ok (.slice (some ⟨w.heap.size, 0, none⟩) n n) w' ∧
    Lies w' w'.heap.size 1 (some ⟨w.heap.size, 0, none⟩) n ((List.replicate n (0 : UInt8)).map bv) ∧ Below w.heap.size w w' := by
  obtain ⟨i0, hi, hz0, hz1, hz2⟩ := info_parts byte_info
  obtain ⟨w', hrun, r1, r2⟩ := run_make_full (P := Try.prog) (w := w) w.heap.size 22 5 i0 _ 1 Try.underlying22 hi hz0 hz1 .i64 .i64 n (by rw [hz2]; omega) (by unfold maxLen; omega) (Nat.le_refl _)
  have e : (madeCells (Value.int .u8 0).cells (n * 1)).toList = (List.replicate n (0 : UInt8)).map bv := by
    rw [Nat.mul_one]
    refine (toList_madeCells_one (.int .u8 0) n).trans ?_
    rw [List.map_replicate]; rfl
  rw [e] at r1
  exact ⟨w', hrun, Lies.of_own r1, (Below.refl _ _).grown r2 (Nat.le_refl _) (fun k e => by cases e)⟩
/-- the memory behind 'make([]byte, n)' -/
noncomputable def mkZ (w : World) (n : Nat) : World := if h : n ≤ 1099511627776 then (mkZ_ex w n h).choose else w
theorem mkZ_is (w : World) (n : Nat) (b : n ≤ 1099511627776) : (Instr.makeSlice 22 (.int .i64 (n : Int)) (.int .i64 (n : Int))).run Try.prog w = .ok (.slice (some ⟨w.heap.size, 0, none⟩) n n) (mkZ w n) ∧
    Lies (mkZ w n) (mkZ w n).heap.size 1 (some ⟨w.heap.size, 0, none⟩) n ((List.replicate n (0 : UInt8)).map bv) ∧ Below w.heap.size w (mkZ w n) := by
  unfold mkZ
  rw [dif_pos b]
  exact (mkZ_ex w n b).choose_spec
end Go.Proofs.Ytjnmckchicmmgaa
