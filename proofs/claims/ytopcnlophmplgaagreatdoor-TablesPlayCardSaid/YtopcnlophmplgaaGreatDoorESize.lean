/-
  How many bytes a list of entries weighs; contract of the laws' helper EntriesSize.
-/
import Derived.Test.YtopcnlophmplgaaGreatDoorMarks
import Derived.BigQuiet
import Derived.LoopTactic
namespace Go.Proofs.YtopcnlophmplgaaGreatDoor
open Go.RowKit
set_option linter.unusedVariables false

def esum (l : List En) : Nat := (l.map fun x => x.m.k.size + x.x.size).sum
theorem esum_take (l : List En) (k : Nat) (x : En) (h : l[k]? = some x) : esum (l.take (k + 1)) = esum (l.take k) + (x.m.k.size + x.x.size) := by
  unfold esum
  rw [List.take_add_one, h]; simp
theorem esum_mem (l : List En) (x : En) (h : x ∈ l) : x.m.k.size + x.x.size ≤ esum l := by
  induction l with
  | nil => cases h
  | cons a l ih =>
    have e : esum (a :: l) = a.m.k.size + a.x.size + esum l := by unfold esum; simp
    rcases List.mem_cons.1 h with rfl | h
    · omega
    · have := ih h; omega
theorem esum_take_le (l : List En) (k : Nat) : esum (l.take k) ≤ esum l := by
  have e : esum l = esum (l.take k) + esum (l.drop k) := by
    unfold esum
    rw [← List.sum_append, ← List.map_append, List.take_append_drop]
  omega
theorem esum_drop_le (l : List En) (k : Nat) : esum (l.drop k) ≤ esum l := by
  have e : esum l = esum (l.take k) + esum (l.drop k) := by
    unfold esum
    rw [← List.sum_append, ← List.map_append, List.take_append_drop]
  omega
end Go.Proofs.YtopcnlophmplgaaGreatDoor
