/-
  '[]byte(s)' of any string.
-/
import Derived.Test.YtjnmckchicmmgaaGreatDoorMem
import Derived.Laws.IdiomStrings
namespace Go.Proofs.YtjnmckchicmmgaaGreatDoor
open Go.RowKit
set_option linter.unusedVariables false
set_option maxRecDepth 20000

/-- '[]byte(s)' -/
theorem conv_bytes (w : World) (s : ByteArray) : ∃ w' c, (convert 9 25 (.string s)).run Tryz.prog w = .ok (.slice (some ⟨w.heap.size, 0, none⟩) s.size c) w' ∧ Below w.heap.size w w' ∧ Lies w' w'.heap.size 1 (some ⟨w.heap.size, 0, none⟩) s.size (s.data.toList.map bv) := by
  refine ⟨_, _, run_bytes_of_string w 9 25 5 s Tryz.underlying9 Tryz.underlying25 Tryz.underlying5, ((Below.refl _ _).drew).alloc (Nat.le_refl _) _, ?_⟩
  generalize grownCap w s.size 0 5 = c
  have hz := (fun (w : World) (o : Obj) => (Array.size_push (xs := w.heap) o).symm : ∀ (w : World) (o : Obj), w.heap.size + 1 = (w.alloc o).heap.size) w.drew (.cells (bytesRow s c) 5 ((bytesRow s c).size, (bytesRow s c).size + 1))
  have h : (w.drew.alloc (.cells (bytesRow s c) 5 ((bytesRow s c).size, (bytesRow s c).size + 1))).heap[w.heap.size]? = some (.cells (bytesRow s c) 5 ((bytesRow s c).size, (bytesRow s c).size + 1)) := heap_alloc_new w.drew _
  have hz2 : w.heap.size + 1 = (w.drew.alloc (.cells (bytesRow s c) 5 ((bytesRow s c).size, (bytesRow s c).size + 1))).heap.size := hz
  refine ⟨by rw [List.length_map, Array.length_toList, Nat.mul_one]; rfl, fun j hj => ?_⟩
  have hj2 : j < s.data.size := by rw [List.length_map, Array.length_toList] at hj; exact hj
  refine ⟨_, bv (s.data[j]), rfl, by show w.heap.size < _; omega, ?_, ?_⟩
  · rw [List.getElem?_map, Array.getElem?_toList, Array.getElem?_eq_getElem hj2]; rfl
  · rw [add_lit, Nat.zero_add, cell_of_row _ w.heap.size j _ _ _ h, bytesRow_at s c j hj2]
end Go.Proofs.YtjnmckchicmmgaaGreatDoor
