/-
  The world behind the box of an entry, of a mark.
  How many bytes a list of entries weighs; contract of the laws' helper EntriesSize.
-/
import Derived.Test.YtbbimfbkllellaaGreatDoorMarks
import Derived.KernelRfl
import Derived.BigQuiet
import Derived.LoopTactic
namespace Go.Proofs.YtbbimfbkllellaaGreatDoor
open Go.RowKit
set_option linter.unusedVariables false

/-- the world behind an entry's box -/
abbrev enW (w : World) (x : En) : World := w.alloc (.cells #[.string x.m.k, .int .u64 (x.m.s : Int), .bool x.m.g, .string x.x] 59)
theorem enW_facts (w : World) (x : En) : (enW w x).cell? ⟨w.heap.size, 0, none⟩ = some (.string x.m.k) ∧ (enW w x).cell? ⟨w.heap.size, 1, none⟩ = some (.int .u64 (x.m.s : Int)) ∧ (enW w x).cell? ⟨w.heap.size, 2, none⟩ = some (.bool x.m.g) ∧ (enW w x).cell? ⟨w.heap.size, 3, none⟩ = some (.string x.x) ∧ Below w.heap.size w (enW w x) ∧ (enW w x).heap.size = w.heap.size + 1 := by
  have h : (enW w x).heap[w.heap.size]? = some (.cells #[.string x.m.k, .int .u64 (x.m.s : Int), .bool x.m.g, .string x.x] 59 (0, 0)) := heap_alloc_new w _
  exact ⟨cell_of_row _ _ 0 _ _ (0, 0) h, cell_of_row _ _ 1 _ _ (0, 0) h, cell_of_row _ _ 2 _ _ (0, 0) h, cell_of_row _ _ 3 _ _ (0, 0) h, (Below.refl _ _).alloc (Nat.le_refl _) _, by simp⟩
abbrev mkW (w : World) (m : Mk) : World := w.alloc (.cells #[.string m.k, .int .u64 (m.s : Int), .bool m.g] 25)
theorem mkW_facts (w : World) (m : Mk) : (mkW w m).cell? ⟨w.heap.size, 0, none⟩ = some (.string m.k) ∧ (mkW w m).cell? ⟨w.heap.size, 1, none⟩ = some (.int .u64 (m.s : Int)) ∧ (mkW w m).cell? ⟨w.heap.size, 2, none⟩ = some (.bool m.g) ∧ Below w.heap.size w (mkW w m) ∧ (mkW w m).heap.size = w.heap.size + 1 := by
  have h : (mkW w m).heap[w.heap.size]? = some (.cells #[.string m.k, .int .u64 (m.s : Int), .bool m.g] 25 (0, 0)) := heap_alloc_new w _
  exact ⟨cell_of_row _ _ 0 _ _ (0, 0) h, cell_of_row _ _ 1 _ _ (0, 0) h, cell_of_row _ _ 2 _ _ (0, 0) h, (Below.refl _ _).alloc (Nat.le_refl _) _, by simp⟩
theorem entry_info : (Tryz.prog.info? 59).map (fun i => (i.zero, i.size, i.bytes)) = some (some (.agg #[.string ByteArray.empty, .int .u64 0, .bool false, .string ByteArray.empty]), 4, 48) := by kernel_rfl
theorem ecs_one (l : List En) : ∀ u ∈ ecs l, u.oneCell' = true := by
  intro u hu
  obtain ⟨m, _, hm⟩ := List.mem_flatMap.1 hu
  simp only [En.cs, List.mem_cons, List.not_mem_nil, or_false] at hm
  rcases hm with rfl | rfl | rfl | rfl <;> rfl
theorem en_lies (w : World) (x : En) : Lies (enW w x) (w.heap.size + 1) 4 (some ⟨w.heap.size, 0, none⟩) 1 (ecs [x]) := by
  have h : (enW w x).heap[w.heap.size]? = some (.cells #[.string x.m.k, .int .u64 (x.m.s : Int), .bool x.m.g, .string x.x] 59 (0, 0)) := heap_alloc_new w _
  have e : ecs [x] = [.string x.m.k, .int .u64 (x.m.s : Int), .bool x.m.g, .string x.x] := by simp [ecs, En.cs]
  rw [e]
  refine ⟨rfl, fun j hj => ?_⟩
  have hj4 : j < 4 := hj
  refine ⟨_, _, rfl, Nat.lt_succ_self _, List.getElem?_eq_getElem hj4, ?_⟩
  rw [add_lit, Nat.zero_add, cell_of_row _ _ j _ _ (0, 0) h]
  rw [List.getElem?_toArray]
  exact List.getElem?_eq_getElem hj4
end Go.Proofs.YtbbimfbkllellaaGreatDoor

namespace Go.Proofs.YtbbimfbkllellaaGreatDoor
open Go.RowKit
set_option linter.unusedVariables false

def esum (l : List En) : Nat := (l.map fun x => x.m.k.size + x.x.size).sum
theorem esum_take (l : List En) (k : Nat) (x : En) (h : l[k]? = some x) : esum (l.take (k + 1)) = esum (l.take k) + (x.m.k.size + x.x.size) := by
  unfold esum
  rw [List.take_add_one, h]; simp
theorem esum_mem (l : List En) (x : En) (h : x ∈ l) : x.m.k.size + x.x.size ≤ esum l := by
  induction l with
  | nil => cases h
  | cons a l ih =>
    have e : esum (a :: l) = a.m.k.size + a.x.size + esum l := by unfold esum; simp
    rcases List.mem_cons.1 h with rfl | h
    · omega
    · have := ih h; omega
theorem esum_take_le (l : List En) (k : Nat) : esum (l.take k) ≤ esum l := by
  have e : esum l = esum (l.take k) + esum (l.drop k) := by
    unfold esum
    rw [← List.sum_append, ← List.map_append, List.take_append_drop]
  omega
theorem esum_drop_le (l : List En) (k : Nat) : esum (l.drop k) ≤ esum l := by
  have e : esum l = esum (l.take k) + esum (l.drop k) := by
    unfold esum
    rw [← List.sum_append, ← List.map_append, List.take_append_drop]
  omega
end Go.Proofs.YtbbimfbkllellaaGreatDoor

