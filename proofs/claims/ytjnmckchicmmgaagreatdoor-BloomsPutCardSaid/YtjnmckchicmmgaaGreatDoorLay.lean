/-
  A table in a variable of its own.
-/
import Derived.Test.YtjnmckchicmmgaaGreatDoorSumsB
namespace Go.Proofs.YtjnmckchicmmgaaGreatDoor
open Go.RowKit
set_option linter.unusedVariables false

/-- a table, laid into new memory -/
def lay (w : World) (T : List Nat) : World := w.alloc (.cells (arr T) 51)
theorem lay_tab (w : World) (T : List Nat) : Tab (lay w T) w.heap.size 51 T := Tab.new w _ T
theorem lay_size (w : World) (T : List Nat) : (lay w T).heap.size = w.heap.size + 1 := by simp [lay]
theorem lay_below {B : Nat} {a w : World} (h : Below B a w) (hB : B ≤ w.heap.size) (T : List Nat) : Below B a (lay w T) := h.alloc hB _
theorem Tab.lay {w : World} {g : Nat} {t : TypeId} {T : List Nat} (h : Tab w g t T) (T' : List Nat) : Tab (lay w T') g t T := h.alloc _
theorem Lies.lay {w : World} {B k n : Nat} {A : Option Addr} {xs : List Value} (h : Lies w B k A n xs) (hB : B ≤ w.heap.size) (T : List Nat) : Lies (Go.Proofs.YtjnmckchicmmgaaGreatDoor.lay w T) B k A n xs := h.alloc hB _
theorem wpList_lay {ops : Array Oper} {rest : List Oper} {o : Oper} {a : Act} {w : World} {Q : Exit → Act → World → Prop} (hg : o.guard = none) (ho : o.op = .alloc 51)
    (h : wpList Tryz.prog ops Q rest (a.put o.dst (.pointer (some ⟨w.heap.size, 0, none⟩))) (lay w noughts)) : wpList Tryz.prog ops Q (o :: rest) a w := wpList_newTab hg ho h
theorem wpList_laid {ops : Array Oper} {rest : List Oper} {o : Oper} {a : Act} {w : World} {Q : Exit → Act → World → Prop} (hgd : o.guard = none) (x y : Operand) (ho : o.op = .store 51 x y) (T T' : List Nat)
    (hx : a.eval x = .pointer (some ⟨w.heap.size, 0, none⟩)) (hy : a.eval y = .agg (arr T')) (hl : T.length = 256) (hl' : T'.length = 256)
    (h : wpList Tryz.prog ops Q rest (a.put o.dst undef) (lay w T')) : wpList Tryz.prog ops Q (o :: rest) a (lay w T) := by
  refine wpList_storeTab hgd x y ho w.heap.size hx T' hy T (lay_tab w T) hl hl' ?_
  have e : (lay w T).setRow w.heap.size (arr T') = lay w T' := World.setRow_alloc_new w _ _ _
  rw [e]; exact h
end Go.Proofs.YtjnmckchicmmgaaGreatDoor
