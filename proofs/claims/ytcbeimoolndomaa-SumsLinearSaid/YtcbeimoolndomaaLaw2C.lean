/-
  What laws of layer 2 share: whole tables compared; a table read in a region that draws its order.
-/
import Derived.Test.YtcbeimoolndomaaLaw2B
import Derived.ChangeKeysEq
import Derived.Laws.StructEq
import Derived.Deep.MidRow
import Derived.Deep.RegionHeld3
namespace Go.Proofs.Ytcbeimoolndomaa
open Go.RowKit
set_option linter.unusedVariables false

theorem eqItems_arr (T : List Nat) (w : World) (d : Nat) : ∀ is : List Nat, (∀ i ∈ is, i < T.length) → (Op.eqItems (d + 1) 22 1 (arr T) (arr T) is).run Try.prog w = .ok true w
  | [], _ => by simp [Op.eqItems]
  | i :: is, h => by
    have hi : (arr T)[i]? = some (nv (T.getD i 0)) := by
      have hl := h i (by simp)
      rw [arr_at, List.getElem?_eq_getElem hl, List.getD_eq_getElem?_getD, List.getElem?_eq_getElem hl]; rfl
    have hp := run_part_plain (P := Try.prog) w (e := 22) (by kernel_rfl) (xs := arr T) (off := i * 1) (v := nv (T.getD i 0)) (by rw [Nat.mul_one]; exact hi)
    have he := run_equalIn_int (P := Try.prog) w d 22 .u32 _ ((T.getD i 0 : Nat) : Int) ((T.getD i 0 : Nat) : Int) Try.underlying22
    simp only [Op.eqItems, Sem.run_bind, hp, Result.andThen_ok, he]
    simp only [beq_self_eq_true, Bool.not_true, Bool.false_eq_true, if_false]
    exact eqItems_arr T w d is (fun j hj => h j (by simp [hj]))
/-- a table is itself -/
theorem eq_tab (T : List Nat) (w : World) (h : T.length = 256) : (binOp .eql 23 (.agg (arr T)) (.agg (arr T))).run Try.prog w = .ok (.bool true) w := by
  obtain ⟨i, hi⟩ : ∃ i, Try.prog.info? 22 = some i := by
    cases hq : Try.prog.info? 22 with
    | none => exact absurd (show (Try.prog.info? 22).isSome = true by kernel_rfl) (by rw [hq]; simp)
    | some i => exact ⟨i, rfl⟩
  have hc : Try.prog.cellsOf 22 = 1 := by kernel_rfl
  rw [run_eql_struct, show (10000 : Nat) = 9999 + 1 from rfl, run_equalIn_array w 9999 _ _ Try.underlying23 hi, hc, show (9999 : Nat) = 9998 + 1 from rfl,
    eqItems_arr T w 9998 (List.range 256) (fun i hi => by rw [h]; exact List.mem_range.1 hi)]
  rfl
theorem Tab.range {w : World} {g : Nat} {t : TypeId} {T : List Nat} (h : Tab w g t T) : w.rangeAt g 0 (T.map nv) := by
  intro j v hv
  rw [Nat.zero_add, cell_of_row w g j _ t (0, 0) h]
  simpa [arr] using hv
end Go.Proofs.Ytcbeimoolndomaa
