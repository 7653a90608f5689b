/-
  What the cards of a seat share: a world for the witness, in which the three library tables hold what their initialisers lay.
  What a card's condition says of the library's table of powers of ten.
-/
import Derived.Test.YtbbimfbkllellaaGreatDoorBase
import Derived.Test.YtbbimfbkllellaaGreatDoorRows
import Derived.Test.YtbbimfbkllellaaGreatDoorCards
import Derived.Test.YtbbimfbkllellaaGreatDoorTie
import Derived.WalkKit
import Derived.ProofKit
import Derived.OpenShut
import Derived.Deep.DeepHandedRow
import Derived.Lib.LaidTab
import Derived.Lib.AppendIntMem
namespace Go.Proofs.YtbbimfbkllellaaGreatDoor
open Go.ChangeShapes Go.WideShapes Go.ChangeAt Go.RowKit
set_option linter.unusedVariables false

/-- the cells of a table that the row lists -/
def tabVals (d : DataW Unit) : Array Value := match d with
  | .agg xs => (xs.filterMap fun | .lit (.int k n) => some (Value.int k n) | _ => none).toArray
  | _ => #[]
def putTab (d : DataW Unit) : Obj → Obj
  | .cells _ t frozen => .cells (tabVals d) t frozen
  | o => o
/-- the settled world, the three tables holding what their initialisers lay -/
noncomputable def cardWorld (os : Os) : World :=
  { World.holding Tryz.prog os ⟨#[], #[], []⟩ with heap := (((World.holding Tryz.prog os ⟨#[], #[], []⟩).heap.modify 0 (putTab Rows.laid_internal_strconv_uint64pow10)).modify 1 (putTab Rows.laid_math_bits_deBruijn32tab)).modify 2 (putTab Rows.laid_math_bits_deBruijn64tab) }
theorem g_p10 : Tryz.prog.globalNamed "internal/strconv.uint64pow10" = some 0 := by kernel_rfl
theorem g_b32 : Tryz.prog.globalNamed "math/bits.deBruijn32tab" = some 1 := by kernel_rfl
theorem g_b64 : Tryz.prog.globalNamed "math/bits.deBruijn64tab" = some 2 := by kernel_rfl
end Go.Proofs.YtbbimfbkllellaaGreatDoor

namespace Go.Proofs.YtbbimfbkllellaaGreatDoor
open Go.ChangeShapes Go.WideShapes Go.ChangeAt Go.RowKit
set_option linter.unusedVariables false

theorem laid_tail {P : Program} {a : String × DataW Unit} {r : List (String × DataW Unit)} {W : World} (h : laidMet P (a :: r) W) : laidMet P r W := by
  obtain ⟨ps, ⟨g, t, cs, fuel, p, q, _, _, _, _, hq, rfl⟩, hn, hc⟩ := h
  exact ⟨q, hq, (List.nodup_append.1 hn).2.1, fun b off hm => hc b off (List.mem_append_right _ hm)⟩
theorem tab_is : (Rows.laid_internal_strconv_uint64pow10 : DataW Unit) = Lib.tabData .u64 Lib.pow10Tab := by kernel_rfl
theorem card_tab {W : World} (h : laidMet Tryz.prog [("math/bits.deBruijn32tab", Rows.laid_math_bits_deBruijn32tab), ("math/bits.deBruijn64tab", Rows.laid_math_bits_deBruijn64tab), ("internal/strconv.uint64pow10", Rows.laid_internal_strconv_uint64pow10)] W) : Lib.TabIs Tryz.prog W "internal/strconv.uint64pow10" .u64 Lib.pow10Tab := by
  have h2 := laid_tail (laid_tail h)
  rw [tab_is] at h2
  exact Lib.tabIs_of_head g_p10 (t := 201) (e := 23) (n := 20) (by kernel_rfl) Tryz.underlying201 Tryz.underlying23 (by kernel_rfl) (by kernel_rfl) h2
end Go.Proofs.YtbbimfbkllellaaGreatDoor

