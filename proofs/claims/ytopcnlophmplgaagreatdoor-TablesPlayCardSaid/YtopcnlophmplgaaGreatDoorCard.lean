/-
  What the cards of a seat share: a world for the witness, in which the three library tables hold what their initialisers lay.
-/
import Derived.Test.YtopcnlophmplgaaGreatDoorBase
import Derived.Test.YtopcnlophmplgaaGreatDoorRows
import Derived.Test.YtopcnlophmplgaaGreatDoorCards
import Derived.Test.YtopcnlophmplgaaGreatDoorTie
import Derived.WalkKit
import Derived.ProofKit
import Derived.OpenShut
import Derived.Deep.DeepHandedRow
import Derived.Lib.LaidTab
namespace Go.Proofs.YtopcnlophmplgaaGreatDoor
open Go.ChangeShapes Go.WideShapes Go.ChangeAt Go.RowKit
set_option linter.unusedVariables false

/-- the cells of a table that the row lists -/
def tabVals (d : DataW Unit) : Array Value := match d with
  | .agg xs => (xs.filterMap fun | .lit (.int k n) => some (Value.int k n) | _ => none).toArray
  | _ => #[]
def putTab (d : DataW Unit) : Obj → Obj
  | .cells _ t frozen => .cells (tabVals d) t frozen
  | o => o
/-- the settled world, the three tables holding what their initialisers lay -/
noncomputable def cardWorld (os : Os) : World :=
  { World.holding Tryz.prog os ⟨#[], #[], []⟩ with heap := (((World.holding Tryz.prog os ⟨#[], #[], []⟩).heap.modify 0 (putTab Rows.laid_internal_strconv_uint64pow10)).modify 1 (putTab Rows.laid_math_bits_deBruijn32tab)).modify 2 (putTab Rows.laid_math_bits_deBruijn64tab) }
theorem g_p10 : Tryz.prog.globalNamed "internal/strconv.uint64pow10" = some 0 := by kernel_rfl
theorem g_b32 : Tryz.prog.globalNamed "math/bits.deBruijn32tab" = some 1 := by kernel_rfl
theorem g_b64 : Tryz.prog.globalNamed "math/bits.deBruijn64tab" = some 2 := by kernel_rfl
end Go.Proofs.YtopcnlophmplgaaGreatDoor
