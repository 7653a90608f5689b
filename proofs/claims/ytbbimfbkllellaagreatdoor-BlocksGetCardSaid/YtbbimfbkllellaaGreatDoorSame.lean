/-
  Contracts of the laws' helpers: SameBytes.
-/
import Derived.Test.YtbbimfbkllellaaGreatDoorMemM
namespace Go.Proofs.YtbbimfbkllellaaGreatDoor
open Go.RowKit
set_option linter.unusedVariables false

/-- are two lists of bytes the same? -/
def sameB (a b : List UInt8) : Bool := decide (a = b)
theorem sameB_self (a : List UInt8) : sameB a a = true := by simp [sameB]

end Go.Proofs.YtbbimfbkllellaaGreatDoor
