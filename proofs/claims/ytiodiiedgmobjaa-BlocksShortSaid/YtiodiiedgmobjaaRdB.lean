/-
  Contracts of package order: the reader's key, value, gone.
-/
import Derived.Test.YtiodiiedgmobjaaRdA
namespace Go.Proofs.Ytiodiiedgmobjaa
open Go.RowKit
set_option linter.unusedVariables false
set_option maxRecDepth 100000

/-- the key that bytes begin with, and the error -/
def keyT (l : List UInt8) : List UInt8 × Nat := if (getText l).2.2 = 0 ∧ chk ⟨(getText l).1.toArray⟩ = false then ([], 4) else ((getText l).1, (getText l).2.2)
/-- the value -/
def valT (l : List UInt8) : List UInt8 × Nat := if (getText l).2.2 = 0 ∧ 256 < (getText l).1.length then ([], 4) else ((getText l).1, (getText l).2.2)

end Go.Proofs.Ytiodiiedgmobjaa
