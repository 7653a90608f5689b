/-
  Contracts of package order: the reader's entry, behind its key.
-/
import Derived.Test.YtiodiiedgmobjaaRdC
namespace Go.Proofs.Ytiodiiedgmobjaa
open Go.RowKit
set_option linter.unusedVariables false
set_option maxRecDepth 100000

end Go.Proofs.Ytiodiiedgmobjaa
