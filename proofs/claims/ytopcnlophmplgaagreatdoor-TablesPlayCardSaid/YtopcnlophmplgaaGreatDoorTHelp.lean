/-
  Contracts of layer 7's helpers: entry, many, fine.
-/
import Derived.Test.YtopcnlophmplgaaGreatDoorTabG
import Derived.Test.YtopcnlophmplgaaGreatDoorSameE
namespace Go.Proofs.YtopcnlophmplgaaGreatDoor
open Go.RowKit
set_option linter.unusedVariables false
set_option maxRecDepth 100000

/-- an entry with a value; gone, if it has none -/
def mkE (k : ByteArray) (s : Nat) (v : ByteArray) : En := ⟨⟨k, s, v.toList.isEmpty⟩, v⟩
end Go.Proofs.YtopcnlophmplgaaGreatDoor
