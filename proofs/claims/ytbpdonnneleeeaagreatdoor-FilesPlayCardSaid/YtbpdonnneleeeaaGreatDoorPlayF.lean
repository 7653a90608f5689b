/-
  What becomes of the document's own Fail, for either directory.
-/
import Derived.Test.YtbpdonnneleeeaaGreatDoorPlayZ
import Derived.Test.YtbpdonnneleeeaaGreatDoorRefFD
import Derived.Test.YtbpdonnneleeeaaGreatDoorRefFP
namespace Go.Proofs.YtbpdonnneleeeaaGreatDoor
open Go.RowKit Go.Maps Go.Sort
set_option linter.unusedVariables false
set_option linter.unusedSectionVars false
set_option maxRecDepth 100000

section
variable {w : World} {G : Nat → Prop} {m : Nat} {S S' : St}
theorem rfail (h : Rf w G m S) (keep : Nat) (hk : keep ≤ 9223372036854775807) (nm : Bool) (hs : Leaves S keep nm S') :
    Calls Tryz.prog 26 #[dp m, .int .i64 (keep : Int), .bool nm] w fun x w' => ∃ mo, x = .returned (.tuple #[dp mo, er 0]) ∧ Below w.heap.size w w' ∧ Rf w' (fun i => w.heap.size ≤ i ∧ i < w'.heap.size) mo S' := by
  cases nm
  · exact rfail_false h keep hk hs.1 hs.2.1
  · exact rfail_true h keep hk hs.1 hs.2.1
theorem rfail_no (k : Int) (nm : Bool) (hk : k < 0) :
    Calls Tryz.prog 26 #[dp m, .int .i64 k, .bool nm] w fun x w' => x = .returned (.tuple #[.pointer none, er 1]) ∧ w' = w := rfail_bad k nm hk
end
end Go.Proofs.YtbpdonnneleeeaaGreatDoor
