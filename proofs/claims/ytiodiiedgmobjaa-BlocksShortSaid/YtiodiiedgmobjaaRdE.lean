/-
  Contracts of package order: Get.
-/
import Derived.Test.YtiodiiedgmobjaaRdD
import Derived.Deep.RegionWith
import Derived.Deep.RegionHeld3
namespace Go.Proofs.Ytiodiiedgmobjaa
open Go.RowKit
set_option linter.unusedVariables false
set_option maxRecDepth 100000

theorem below_put4 {B : Nat} {w w1 : World} (h : Below B w w1) {r : Nat} (hr : B ≤ r) (y : En) : Below B w (stE w1 r y) :=
  (((h.setCell (p := ⟨r, 0, none⟩) hr _).setCell (p := ⟨r, 1, none⟩) hr _).setCell (p := ⟨r, 2, none⟩) hr _).setCell (p := ⟨r, 3, none⟩) hr _
/-- no entry -/
def En.zero : En := ⟨⟨ByteArray.empty, 0, false⟩, ByteArray.empty⟩
/-- what Get answers: the entry, how many bytes it took, the error -/
def gotE (l : List UInt8) : En × Nat × Nat :=
  if (keyT l).2 ≠ 0 then (En.zero, 0, (keyT l).2)
  else if (Vi.get (l.drop (getText l).2.1)).2.2 ≠ 0 then (En.zero, 0, (Vi.get (l.drop (getText l).2.1)).2.2)
  else match (l.drop (getText l).2.1).drop (Vi.get (l.drop (getText l).2.1)).2.1 with
    | [] => (En.zero, 0, 5)
    | x :: l3 =>
      if 1 < x.toNat then (En.zero, 0, 4)
      else if x.toNat = 1 then (⟨⟨⟨(keyT l).1.toArray⟩, (Vi.get (l.drop (getText l).2.1)).1, true⟩, ByteArray.empty⟩, (getText l).2.1 + (Vi.get (l.drop (getText l).2.1)).2.1 + 1, 0)
      else if (valT l3).2 ≠ 0 then (En.zero, 0, (valT l3).2)
      else (⟨⟨⟨(keyT l).1.toArray⟩, (Vi.get (l.drop (getText l).2.1)).1, false⟩, ⟨(valT l3).1.toArray⟩⟩, (getText l).2.1 + (Vi.get (l.drop (getText l).2.1)).2.1 + 1 + (getText l3).2.1, 0)

/-- what was answered of bytes -/
def GotE (w : World) (r : En × Nat × Nat) (e : Ending) (w' : World) : Prop := e = .returned (.tuple #[r.1.v, .int .i64 (r.2.1 : Int), .int .i64 (r.2.2 : Int)]) ∧ Below w.heap.size w w'

end Go.Proofs.Ytiodiiedgmobjaa
