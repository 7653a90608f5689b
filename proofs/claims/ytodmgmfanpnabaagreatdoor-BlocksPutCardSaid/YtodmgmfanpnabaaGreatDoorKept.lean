/-
  Two worlds' worth of facts in one word.
-/
import Derived.Test.YtodmgmfanpnabaaGreatDoorMem
namespace Go.Proofs.YtodmgmfanpnabaaGreatDoor
open Go.RowKit
set_option linter.unusedVariables false
set_option maxRecDepth 100000

/-- what lay there lies there still -/
def Kept (w W : World) : Prop := Below w.heap.size w W
theorem Kept.self (w : World) : Kept w w := Below.refl _ _
theorem Kept.drew {w W : World} (h : Kept w W) : Kept w W.drew := Below.drew h
theorem Kept.on {w W W' : World} (h : Kept w W) (h' : Below W.heap.size W W') : Kept w W' := Below.trans h (h'.mono h.size)
theorem Kept.lies {w W : World} (h : Kept w W) {A : Option Addr} {n : Nat} {l : List UInt8} (L : Lies w w.heap.size 1 A n (l.map bv)) : Lies W W.heap.size 1 A n (l.map bv) := (L.below h).more h.size
theorem Kept.new {w W : World} (h : Kept w W) (o : Obj) : Kept w (W.alloc o) := Below.alloc h h.size o
end Go.Proofs.YtodmgmfanpnabaaGreatDoor
