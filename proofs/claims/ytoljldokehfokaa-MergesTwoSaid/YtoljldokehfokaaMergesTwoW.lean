/-
  The walk of MergesTwo, with alive.
-/
import Derived.Test.YtoljldokehfokaaMergesTwoV
import Derived.Test.YtoljldokehfokaaAlive12
namespace Go.Proofs.Ytoljldokehfokaa
open Go.RowKit

theorem mergesTwo_walk (A : Option Addr) (n c : Nat) (l : List En) (A1 : Option Addr) (n1 c1 : Nat) (l1 : List UInt8) (W : World) (hl : Lies W W.heap.size 4 A n (ecs l)) (hu : Fits l) (hn : l.length = n) (hnc : n ≤ c) (hc : c ≤ 140737488351232)
    (h1 : Lies W W.heap.size 1 A1 n1 (l1.map bv)) (hnc1 : n1 ≤ c1) (hc1 : c1 ≤ 140737488351232) :
    Calls Try.prog 5 #[.slice A n c, .slice A1 n1 c1] W fun e W' => e = .returned (.bool true) ∧ Below W.heap.size W W' :=
  mergesTwo_walk0 alive12_any A n c l A1 n1 c1 l1 W hl hu hn hnc hc h1 hnc1 hc1
end Go.Proofs.Ytoljldokehfokaa
