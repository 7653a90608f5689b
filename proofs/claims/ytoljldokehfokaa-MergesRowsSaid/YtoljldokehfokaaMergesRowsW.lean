/-
  The walk of MergesRows, with alive.
-/
import Derived.Test.YtoljldokehfokaaMergesRowsV
import Derived.Test.YtoljldokehfokaaAlive12
namespace Go.Proofs.Ytoljldokehfokaa
open Go.RowKit

theorem mergesRows_walk (A : Option Addr) (n c : Nat) (l : List En) (s : Nat) (W : World) (hl : Lies W W.heap.size 4 A n (ecs l)) (hu : Fits l) (hn : l.length = n) (hnc : n ≤ c) (hc : c ≤ 140737488351232) (hs : s < 18446744073709551616) :
    Calls Try.prog 4 #[.slice A n c, .int .u64 (s : Int)] W fun e W' => e = .returned (.bool true) ∧ Below W.heap.size W W' :=
  mergesRows_walk0 alive12_any A n c l s W hl hu hn hnc hc hs
end Go.Proofs.Ytoljldokehfokaa
