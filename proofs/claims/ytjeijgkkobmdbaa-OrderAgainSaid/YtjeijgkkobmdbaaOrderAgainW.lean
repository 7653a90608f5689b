/-
  The walk of OrderAgain.
-/
import Derived.Test.YtjeijgkkobmdbaaOrderAgainG
import Derived.Test.YtjeijgkkobmdbaaOrderAgainV
namespace Go.Proofs.Ytjeijgkkobmdbaa
open Go.RowKit
set_option linter.unusedVariables false
set_option maxRecDepth 100000


theorem orderAgain_walk (A : Option Addr) (n c : Nat) (l : List UInt8) (cut : Nat) (w : World) (y : Lies w w.heap.size 1 A n (l.map bv)) (hnc : n ≤ c) (hc : c ≤ 140737488351232) (hcut : cut < 65536) :
    Calls Try.prog 7 #[.slice A n c, .int .u16 (cut : Int)] w fun e w' => e = .returned (.bool true) ∧ Below w.heap.size w w' := by
  by_cases h : 1048576 < n
  · exact orderAgain_big A n c cut w hc hnc h
  · rcases hg : gotE l with ⟨⟨⟨k, s, g⟩, x⟩, t, er⟩
    by_cases he : er = 0
    · subst he
      cases g
      · exact orderAgain_val A n c cut t s k x l w y hnc hc hcut h hg
      · have hx : x = ByteArray.empty := (got_back l _ t hg).2.2.2.2.1 rfl
        subst hx
        exact orderAgain_gone A n c cut t s k l w y hnc hc hcut h hg
    · obtain ⟨h1, h2, h3⟩ := got_bad l _ t er hg he
      rw [h1, h2] at hg
      exact orderAgain_bad A n c cut er l w y hnc hc h hg h3
end Go.Proofs.Ytjeijgkkobmdbaa
