/-
  SameEntries, where both lists hold the same entries.
-/
import Derived.Test.YtbbimfbkllellaaGreatDoorMarks
import Derived.Test.YtbbimfbkllellaaGreatDoorMemM
import Derived.LoopTactic
import Derived.Deep.QuietTactic
import Derived.BigQuiet
namespace Go.Proofs.YtbbimfbkllellaaGreatDoor
open Go.RowKit
set_option linter.unusedVariables false
set_option maxRecDepth 100000

set_option maxHeartbeats 1000000 in
theorem sameE_yes {w : World} {A A2 : Option Addr} {n c c2 : Nat} {l : List En} (h1 : Lies w w.heap.size 4 A n (ecs l)) (h2 : Lies w w.heap.size 4 A2 n (ecs l)) (hn : n ≤ 4611686018427387904) :
    Calls Tryz.prog 9 #[.slice A n c, .slice A2 n c2] w fun e w' => e = .returned (.bool true) ∧ Below w.heap.size w w' := by
  have H1 := Lib.hid h1; have H2 := Lib.hid h2
  clear h1 h2
  go_enter Tryz.func9, Tryz.ntmps9
  go_wp2
  go_loopw [5] (fun i wr => ∃ k q : Nat, k ≤ n ∧ i = .int .i64 (k : Int) ∧ wr = w.drewN q) (fun i _ => n - (intOf i).toNat)
  case atStart => exact ⟨0, 0, Nat.zero_le _, rfl, rfl⟩
  case round =>
    obtain ⟨k, q, hk, rfl, rfl⟩ := hrel
    by_cases hlt : k < n
    · obtain ⟨b, o, x, rfl, hbB, hu, c0, c1, c2', c3⟩ := H1.out.entry hlt
      obtain ⟨b2, o2, x2, rfl, hbB2, hu2, d0, d1, d2, d3⟩ := H2.out.entry hlt
      rw [hu] at hu2
      injection hu2 with hu2
      subst hu2
      have hi0 : (0 : Int) ≤ (k : Int) := by omega
      have hi1 : (k : Int) < (n : Int) := by omega
      clear hu
      go_wp2
      go_quiet (fail)
      go_wp2
      go_roundw
      case rel => exact ⟨k + 1, _, hlt, by go_num, by first | rfl | (rw [World.drewN_drewN])⟩
      case measure => simp [intOf]; omega
    · obtain rfl : k = n := by omega
      go_wp2
      go_ret
      exact ⟨rfl, below_drewN (Below.refl _ _) _⟩
end Go.Proofs.YtbbimfbkllellaaGreatDoor
