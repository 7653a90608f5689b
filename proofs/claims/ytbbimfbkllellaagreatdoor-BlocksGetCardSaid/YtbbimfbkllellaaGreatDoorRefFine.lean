/-
  The document's own Fine (bucketlineref04).
-/
import Derived.Test.YtbbimfbkllellaaGreatDoorRef4
import Derived.Test.YtbbimfbkllellaaGreatDoorEnES
import Derived.Test.YtbbimfbkllellaaGreatDoorTabM
namespace Go.Proofs.YtbbimfbkllellaaGreatDoor
open Go.RowKit
set_option linter.unusedVariables false
set_option maxRecDepth 100000

theorem rfine_any (x : En) (w : World) (hk : x.m.k.size ≤ 140737488351232) (hx : x.x.size ≤ 140737488351232) :
    Calls Tryz.prog 122 #[x.v] w fun e w' => e = .returned (.bool (fineE x)) ∧ Below w.heap.size w w' := by
  unfold fineE En.v
  obtain ⟨b0, b1, b2, b3, hB, _⟩ := enW_facts w x
  have HB := Lib.hid hB
  have HC : Hid (∀ W, Calls Tryz.prog 137 #[.string x.m.k] W fun e w' => e = .returned (.bool (chk x.m.k)) ∧ W = w') := fun W => rchk_any x.m.k W (by omega)
  clear hB b0 b1 b2 b3
  obtain ⟨c, hc⟩ : ∃ c, chk x.m.k = c := ⟨_, rfl⟩
  rw [hc] at HC ⊢
  clear hc
  cases c
  · go_enter Tryz.func122, Tryz.ntmps122
    go_wp2_with (go_at_call 137; refine (HC.out _).mono ?_; rintro e w' ⟨rfl, rfl⟩)
    go_ret
    exact ⟨rfl, HB.out⟩
  · by_cases h2 : x.x.size ≤ 256
    · have i2 : (x.x.size : Int) ≤ 256 := by omega
      have d2 : decide (x.x.size ≤ 256) = true := decide_eq_true h2
      rw [d2]
      cases h3 : x.x.toList.isEmpty <;> cases h4 : x.m.g <;>
      · go_enter Tryz.func122, Tryz.ntmps122
        go_wp2_with (go_at_call 137; refine (HC.out _).mono ?_; rintro e w' ⟨rfl, rfl⟩)
        go_ret
        exact ⟨rfl, by rw [← h4]; exact HB.out⟩
    · have i2 : ¬ (x.x.size : Int) ≤ 256 := by omega
      have d2 : decide (x.x.size ≤ 256) = false := decide_eq_false h2
      rw [d2]
      go_enter Tryz.func122, Tryz.ntmps122
      go_wp2_with (go_at_call 137; refine (HC.out _).mono ?_; rintro e w' ⟨rfl, rfl⟩)
      go_ret
      exact ⟨rfl, HB.out⟩
end Go.Proofs.YtbbimfbkllellaaGreatDoor
