/-
  Contracts of package ints: collect.
-/
import Derived.Test.YtodmgmfanpnabaaGreatDoorMem
namespace Go.Proofs.YtodmgmfanpnabaaGreatDoor
open Go.RowKit
set_option linter.unusedVariables false
set_option maxRecDepth 100000

set_option maxHeartbeats 1000000 in
theorem collect_any (A A2 : Option Addr) (n m c c2 : Nat) (l l2 : List UInt8) (w : World) (h1 : Lies w w.heap.size 1 A n (l.map bv)) (h2 : Lies w w.heap.size 1 A2 m (l2.map bv)) (hs : n + m ≤ 1099511627776) :
    Calls Tryz.prog 224 #[.slice A n c, .slice A2 m c2] w fun e w' => ∃ v, e = .returned v ∧ w'.ownsRow w.heap.size 5 1 v (n + m) ((l ++ l2).map bv) ∧ Below w.heap.size w w' := by
  obtain ⟨i0, hi, hz0, hz1, hz2⟩ := info_parts byte_info
  go_enter Tryz.func224, Tryz.ntmps224
  go_wp2_with (first
    | (at_make; refine wpList_make_own _ rfl _ _ 54 rfl w.heap.size 5 i0 _ 1 Tryz.underlying54 hi hz0 hz1 _ _ _ (n + m) rfl rfl (by omega) (by rw [hz2]; omega) (by unfold maxLen; omega) (Nat.le_refl _) ?_; intro w1 hown1 hgrow1; have hb1 : Below w.heap.size w w1 := (Below.refl _ _).grown hgrow1 (Nat.le_refl _) (by simp))
    | (at_builtin; refine wpList_app _ rfl (.tmp 12) (.tmp 13) 54 rfl w.heap.size 5 i0 _ 1 1 Tryz.underlying54 hi hz0 hz1 hz2 rfl (by decide) _ 0 [] rfl hown1 w.heap.size A n c (l.map bv) rfl (h1.below hb1) (bv_one l) (by unfold maxLen; omega) (by omega) hb1.size ?_; intro v2 w2 hown2 hg2 _; have hb2 : Below w.heap.size w w2 := hb1.grown hg2 hb1.size (fun k hk => (hown1.lt k hk).1))
    | (at_builtin; refine wpList_app _ rfl (.tmp 15) (.tmp 16) 54 rfl w.heap.size 5 i0 _ 1 1 Tryz.underlying54 hi hz0 hz1 hz2 rfl (by decide) v2 (0 + n) ([] ++ l.map bv) rfl hown2 w.heap.size A2 m c2 (l2.map bv) rfl (h2.below hb2) (bv_one l2) (by unfold maxLen; omega) (by omega) hb2.size ?_; intro v3 w3 hown3 hg3 _; have hb3 : Below w.heap.size w w3 := hb2.grown hg3 hb2.size (fun k hk => (hown2.lt k hk).1)))
  go_ret
  exact ⟨_, rfl, by simpa using hown3, hb3⟩

end Go.Proofs.YtodmgmfanpnabaaGreatDoor
