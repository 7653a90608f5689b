/-
  The walk of SortedAgain.
-/
import Derived.Test.YtjikkdfiainjjaaAl10
namespace Go.Proofs.Ytjikkdfiainjjaa
open Go.RowKit
set_option linter.unusedVariables false
set_option maxRecDepth 100000

set_option maxHeartbeats 8000000 in
theorem sortedAgain_walk (A : Option Addr) (n c : Nat) (l : List UInt8) (W : World) (hl : Lies W W.heap.size 1 A n (l.map bv)) (hnc : n ≤ c) (hc : c ≤ 140737488351232) :
    Calls Try.prog 4 #[.slice A n c] W fun e W' => e = .returned (.bool true) ∧ Below W.heap.size W W' := by
  have HL := Lib.hid hl
  clear hl
  obtain ⟨o, ho⟩ := isF_ex l
  have HO := Lib.hid ho
  clear ho
  go_enter Try.func4, Try.ntmps4
  go_wp2_with fail
  with_reducible refine Calls.mono (alive10_any W) ?_
  rintro e w1 ⟨rfl, hb1⟩
  have H1 := Lib.hid hb1
  clear hb1
  by_cases hg : 20000 < n
  · have hgi : ((n : Int) > 20000) := by omega
    go_wp2_with fail
    with_reducible refine Calls.mono (alive10_any w1) ?_
    rintro e w3 ⟨rfl, hb3⟩
    have HF := Lib.hid (H1.out.trans (hb3.mono H1.out.size))
    clear hb3
    go_wp2
    go_ret
    exact ⟨rfl, HF.out⟩
  · have hgi : ¬ ((n : Int) > 20000) := by omega
    have HA := Lib.hid (sall_any A n c l o w1 HO.out ((HL.out.below H1.out).more H1.out.size) hnc (by omega) (by omega))
    go_wp2_with fail
    with_reducible refine Calls.mono HA.out ?_
    rintro e w2 ⟨hb2, h1, h0⟩
    have H2 := Lib.hid (H1.out.trans (hb2.mono H1.out.size))
    cases o with
    | none =>
      obtain rfl := h0 rfl
      have HFr := Lib.hid (sfrom_any A n c l none ⟨⟨#[]⟩, 0, false⟩ 10 (by decide) w2 HO.out ((HL.out.below H2.out).more H2.out.size) hnc (by omega) (by omega))
      unfold Mk.v at HFr
      clear hb2 h1 h0 HA
      go_wp2_with fail
      with_reducible refine Calls.mono HFr.out ?_
      rintro e w3 ⟨hb3, _, q0⟩
      obtain rfl := q0 rfl
      have HF := Lib.hid (H2.out.trans (hb3.mono H2.out.size))
      clear hb3 q0 HFr
      go_wp2
      go_ret
      exact ⟨rfl, HF.out⟩
    | some S =>
      obtain ⟨A2, c2, rfl, ho2, hs2⟩ := h1 S rfl
      obtain ⟨_, _, hv, hn2, hc2, _⟩ := own_shape ho2
      injection hv with e1 e2 e3
      subst e1 e3
      have HP := Lib.hid (sput_any w2.heap.size S.length c2 A2 S w2 ⟨Lies.of_own ho2, Nat.le_refl _, hn2, hc2, fun x hx => by have := hs2 x hx; unfold szE at this; exact ⟨by omega, by omega⟩⟩ (fun x hx => (hs2 x hx).2.2))
      clear hb2 h1 h0 HA ho2 hs2
      go_wp2_with fail
      with_reducible refine Calls.mono HP.out ?_
      rintro e w3 ⟨hb3, p1, _⟩
      obtain ⟨A3, c3, rfl, ho3⟩ := p1 HO.out.1
      have H3 := Lib.hid (H2.out.trans (hb3.mono H2.out.size))
      have HSb := Lib.hid (same_any A3 A (filB S).length n c3 c w3.heap.size (filB S) l w3 (Lies.of_own ho3) ((HL.out.below H3.out).more H3.out.size) (by have := filB_le HO.out.1; omega))
      rw [show sameB (filB S) l = true from by rw [HO.out.2.2]; exact sameB_self l] at HSb
      clear p1 hb3 ho3 HP
      go_wp2_with fail
      with_reducible refine Calls.mono HSb.out ?_
      rintro e w4 ⟨rfl, q4, rfl⟩
      have HF := Lib.hid (below_drewN H3.out q4)
      clear HSb
      go_wp2
      go_ret
      exact ⟨rfl, HF.out⟩
end Go.Proofs.Ytjikkdfiainjjaa
