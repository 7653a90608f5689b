/-
  The walk of BlocksBack.
-/
import Derived.Test.YtiodiiedgmobjaaAl8
import Derived.Test.YtiodiiedgmobjaaRises8
import Derived.Test.YtiodiiedgmobjaaSameE
import Derived.Test.YtiodiiedgmobjaaSame
import Derived.Test.YtiodiiedgmobjaaESize
namespace Go.Proofs.Ytiodiiedgmobjaa
open Go.RowKit
set_option linter.unusedVariables false
set_option maxRecDepth 100000

set_option maxHeartbeats 8000000 in
theorem blocksBack_walk (A : Option Addr) (n c : Nat) (l : List En) (A2 : Option Addr) (n2 c2 : Nat) (l2 : List UInt8) (W : World) (hl : Lies W W.heap.size 4 A n (ecs l)) (hu : ∀ x ∈ l, x.m.s < 18446744073709551616 ∧ x.m.k.size ≤ 140737488351232 ∧ x.x.size ≤ 140737488351232) (hn : l.length = n) (hnc : n ≤ c) (hc : c ≤ 140737488351232)
    (hl2 : Lies W W.heap.size 1 A2 n2 (l2.map bv)) (hnc2 : n2 ≤ c2) (hc2 : c2 ≤ 140737488351232) :
    Calls Try.prog 3 #[.slice A n c, .slice A2 n2 c2] W fun e W' => e = .returned (.bool true) ∧ Below W.heap.size W W' := by
  have HEL : Hid (EL W W.heap.size A n c l) := ⟨hl, Nat.le_refl _, hnc, by unfold maxLen; omega, fun e he => (hu e he).2⟩
  have HU := Lib.hid hu; have HN := Lib.hid hn
  have HL2 := Lib.hid hl2
  have HUp : Hid (∀ W', Below W.heap.size W W' → EL W' W.heap.size A n c l) := fun W' hb => HEL.out.below hb
  have HSq : Hid (∀ e ∈ l, e.m.s < 18446744073709551616) := fun e he => (hu e he).1
  have hnb : n ≤ 140737488351232 := by omega
  clear hl hu hn hl2
  go_enter Try.func3, Try.ntmps3
  go_wp2_with fail
  refine (alive8_any W).mono ?_
  rintro e w1 ⟨rfl, hb1⟩
  have H1 := Lib.hid hb1
  have HES := Lib.hid (entriesSize_any A n c l w1 ((HUp.out w1 hb1).lies.more hb1.size) HU.out hnb)
  clear hb1
  go_wp2_with fail
  refine HES.out.mono ?_
  rintro e w2 ⟨z, q, rfl, hw2, hz⟩
  have hb2 : Below W.heap.size W w2 := by rw [hw2]; exact below_drewN H1.out q
  have H2 := Lib.hid hb2
  have HZ := Lib.hid hz
  clear hb2 hw2 hz HES
  by_cases hzb : 40000 < z
  · have hzi : (40000 : Int) < (z : Int) := by omega
    go_wp2_with fail
    refine (alive8_any w2).mono ?_
    rintro e w3 ⟨rfl, hb3⟩
    have HF := Lib.hid (H2.out.trans (hb3.mono H2.out.size))
    clear hb3
    go_wp2
    go_ret
    exact ⟨rfl, HF.out⟩
  · have hzi : ¬ (40000 : Int) < (z : Int) := by omega
    have hnz : n + esum l = z := (HZ.out (by omega)).symm
    by_cases hnb2 : 40000 < n2
    · have hni : (40000 : Int) < (n2 : Int) := by omega
      go_wp2_with fail
      refine (alive8_any w2).mono ?_
      rintro e w3 ⟨rfl, hb3⟩
      have HF := Lib.hid (H2.out.trans (hb3.mono H2.out.size))
      clear hb3 hnz
      go_wp2
      go_ret
      exact ⟨rfl, HF.out⟩
    · have hni : ¬ (40000 : Int) < (n2 : Int) := by omega
      have hn4 : n ≤ 40000 := by omega
      have HP := Lib.hid (bput_any l HSq.out A n c W.heap.size w2 (HUp.out w2 H2.out))
      clear hnz
      go_wp2_with fail
      refine HP.out.mono ?_
      rintro e w3 ⟨hb3, h1, h0⟩
      have H3 := Lib.hid (H2.out.trans (hb3.mono H2.out.size))
      clear HP
      obtain ⟨b, hb⟩ : ∃ b, okB l = b := ⟨_, rfl⟩
      have HOk := Lib.hid hb
      rw [hb] at h1 h0
      cases b
      · obtain rfl := h0 rfl
        clear h0 h1 hb3 hb
        by_cases hg1 : n < 1
        · have i1 : ¬ (1 : Int) ≤ (n : Int) := by omega
          have i0 : n = 0 := by omega
          have HGb := Lib.hid (bget_any A2 n2 c2 l2 w3 ((HL2.out.below H3.out).more H3.out.size) hnc2 (by unfold maxLen; omega) (by omega))
          obtain ⟨o, ho⟩ : ∃ o, getB l2 = o := ⟨_, rfl⟩
          have HOo := Lib.hid ho
          rw [ho] at HGb
          clear ho
          go_wp2_with fail
          refine HGb.out.mono ?_
          rintro e w7 ⟨hb7, g1, g0⟩
          have H7 := Lib.hid (H3.out.trans (hb7.mono H3.out.size))
          cases o with
          | none =>
            obtain rfl := g0 rfl
            clear g0 g1 hb7 HGb
            go_wp2
            go_ret
            exact ⟨rfl, H7.out⟩
          | some S1 =>
            obtain ⟨A7, c7, rfl, ho7, hs7⟩ := g1 S1 rfl
            obtain ⟨k1, k2, _⟩ := getB_some HOo.out
            have HK1 := Lib.hid k1; have HK2 := Lib.hid k2
            obtain ⟨_, _, hv, hn7, hc7, _⟩ := own_shape ho7
            injection hv with e1 e2 e3
            subst e1 e3
            have HEL7 : EL w7 w7.heap.size A7 S1.length c7 S1 := ⟨Lies.of_own ho7, Nat.le_refl _, hn7, hc7, fun x hx => by have := hs7 x hx; unfold szE at this; exact ⟨by omega, by omega⟩⟩
            have HP7 := Lib.hid (bput_any S1 (fun x hx => (hs7 x hx).2.2) A7 S1.length c7 _ w7 HEL7)
            clear g0 g1 hb7 HGb k1 k2 ho7 hs7 hn7 hc7 HEL7
            go_wp2_with fail
            refine HP7.out.mono ?_
            rintro e w8 ⟨hb8, p1, _⟩
            obtain ⟨A8, c8, rfl, ho8⟩ := p1 HK1.out
            have H8 := Lib.hid (H7.out.trans (hb8.mono H7.out.size))
            have HSb := Lib.hid (same_any A8 A2 (encB S1).length n2 c8 c2 w8.heap.size (encB S1) l2 w8 (Lies.of_own ho8) ((HL2.out.below H8.out).more H8.out.size) (by have := encB_len S1 HK1.out; omega))
            rw [HK2.out, sameB_self] at HSb
            rw [HK2.out]
            clear p1 hb8 ho8 HP7
            go_wp2_with fail
            refine HSb.out.mono ?_
            rintro e w9 ⟨rfl, q9, rfl⟩
            have HF := Lib.hid (below_drewN H8.out q9)
            clear HSb
            go_wp2
            go_ret
            exact ⟨rfl, HF.out⟩
        · have i1 : (1 : Int) ≤ (n : Int) := by omega
          by_cases hg2 : 64 < n
          · have i2 : ¬ (n : Int) ≤ 64 := by omega
            have HGb := Lib.hid (bget_any A2 n2 c2 l2 w3 ((HL2.out.below H3.out).more H3.out.size) hnc2 (by unfold maxLen; omega) (by omega))
            obtain ⟨o, ho⟩ : ∃ o, getB l2 = o := ⟨_, rfl⟩
            have HOo := Lib.hid ho
            rw [ho] at HGb
            clear ho
            go_wp2_with fail
            refine HGb.out.mono ?_
            rintro e w7 ⟨hb7, g1, g0⟩
            have H7 := Lib.hid (H3.out.trans (hb7.mono H3.out.size))
            cases o with
            | none =>
              obtain rfl := g0 rfl
              clear g0 g1 hb7 HGb
              go_wp2
              go_ret
              exact ⟨rfl, H7.out⟩
            | some S1 =>
              obtain ⟨A7, c7, rfl, ho7, hs7⟩ := g1 S1 rfl
              obtain ⟨k1, k2, _⟩ := getB_some HOo.out
              have HK1 := Lib.hid k1; have HK2 := Lib.hid k2
              obtain ⟨_, _, hv, hn7, hc7, _⟩ := own_shape ho7
              injection hv with e1 e2 e3
              subst e1 e3
              have HEL7 : EL w7 w7.heap.size A7 S1.length c7 S1 := ⟨Lies.of_own ho7, Nat.le_refl _, hn7, hc7, fun x hx => by have := hs7 x hx; unfold szE at this; exact ⟨by omega, by omega⟩⟩
              have HP7 := Lib.hid (bput_any S1 (fun x hx => (hs7 x hx).2.2) A7 S1.length c7 _ w7 HEL7)
              clear g0 g1 hb7 HGb k1 k2 ho7 hs7 hn7 hc7 HEL7
              go_wp2_with fail
              refine HP7.out.mono ?_
              rintro e w8 ⟨hb8, p1, _⟩
              obtain ⟨A8, c8, rfl, ho8⟩ := p1 HK1.out
              have H8 := Lib.hid (H7.out.trans (hb8.mono H7.out.size))
              have HSb := Lib.hid (same_any A8 A2 (encB S1).length n2 c8 c2 w8.heap.size (encB S1) l2 w8 (Lies.of_own ho8) ((HL2.out.below H8.out).more H8.out.size) (by have := encB_len S1 HK1.out; omega))
              rw [HK2.out, sameB_self] at HSb
              rw [HK2.out]
              clear p1 hb8 ho8 HP7
              go_wp2_with fail
              refine HSb.out.mono ?_
              rintro e w9 ⟨rfl, q9, rfl⟩
              have HF := Lib.hid (below_drewN H8.out q9)
              clear HSb
              go_wp2
              go_ret
              exact ⟨rfl, HF.out⟩
          · have i2 : (n : Int) ≤ 64 := by omega
            have HR := Lib.hid (rises_any l A n c W.heap.size w3 (HUp.out w3 H3.out))
            have HRn : Hid (risB l = false) := by
              unfold Hid
              have := HOk.out
              rw [okB_ris, HN.out, decide_eq_true (show 1 ≤ n by omega), decide_eq_true (show n ≤ 64 by omega)] at this
              simpa using this
            rw [HRn.out] at HR
            go_wp2_with fail
            refine HR.out.mono ?_
            rintro e w4 ⟨rfl, hb4⟩
            have H4 := Lib.hid (H3.out.trans (hb4.mono H3.out.size))
            clear hb4 HR
            have HGb := Lib.hid (bget_any A2 n2 c2 l2 w4 ((HL2.out.below H4.out).more H4.out.size) hnc2 (by unfold maxLen; omega) (by omega))
            obtain ⟨o, ho⟩ : ∃ o, getB l2 = o := ⟨_, rfl⟩
            have HOo := Lib.hid ho
            rw [ho] at HGb
            clear ho
            go_wp2_with fail
            refine HGb.out.mono ?_
            rintro e w7 ⟨hb7, g1, g0⟩
            have H7 := Lib.hid (H4.out.trans (hb7.mono H4.out.size))
            cases o with
            | none =>
              obtain rfl := g0 rfl
              clear g0 g1 hb7 HGb
              go_wp2
              go_ret
              exact ⟨rfl, H7.out⟩
            | some S1 =>
              obtain ⟨A7, c7, rfl, ho7, hs7⟩ := g1 S1 rfl
              obtain ⟨k1, k2, _⟩ := getB_some HOo.out
              have HK1 := Lib.hid k1; have HK2 := Lib.hid k2
              obtain ⟨_, _, hv, hn7, hc7, _⟩ := own_shape ho7
              injection hv with e1 e2 e3
              subst e1 e3
              have HEL7 : EL w7 w7.heap.size A7 S1.length c7 S1 := ⟨Lies.of_own ho7, Nat.le_refl _, hn7, hc7, fun x hx => by have := hs7 x hx; unfold szE at this; exact ⟨by omega, by omega⟩⟩
              have HP7 := Lib.hid (bput_any S1 (fun x hx => (hs7 x hx).2.2) A7 S1.length c7 _ w7 HEL7)
              clear g0 g1 hb7 HGb k1 k2 ho7 hs7 hn7 hc7 HEL7
              go_wp2_with fail
              refine HP7.out.mono ?_
              rintro e w8 ⟨hb8, p1, _⟩
              obtain ⟨A8, c8, rfl, ho8⟩ := p1 HK1.out
              have H8 := Lib.hid (H7.out.trans (hb8.mono H7.out.size))
              have HSb := Lib.hid (same_any A8 A2 (encB S1).length n2 c8 c2 w8.heap.size (encB S1) l2 w8 (Lies.of_own ho8) ((HL2.out.below H8.out).more H8.out.size) (by have := encB_len S1 HK1.out; omega))
              rw [HK2.out, sameB_self] at HSb
              rw [HK2.out]
              clear p1 hb8 ho8 HP7
              go_wp2_with fail
              refine HSb.out.mono ?_
              rintro e w9 ⟨rfl, q9, rfl⟩
              have HF := Lib.hid (below_drewN H8.out q9)
              clear HSb
              go_wp2
              go_ret
              exact ⟨rfl, HF.out⟩
      · obtain ⟨A3, c3, rfl, ho3⟩ := h1 rfl
        have hk2 := (okB_iff l).1 HOk.out
        rw [HN.out] at hk2
        have i1 : (1 : Int) ≤ (n : Int) := by omega
        have i2 : (n : Int) ≤ 64 := by omega
        have HR := Lib.hid (rises_any l A n c W.heap.size w3 (HUp.out w3 H3.out))
        have HRn : Hid (risB l = true) := by
          unfold Hid
          have := HOk.out
          rw [okB_ris, HN.out, decide_eq_true (show 1 ≤ n by omega), decide_eq_true (show n ≤ 64 by omega)] at this
          simpa using this
        rw [HRn.out] at HR
        have HO := Lib.hid ho3
        have HEn := Lib.hid (encB_len l HOk.out)
        obtain ⟨N, hN⟩ : ∃ N, (encB l).length = N := ⟨_, rfl⟩
        rw [hN] at HO HEn ⊢
        clear h0 h1 hb3 hb hk2 ho3 hN
        go_wp2_with fail
        refine HR.out.mono ?_
        rintro e w4 ⟨rfl, hb4⟩
        have H4 := Lib.hid (H3.out.trans (hb4.mono H3.out.size))
        have HO4 := Lib.hid (own_below HO.out hb4)
        obtain ⟨_, _, hv, hn3, hc3, _⟩ := own_shape HO4.out
        injection hv with e1 e2 e3
        subst e1 e3
        have HG := Lib.hid (bget_any A3 N c3 (encB l) w4 (Lies.of_own HO4.out) hn3 hc3 (by have := HEn.out; omega))
        rw [getB_enc l HOk.out HSq.out] at HG
        clear hb4 HR HO
        go_wp2_with fail
        refine HG.out.mono ?_
        rintro e w5 ⟨hb5, g1, _⟩
        obtain ⟨A5, c5, rfl, ho5, _⟩ := g1 l rfl
        have H5 := Lib.hid (H4.out.trans (hb5.mono H4.out.size))
        rw [HN.out] at ho5 ⊢
        have HSm := Lib.hid (sameE_yes (c := c5) (c2 := c) (Lies.of_own ho5) ((HUp.out w5 H5.out).lies.more H5.out.size) (by omega))
        clear hb5 g1 ho5 HG HO4
        go_wp2_with fail
        refine HSm.out.mono ?_
        rintro e w6 ⟨rfl, hb6⟩
        have H6 := Lib.hid (H5.out.trans (hb6.mono H5.out.size))
        clear hb6 HSm
        have HGb := Lib.hid (bget_any A2 n2 c2 l2 w6 ((HL2.out.below H6.out).more H6.out.size) hnc2 (by unfold maxLen; omega) (by omega))
        obtain ⟨o, ho⟩ : ∃ o, getB l2 = o := ⟨_, rfl⟩
        have HOo := Lib.hid ho
        rw [ho] at HGb
        clear ho
        go_wp2_with fail
        refine HGb.out.mono ?_
        rintro e w7 ⟨hb7, g1, g0⟩
        have H7 := Lib.hid (H6.out.trans (hb7.mono H6.out.size))
        cases o with
        | none =>
          obtain rfl := g0 rfl
          clear g0 g1 hb7 HGb
          go_wp2
          go_ret
          exact ⟨rfl, H7.out⟩
        | some S1 =>
          obtain ⟨A7, c7, rfl, ho7, hs7⟩ := g1 S1 rfl
          obtain ⟨k1, k2, _⟩ := getB_some HOo.out
          have HK1 := Lib.hid k1; have HK2 := Lib.hid k2
          obtain ⟨_, _, hv, hn7, hc7, _⟩ := own_shape ho7
          injection hv with e1 e2 e3
          subst e1 e3
          have HEL7 : EL w7 w7.heap.size A7 S1.length c7 S1 := ⟨Lies.of_own ho7, Nat.le_refl _, hn7, hc7, fun x hx => by have := hs7 x hx; unfold szE at this; exact ⟨by omega, by omega⟩⟩
          have HP7 := Lib.hid (bput_any S1 (fun x hx => (hs7 x hx).2.2) A7 S1.length c7 _ w7 HEL7)
          clear g0 g1 hb7 HGb k1 k2 ho7 hs7 hn7 hc7 HEL7
          go_wp2_with fail
          refine HP7.out.mono ?_
          rintro e w8 ⟨hb8, p1, _⟩
          obtain ⟨A8, c8, rfl, ho8⟩ := p1 HK1.out
          have H8 := Lib.hid (H7.out.trans (hb8.mono H7.out.size))
          have HSb := Lib.hid (same_any A8 A2 (encB S1).length n2 c8 c2 w8.heap.size (encB S1) l2 w8 (Lies.of_own ho8) ((HL2.out.below H8.out).more H8.out.size) (by have := encB_len S1 HK1.out; omega))
          rw [HK2.out, sameB_self] at HSb
          rw [HK2.out]
          clear p1 hb8 ho8 HP7
          go_wp2_with fail
          refine HSb.out.mono ?_
          rintro e w9 ⟨rfl, q9, rfl⟩
          have HF := Lib.hid (below_drewN H8.out q9)
          clear HSb
          go_wp2
          go_ret
          exact ⟨rfl, HF.out⟩
end Go.Proofs.Ytiodiiedgmobjaa
