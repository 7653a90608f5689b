/-
  The walk of TablesFrom.
-/
import Derived.Test.YtopcnlophmplgaaTLaw
import Derived.Deep.RegionHeld3
namespace Go.Proofs.Ytopcnlophmplgaa
open Go.RowKit
set_option linter.unusedVariables false
set_option maxRecDepth 100000

def FromLoop (w3 : World) (N : Nat) (j : Nat) (i : Value) (wr : World) : Prop := ∃ k, k + j = N ∧ i = .int .i64 (k : Int) ∧ Below w3.heap.size w3 wr

set_option maxHeartbeats 8000000 in
theorem tablesFrom_walk (A : Option Addr) (n c : Nat) (l : List En) (m : Mk) (most : Int) (w : World) (y : Lies w w.heap.size 4 A n (ecs l)) (hm : ∀ x ∈ l, x.m.s < 18446744073709551616 ∧ x.m.k.size ≤ 140737488351232 ∧ x.x.size ≤ 140737488351232) (hll : l.length = n) (hnc : n ≤ c) (hc : c ≤ 140737488351232)
    (hms : m.s < 18446744073709551616) (hmk : m.k.size ≤ 140737488351232) (hmost : -9223372036854775808 ≤ most ∧ most ≤ 9223372036854775807) :
    Calls Try.prog 7 #[.slice A n c, m.v, .int .i64 most] w fun e w' => e = .returned (.bool true) ∧ Below w.heap.size w w' := by
  obtain ⟨b0, b1, b2, hB, hz⟩ := mkW_facts w m
  obtain ⟨W, hW⟩ : ∃ W, w.alloc (.cells #[.string m.k, .int .u64 (m.s : Int), .bool m.g] 46) = W := ⟨_, rfl⟩
  rw [show mkW w m = W from hW] at b0 b1 b2 hB hz
  have HB := Lib.hid hB
  have Y : Hid (∀ W', Below W.heap.size W W' → Lies W' W'.heap.size 4 A n (ecs l)) := fun W' hb' => by
    have hb2 := hB.trans (hb'.mono hB.size)
    exact (y.below hb2).more hb2.size
  have KM : Hid (∀ W', Below W.heap.size W W' → W'.cell? ⟨w.heap.size, 0, none⟩ = some (.string m.k) ∧ W'.cell? ⟨w.heap.size, 1, none⟩ = some (.int .u64 (m.s : Int)) ∧ W'.cell? ⟨w.heap.size, 2, none⟩ = some (.bool m.g)) := fun W' hb' =>
    ⟨(hb'.cell (p := ⟨w.heap.size, 0, none⟩) (by show w.heap.size < _; omega)).trans b0, (hb'.cell (p := ⟨w.heap.size, 1, none⟩) (by show w.heap.size < _; omega)).trans b1, (hb'.cell (p := ⟨w.heap.size, 2, none⟩) (by show w.heap.size < _; omega)).trans b2⟩
  clear y b0 b1 b2 hB hz
  unfold Mk.v
  go_enter Try.func7, Try.ntmps7
  go_wp2_with fail
  clear hW
  refine (alive7_any W).mono ?_
  rintro e w1 ⟨rfl, hb1⟩
  have H1 := Lib.hid hb1; clear hb1
  go_wp2_with fail
  refine (many_any A n c l w1 (Y.out w1 H1.out) hm (by omega)).mono ?_
  rintro e w2 ⟨b, rfl, hb, hb2⟩
  have H2 := Lib.hid (H1.out.trans (hb2.mono H1.out.size)); clear hb2
  obtain ⟨k0, k1, k2⟩ := KM.out w2 H2.out
  have HAL : Hid (Calls Try.prog 26 #[] w2 fun e w' => e = .returned (.bool true) ∧ Below w.heap.size w w') := (alive7_any w2).mono fun e w' ⟨he, hb'⟩ => ⟨he, HB.out.trans ((H2.out.trans (hb'.mono H2.out.size)).mono HB.out.size)⟩
  cases b
  · obtain ⟨hn, hsz⟩ := hb rfl
    clear hb
    by_cases hk : 1000 < m.k.size
    · have i1 : (1000 : Int) < (m.k.size : Int) := by omega
      go_wp2_with fail
      refine HAL.out.mono ?_
      rintro e w3 ⟨rfl, hb3⟩
      have HF := Lib.hid hb3; clear hb3
      go_wp2_with fail
      go_ret
      exact ⟨rfl, HF.out⟩
    · have i1 : decide ((1000 : Int) < (m.k.size : Int)) = false := decide_eq_false (by omega)
      have HP := Lib.hid (put_all A n c l none 0 0 [] w2 (Y.out w2 H2.out) hm hn (Lies.none_ _ _ _ _) (by decide))
      clear HAL
      go_wp2_with fail
      refine HP.out.mono ?_
      rintro e w3 ⟨t, rfl, hT⟩
      have HLW := Lib.hid (H2.out.trans (hT.low.mono H2.out.size))
      obtain ⟨S, hS⟩ : ∃ S, bld l = S := ⟨_, rfl⟩
      have hSl : S.length ≤ 200 := by rw [← hS]; have := bld_len l; omega
      have hSf := hT.fine
      have hSr := hT.rise
      rw [hS] at hT hSf hSr
      have HT := Lib.hid hT
      have HSF := Lib.hid hSf; have HSR := Lib.hid hSr
      clear hT hS hSf hSr HP k0 k1 k2
      have hF1 := tb_from HT.out noM 1000
      rw [fromE_none HSF.out hSl, noM_v] at hF1
      have HF1 := Lib.hid hF1
      clear hF1
      go_wp2_with fail
      refine HF1.out.mono ?_
      rintro e w4 ⟨v4, rfl, ho4, hb4⟩
      obtain ⟨A4, c4, rfl, hc4, hm4, _⟩ := own_shape ho4
      have hl4 := Lies.of_own ho4
      have H4 := Lib.hid (HLW.out.trans (hb4.mono HLW.out.size))
      have HT := Lib.hid (HT.out.below hb4)
      have L4 := Lib.hid hl4
      clear ho4 hb4 hl4
      obtain ⟨k0, k1, k2⟩ := KM.out w4 H4.out
      have hF2 := tb_from HT.out m 1000
      rw [fromE_all hSl] at hF2
      unfold Mk.v at hF2
      have HF2 := Lib.hid hF2
      clear hF2
      go_wp2_with fail
      refine HF2.out.mono ?_
      rintro e w5 ⟨v5, rfl, ho5, hb5⟩
      obtain ⟨A5, c5, rfl, hc5, hm5, _⟩ := own_shape ho5
      have hl5 := Lies.of_own ho5
      have H5 := Lib.hid (H4.out.trans (hb5.mono H4.out.size))
      have HT := Lib.hid (HT.out.below hb5)
      have L4 := Lib.hid ((L4.out.below hb5).more hb5.size)
      have L5 := Lib.hid hl5
      clear ho5 hb5 hl5 k0 k1 k2 HF1 HF2
      obtain ⟨N, hN⟩ : ∃ N, S.length = N := ⟨_, rfl⟩
      obtain ⟨R, hR⟩ : ∃ R, fromM S m = R := ⟨_, rfl⟩
      obtain ⟨r, hr⟩ : ∃ r, R.length = r := ⟨_, rfl⟩
      have hle := fromM_le S m
      have hdr := fromM_drop S m
      have hah : ∀ (i : Nat) (e : En), S[i]? = some e → (cmpM e.m m < 0 ↔ i < N - r) := fun i e hi => by
        have := fromM_ahead HSR.out m hi
        rw [hR, hr, hN] at this; exact this
      rw [hR, hr, hN] at hle
      rw [hR, hr, hN] at hdr
      rw [hN] at L4 hc4 hSl ⊢
      rw [hR, hr] at L5 hc5 ⊢
      have HN := Lib.hid hN; have HRR := Lib.hid hR; have Hr := Lib.hid hr; have HD := Lib.hid hdr; have HAH := Lib.hid hah
      clear hN hR hr hdr hah
      obtain ⟨D, hD⟩ : ∃ D : Nat, (N : Int) - (r : Int) = (D : Int) := ⟨N - r, by omega⟩
      have hDN : N - r = D := by omega
      rw [hDN] at HD HAH
      have hgt : decide (N < r) = false := decide_eq_false (by omega)
      have hslice : ∀ W', (Instr.slice 57 (.slice A4 N c4) (some (.int .i64 (D : Int))) none none).run Try.prog W' = .ok (.slice (cutE A4 c4 D) r (c4 - D)) W' := fun W' => by
        have := run_cutE W' A4 N c4 D (by omega)
        rw [show N - D = r from by omega] at this; exact this
      have HSm := Lib.hid (sameE_yes (A := A5) (A2 := cutE A4 c4 D) (c := c5) (c2 := c4 - D) L5.out (by have h1 := L4.out.cutE (m := D) (c := c4) (by omega) hc4; rw [ecs_drop, HD.out, show N - D = r from by omega] at h1; exact h1) (by omega))
      have hwr : IntKind.i64.wrap (D : Int) = (D : Int) := IntWalk.i64_in _ (by omega)
      go_wp2_with fail
      refine HSm.out.mono ?_
      rintro e w6 ⟨rfl, hb6⟩
      have H6 := Lib.hid (H5.out.trans (hb6.mono H5.out.size))
      have HT := Lib.hid (HT.out.below hb6)
      have L4 := Lib.hid ((L4.out.below hb6).more hb6.size)
      have L5 := Lib.hid ((L5.out.below hb6).more hb6.size)
      have HR : Hid (FromLoop w6 N N (.int .i64 0) w6) := ⟨0, by omega, rfl, Below.refl _ _⟩
      clear hb6 hslice HSm
      go_wp2_with fail
      go_loopg [10] N (fun j i wr => FromLoop w6 N j i wr)
      case atStart => exact HR.out
      case round =>
        clear HR
        obtain ⟨k, hkN, rfl, hbr⟩ := hrel
        have HBR := Lib.hid hbr
        by_cases hlt : k < N
        · have i0 : (0 : Int) ≤ (k : Int) := by omega
          have i2 : (k : Int) < (N : Int) := by omega
          obtain ⟨b, o, e0, rfl, hbB, hu, c0, c1, c2, _⟩ := ((L4.out.below hbr).more hbr.size).entry hlt
          obtain ⟨d0, d1, d2⟩ := KM.out wr (H6.out.trans (hbr.mono H6.out.size))
          have hgs : w.heap.size < wr.heap.size := by
            rcases Nat.lt_or_ge w.heap.size wr.heap.size with q | q
            · exact q
            · rw [World.cell?, Array.getElem?_eq_none q] at d0; cases d0
          have KC : Hid (∀ W', Below wr.heap.size wr W' → (W'.cell? ⟨b, o + k * 4, none⟩ = some (.string e0.m.k) ∧ W'.cell? ⟨b, o + k * 4 + 1, none⟩ = some (.int .u64 (e0.m.s : Int)) ∧ W'.cell? ⟨b, o + k * 4 + 2, none⟩ = some (.bool e0.m.g)) ∧ W'.cell? ⟨w.heap.size, 0, none⟩ = some (.string m.k) ∧ W'.cell? ⟨w.heap.size, 1, none⟩ = some (.int .u64 (m.s : Int)) ∧ W'.cell? ⟨w.heap.size, 2, none⟩ = some (.bool m.g)) := fun W' hb' =>
            ⟨⟨(hb'.cell (p := ⟨b, o + k * 4, none⟩) hbB).trans c0, (hb'.cell (p := ⟨b, o + k * 4 + 1, none⟩) hbB).trans c1, (hb'.cell (p := ⟨b, o + k * 4 + 2, none⟩) hbB).trans c2⟩, (hb'.cell (p := ⟨w.heap.size, 0, none⟩) hgs).trans d0, (hb'.cell (p := ⟨w.heap.size, 1, none⟩) hgs).trans d1, (hb'.cell (p := ⟨w.heap.size, 2, none⟩) hgs).trans d2⟩
          have HC0 : ∀ W', Below wr.heap.size wr W' → Calls Try.prog 30 #[.agg #[.string e0.m.k, .int .u64 (e0.m.s : Int), .bool e0.m.g], .agg #[.string m.k, .int .u64 (m.s : Int), .bool m.g]] W' fun e w' => e = .returned (.int .i64 (cmpM e0.m m)) ∧ Below wr.heap.size wr w' := fun W' hb' => (cmp_any e0.m m W').mono fun e w' ⟨he, hb2⟩ => ⟨he, hb'.trans (hb2.mono hb'.size)⟩
          have hiff := HAH.out k e0 hu
          obtain ⟨z, hz⟩ : ∃ z, cmpM e0.m m = z := ⟨_, rfl⟩
          rw [hz] at hiff HC0
          have HC := Lib.hid HC0
          have hd0 : Below wr.heap.size wr wr.drew := (Below.refl _ _).drew
          clear hz HC0 hu c0 c1 c2 d0 d1 d2 hbr
          by_cases hkD : k < D
          · have z1 : z < 0 := hiff.2 hkD
            have z2 : (k : Int) < (D : Int) := by omega
            clear hiff
            go_wp2_with fail
            go_region_held3 (fun W' => (W'.cell? ⟨b, o + k * 4, none⟩ = some (.string e0.m.k) ∧ W'.cell? ⟨b, o + k * 4 + 1, none⟩ = some (.int .u64 (e0.m.s : Int)) ∧ W'.cell? ⟨b, o + k * 4 + 2, none⟩ = some (.bool e0.m.g)) ∧ W'.cell? ⟨w.heap.size, 0, none⟩ = some (.string m.k) ∧ W'.cell? ⟨w.heap.size, 1, none⟩ = some (.int .u64 (m.s : Int)) ∧ W'.cell? ⟨w.heap.size, 2, none⟩ = some (.bool m.g)) (first | exact KC.out _ hd0 | exact KC.out _ hb9)
              (first
                | (go_at_call 30; with_reducible refine Calls.mono (HC.out _ (by assumption)) ?_; rintro e w9 ⟨rfl, hb9⟩)
                | fail)
            go_wp2_with fail
            go_roundg (N - (k + 1))
            case measure => omega
            case rel => exact ⟨k + 1, by omega, by go_num, HBR.out.trans (hb9.mono HBR.out.size)⟩
          · have z1 : decide (z < 0) = false := decide_eq_false fun q => hkD (hiff.1 q)
            have z2 : decide ((k : Int) < (D : Int)) = false := decide_eq_false (by omega)
            clear hiff
            go_wp2_with fail
            go_region_held3 (fun W' => (W'.cell? ⟨b, o + k * 4, none⟩ = some (.string e0.m.k) ∧ W'.cell? ⟨b, o + k * 4 + 1, none⟩ = some (.int .u64 (e0.m.s : Int)) ∧ W'.cell? ⟨b, o + k * 4 + 2, none⟩ = some (.bool e0.m.g)) ∧ W'.cell? ⟨w.heap.size, 0, none⟩ = some (.string m.k) ∧ W'.cell? ⟨w.heap.size, 1, none⟩ = some (.int .u64 (m.s : Int)) ∧ W'.cell? ⟨w.heap.size, 2, none⟩ = some (.bool m.g)) (first | exact KC.out _ hd0 | exact KC.out _ hb9)
              (first
                | (go_at_call 30; with_reducible refine Calls.mono (HC.out _ (by assumption)) ?_; rintro e w9 ⟨rfl, hb9⟩)
                | fail)
            go_wp2_with fail
            go_roundg (N - (k + 1))
            case measure => omega
            case rel => exact ⟨k + 1, by omega, by go_num, HBR.out.trans (hb9.mono HBR.out.size)⟩
        · obtain rfl : k = N := by omega
          have i2 : ¬ (k : Int) < (k : Int) := by omega
          have H7 := Lib.hid (H6.out.trans (hbr.mono H6.out.size))
          have L5 := Lib.hid ((L5.out.below hbr).more hbr.size)
          have hF3 := tb_from (HT.out.below hbr) m most
          unfold Mk.v at hF3
          have HF3 := Lib.hid hF3
          obtain ⟨d0, d1, d2⟩ := KM.out wr H7.out
          clear hbr hF3 hlt
          go_wp2_with fail
          refine HF3.out.mono ?_
          rintro e w7 ⟨v7, rfl, ho7, hb7⟩
          obtain ⟨A7, c7, rfl, hc7, hm7, _⟩ := own_shape ho7
          have L7 := Lib.hid (Lies.of_own ho7)
          have H7 := Lib.hid (H7.out.trans (hb7.mono H7.out.size))
          have L5 := Lib.hid ((L5.out.below hb7).more hb7.size)
          have HQ : Hid ((fromE S m most).length = min most.toNat r) := by
            unfold Hid fromE
            rw [List.length_take, HRR.out, Hr.out]
          have HFE : Hid (∀ q : Int, fromE S m q = R.take q.toNat) := fun q => by unfold fromE; rw [HRR.out]
          clear ho7 hb7 HF3 d0 d1 d2
          by_cases c1 : most < 0
          · have m1 : most < (r : Int) := by omega
            have hq2 : (fromE S m most).length = 0 := by rw [HQ.out]; omega
            have hslice : ∀ W', (Instr.slice 57 (.slice A5 r c5) none (some (.int .i64 (0 : Int))) none).run Try.prog W' = .ok (.slice A5 0 c5) W' := fun W' => run_headE W' A5 r c5 0 (by omega)
            rw [hq2] at L7 hc7 ⊢
            have HSm := Lib.hid (sameE_yes (A := A7) (A2 := A5) (c := c7) (c2 := c5) L7.out (by have h1 := L5.out.takeE (m := 0) (by omega); rw [ecs_take, show R.take 0 = fromE S m most from by rw [HFE.out]; exact List.take_eq_take_iff.2 (by rw [Hr.out]; omega)] at h1; exact h1) (by omega))
            clear hq2
            go_wp2_with fail
            refine HSm.out.mono ?_
            rintro e w8 ⟨rfl, hb8⟩
            have HF := Lib.hid (HB.out.trans ((H7.out.trans (hb8.mono H7.out.size)).mono HB.out.size))
            clear hb8 hslice
            go_wp2_with fail
            go_ret
            exact ⟨rfl, HF.out⟩
          by_cases c2 : most = 0
          · subst c2
            by_cases c3 : r = 0
            · subst c3
              have hq2 : (fromE S m 0).length = 0 := by rw [HQ.out]; omega
              have hslice : ∀ W', (Instr.slice 57 (.slice A5 0 c5) none (some (.int .i64 (0 : Int))) none).run Try.prog W' = .ok (.slice A5 0 c5) W' := fun W' => run_headE W' A5 0 c5 0 (by omega)
              rw [hq2] at L7 hc7 ⊢
              have HSm := Lib.hid (sameE_yes (A := A7) (A2 := A5) (c := c7) (c2 := c5) L7.out (by have h1 := L5.out.takeE (m := 0) (by omega); rw [ecs_take, show R.take 0 = fromE S m 0 from by rw [HFE.out]; exact List.take_eq_take_iff.2 (by rw [Hr.out]; omega)] at h1; exact h1) (by omega))
              clear hq2
              go_wp2_with fail
              refine HSm.out.mono ?_
              rintro e w8 ⟨rfl, hb8⟩
              have HF := Lib.hid (HB.out.trans ((H7.out.trans (hb8.mono H7.out.size)).mono HB.out.size))
              clear hb8 hslice
              go_wp2_with fail
              go_ret
              exact ⟨rfl, HF.out⟩
            · have m1 : (0 : Int) < (r : Int) := by omega
              have hq2 : (fromE S m 0).length = 0 := by rw [HQ.out]; omega
              have hslice : ∀ W', (Instr.slice 57 (.slice A5 r c5) none (some (.int .i64 (0 : Int))) none).run Try.prog W' = .ok (.slice A5 0 c5) W' := fun W' => run_headE W' A5 r c5 0 (by omega)
              rw [hq2] at L7 hc7 ⊢
              have HSm := Lib.hid (sameE_yes (A := A7) (A2 := A5) (c := c7) (c2 := c5) L7.out (by have h1 := L5.out.takeE (m := 0) (by omega); rw [ecs_take, show R.take 0 = fromE S m 0 from by rw [HFE.out]; exact List.take_eq_take_iff.2 (by rw [Hr.out]; omega)] at h1; exact h1) (by omega))
              clear hq2
              go_wp2_with fail
              refine HSm.out.mono ?_
              rintro e w8 ⟨rfl, hb8⟩
              have HF := Lib.hid (HB.out.trans ((H7.out.trans (hb8.mono H7.out.size)).mono HB.out.size))
              clear hb8 hslice
              go_wp2_with fail
              go_ret
              exact ⟨rfl, HF.out⟩
          by_cases c4 : most < (r : Int)
          · obtain ⟨q, rfl⟩ : ∃ q : Nat, most = (q : Int) := ⟨most.toNat, by omega⟩
            have m1 : (0 : Int) < (q : Int) := by omega
            have hq2 : (fromE S m (q : Int)).length = q := by rw [HQ.out]; omega
            have hslice : ∀ W', (Instr.slice 57 (.slice A5 r c5) none (some (.int .i64 (q : Int))) none).run Try.prog W' = .ok (.slice A5 q c5) W' := fun W' => run_headE W' A5 r c5 q (by omega)
            rw [hq2] at L7 hc7 ⊢
            have HSm := Lib.hid (sameE_yes (A := A7) (A2 := A5) (c := c7) (c2 := c5) L7.out (by have h1 := L5.out.takeE (m := q) (by omega); rw [ecs_take, show R.take q = fromE S m (q : Int) from by rw [HFE.out]; exact List.take_eq_take_iff.2 (by rw [Hr.out]; omega)] at h1; exact h1) (by omega))
            clear hq2
            go_wp2_with fail
            refine HSm.out.mono ?_
            rintro e w8 ⟨rfl, hb8⟩
            have HF := Lib.hid (HB.out.trans ((H7.out.trans (hb8.mono H7.out.size)).mono HB.out.size))
            clear hb8 hslice
            go_wp2_with fail
            go_ret
            exact ⟨rfl, HF.out⟩
          by_cases c5' : most = (r : Int)
          · subst c5'
            have m1 : (0 : Int) < (r : Int) := by omega
            have hq2 : (fromE S m (r : Int)).length = r := by rw [HQ.out]; omega
            have hslice : ∀ W', (Instr.slice 57 (.slice A5 r c5) none (some (.int .i64 (r : Int))) none).run Try.prog W' = .ok (.slice A5 r c5) W' := fun W' => run_headE W' A5 r c5 r (by omega)
            rw [hq2] at L7 hc7 ⊢
            have HSm := Lib.hid (sameE_yes (A := A7) (A2 := A5) (c := c7) (c2 := c5) L7.out (by have h1 := L5.out.takeE (m := r) (by omega); rw [ecs_take, show R.take r = fromE S m (r : Int) from by rw [HFE.out]; exact List.take_eq_take_iff.2 (by rw [Hr.out]; omega)] at h1; exact h1) (by omega))
            clear hq2
            go_wp2_with fail
            refine HSm.out.mono ?_
            rintro e w8 ⟨rfl, hb8⟩
            have HF := Lib.hid (HB.out.trans ((H7.out.trans (hb8.mono H7.out.size)).mono HB.out.size))
            clear hb8 hslice
            go_wp2_with fail
            go_ret
            exact ⟨rfl, HF.out⟩
          have m1 : (r : Int) < most := by omega
          by_cases c6 : r = 0
          · subst c6
            have hq2 : (fromE S m most).length = 0 := by rw [HQ.out]; omega
            have hslice : ∀ W', (Instr.slice 57 (.slice A5 0 c5) none (some (.int .i64 (0 : Int))) none).run Try.prog W' = .ok (.slice A5 0 c5) W' := fun W' => run_headE W' A5 0 c5 0 (by omega)
            rw [hq2] at L7 hc7 ⊢
            have HSm := Lib.hid (sameE_yes (A := A7) (A2 := A5) (c := c7) (c2 := c5) L7.out (by have h1 := L5.out.takeE (m := 0) (by omega); rw [ecs_take, show R.take 0 = fromE S m most from by rw [HFE.out]; exact List.take_eq_take_iff.2 (by rw [Hr.out]; omega)] at h1; exact h1) (by omega))
            clear hq2
            go_wp2_with fail
            refine HSm.out.mono ?_
            rintro e w8 ⟨rfl, hb8⟩
            have HF := Lib.hid (HB.out.trans ((H7.out.trans (hb8.mono H7.out.size)).mono HB.out.size))
            clear hb8 hslice
            go_wp2_with fail
            go_ret
            exact ⟨rfl, HF.out⟩
          · have m2 : (0 : Int) < (r : Int) := by omega
            have hq2 : (fromE S m most).length = r := by rw [HQ.out]; omega
            have hslice : ∀ W', (Instr.slice 57 (.slice A5 r c5) none (some (.int .i64 (r : Int))) none).run Try.prog W' = .ok (.slice A5 r c5) W' := fun W' => run_headE W' A5 r c5 r (by omega)
            rw [hq2] at L7 hc7 ⊢
            have HSm := Lib.hid (sameE_yes (A := A7) (A2 := A5) (c := c7) (c2 := c5) L7.out (by have h1 := L5.out.takeE (m := r) (by omega); rw [ecs_take, show R.take r = fromE S m most from by rw [HFE.out]; exact List.take_eq_take_iff.2 (by rw [Hr.out]; omega)] at h1; exact h1) (by omega))
            clear hq2
            go_wp2_with fail
            refine HSm.out.mono ?_
            rintro e w8 ⟨rfl, hb8⟩
            have HF := Lib.hid (HB.out.trans ((H7.out.trans (hb8.mono H7.out.size)).mono HB.out.size))
            clear hb8 hslice
            go_wp2_with fail
            go_ret
            exact ⟨rfl, HF.out⟩
  · go_wp2_with fail
    refine HAL.out.mono ?_
    rintro e w3 ⟨rfl, hb3⟩
    have HF := Lib.hid hb3; clear hb3
    go_wp2_with fail
    go_ret
    exact ⟨rfl, HF.out⟩
end Go.Proofs.Ytopcnlophmplgaa
