/-
  The walk of TablesBytes.
-/
import Derived.Test.YtopcnlophmplgaaTLaw
import Derived.Deep.RegionHeld3
import Derived.Deep.DeepCutAuto
namespace Go.Proofs.Ytopcnlophmplgaa
open Go.RowKit
set_option linter.unusedVariables false
set_option maxRecDepth 100000

theorem put_ways (S : List En) (x : En) (c : Nat) : (putE S x (c : Int) = 0 ∧ putS S x (c : Int) = insE x S ∧ fineE x = true ∧ 1 ≤ c ∧ c ≤ 8) ∨ (putE S x (c : Int) ≠ 0 ∧ (1 ≤ c ∧ c ≤ 8 ∨ putE S x (c : Int) = 1 ∧ (c < 1 ∨ 8 < c))) := by
  by_cases h0 : putE S x (c : Int) = 0
  · refine .inl ⟨h0, by unfold putS; rw [if_pos h0], ?_⟩
    unfold putE at h0
    cases hf : fineE x
    · rw [hf] at h0; cases h0
    · cases hk : okK (c : Int)
      · rw [hf, hk] at h0; cases h0
      · have := of_decide_eq_true hk
        exact ⟨rfl, by omega, by omega⟩
  · refine .inr ⟨h0, ?_⟩
    by_cases hk : 1 ≤ c ∧ c ≤ 8
    · exact .inl hk
    · refine .inr ⟨?_, by omega⟩
      have hkk : okK (c : Int) = false := decide_eq_false (by omega)
      unfold putE
      rw [hkk, Bool.and_false]; rfl
def BytesRel (w : World) (t n : Nat) (j : Nat) (s6 s7 s8 : Value) (wr : World) : Prop :=
  ∃ (k : Nat) (S : List En), k + j = n ∧ s8 = .int .i64 (k : Int) ∧ s7 = .int .i64 (S.length : Int) ∧ s6 = .int .i64 (esum S : Int) ∧ S.length ≤ k ∧ esum S ≤ 300 * k ∧ Tb w wr t S

set_option maxHeartbeats 8000000 in
theorem tablesBytes_walk (A : Option Addr) (n c : Nat) (l : List En) (At : Option Addr) (nt ct : Nat) (ts : List UInt8) (w : World) (y : Lies w w.heap.size 4 A n (ecs l)) (hm : ∀ x ∈ l, x.m.s < 18446744073709551616 ∧ x.m.k.size ≤ 140737488351232 ∧ x.x.size ≤ 140737488351232) (hll : l.length = n) (hnc : n ≤ c) (hc : c ≤ 140737488351232)
    (yt : Lies w w.heap.size 1 At nt (ts.map bv)) (hntc : nt ≤ ct) (hct : ct ≤ 140737488351232) :
    Calls Try.prog 9 #[.slice A n c, .slice At nt ct] w fun e w' => e = .returned (.bool true) ∧ Below w.heap.size w w' := by
  have Y : Hid (∀ W', Below w.heap.size w W' → Lies W' W'.heap.size 4 A n (ecs l)) := fun W' hb' => (y.below hb').more hb'.size
  have YT : Hid (∀ W', Below w.heap.size w W' → Lies W' W'.heap.size 1 At nt (ts.map bv)) := fun W' hb' => (yt.below hb').more hb'.size
  have HM := Lib.hid hm
  clear y yt
  go_enter Try.func9, Try.ntmps9
  go_wp2_with fail
  refine (alive7_any w).mono ?_
  rintro e w1 ⟨rfl, hb1⟩
  have H1 := Lib.hid hb1; clear hb1
  go_wp2_with fail
  refine (many_any A n c l w1 (Y.out w1 H1.out) hm (by omega)).mono ?_
  rintro e w2 ⟨b, rfl, hb, hb2⟩
  have H2 := Lib.hid (H1.out.trans (hb2.mono H1.out.size)); clear hb2
  have HAL : Hid (Calls Try.prog 26 #[] w2 fun e w' => e = .returned (.bool true) ∧ Below w.heap.size w w') := (alive7_any w2).mono fun e w' ⟨he, hb'⟩ => ⟨he, H2.out.trans (hb'.mono H2.out.size)⟩
  clear hm
  cases b
  · obtain ⟨hn, hsz⟩ := hb rfl
    clear hb
    by_cases hk : 1000 < nt
    · have i1 : (1000 : Int) < (nt : Int) := by omega
      go_wp2_with fail
      refine HAL.out.mono ?_
      rintro e w3 ⟨rfl, hb3⟩
      have HF := Lib.hid hb3; clear hb3
      go_wp2_with fail
      go_ret
      exact ⟨rfl, HF.out⟩
    · have i1 : decide ((1000 : Int) < (nt : Int)) = false := decide_eq_false (by omega)
      clear HAL
      go_wp2_with fail
      refine (tb_new H2.out).mono ?_
      rintro e w3 ⟨t, rfl, h1, _⟩
      have HR : Hid (BytesRel w t n n (.int .i64 0) (.int .i64 0) (.int .i64 0) w3) := ⟨0, [], by omega, rfl, rfl, rfl, Nat.le_refl _, Nat.zero_le _, h1⟩
      clear h1
      go_wp2_with fail
      go_loopg [6, 7, 8] n (fun j a b c wr => BytesRel w t n j a b c wr)
      case atStart => exact HR.out
      case round =>
        clear HR
        obtain ⟨k, S, hkn, rfl, rfl, rfl, hSk, hES, hT⟩ := hrel
        by_cases hlt : k < n
        · have k0 : (0 : Int) ≤ (k : Int) := by omega
          have k1 : (k : Int) < (n : Int) := by omega
          have hlow := hT.low
          have HT := Lib.hid hT
          clear hT
          obtain ⟨N, hN⟩ : ∃ N, S.length = N := ⟨_, rfl⟩
          obtain ⟨E, hE⟩ : ∃ E, esum S = E := ⟨_, rfl⟩
          rw [hN] at hSk ⊢
          rw [hE] at hES ⊢
          have HN := Lib.hid hN; have HE := Lib.hid hE
          clear hN hE
          go_upto_if 33 with fail
          go_cut [9] (fun s9 wx => ∃ cc : Nat, s9 = .int .i64 (cc : Int) ∧ cc ≤ 10 ∧ wx = wr)
          case first =>
            by_cases h0 : 0 < nt
            · obtain ⟨j, hj, hj2⟩ : ∃ j : Nat, (k : Int).tmod (nt : Int) = (j : Int) ∧ j < nt := ⟨k % nt, by rw [Int.tmod_eq_emod_of_nonneg (by omega)]; exact (Int.natCast_emod k nt).symm, Nat.mod_lt _ h0⟩
              obtain ⟨b, o, v, rfl, _, hu, hcell0⟩ := (YT.out wr hlow).at_ hj2
              obtain ⟨z, hz⟩ : ∃ z : UInt8, ts[j]? = some z := by
                rw [List.getElem?_map] at hu
                cases hq : ts[j]? with
                | none => rw [hq] at hu; cases hu
                | some z => exact ⟨z, rfl⟩
              rw [List.getElem?_map, hz] at hu
              injection hu with hu
              subst hu
              obtain ⟨zn, hzn⟩ : ∃ zn : Nat, z.toNat = zn := ⟨_, rfl⟩
              have hcell : wr.cell? ⟨b, o + j, none⟩ = some (.int .u8 (zn : Int)) := by rw [hcell0]; show some (Value.int .u8 (z.toNat : Int)) = _; rw [hzn]
              obtain ⟨c0, hc0, hc8⟩ : ∃ c0 : Nat, (zn : Int) % 11 = (c0 : Int) ∧ c0 ≤ 10 := ⟨zn % 11, by omega, by omega⟩
              have w1 : IntKind.i64.wrap (c0 : Int) = (c0 : Int) := IntWalk.i64_in _ (by omega)
              have j0 : (0 : Int) ≤ (j : Int) := by omega
              have j1 : (j : Int) < (nt : Int) := by omega
              clear hz hzn hcell0
              go_wp2_with fail
              go_meet
              exact ⟨c0, rfl, by omega, rfl⟩
            · have h0' : decide (0 < nt) = false := decide_eq_false h0
              go_wp2_with fail
              go_meet
              exact ⟨1, rfl, by omega, rfl⟩
          case rest =>
            obtain ⟨cc, rfl, hcc, rfl⟩ := hcut
            obtain ⟨b, o, x, rfl, hbB, hx, _⟩ := (Y.out wc hlow).entry hlt
            have hmx := HM.out x (List.mem_of_getElem? hx)
            have KC : Hid (∀ W', Below w.heap.size w W' → W'.cell? ⟨b, o + k * 4, none⟩ = some (.string x.m.k) ∧ W'.cell? ⟨b, o + k * 4 + 1, none⟩ = some (.int .u64 (x.m.s : Int)) ∧ W'.cell? ⟨b, o + k * 4 + 2, none⟩ = some (.bool x.m.g) ∧ W'.cell? ⟨b, o + k * 4 + 3, none⟩ = some (.string x.x)) := fun W' hb' => by
              obtain ⟨b', o', x', hA, _, hx', d0, d1, d2, d3⟩ := (Y.out W' hb').entry hlt
              injection hA with hA
              injection hA with hA1 hA2
              subst hA1 hA2
              rw [hx] at hx'
              injection hx' with hx'
              subst hx'
              exact ⟨d0, d1, d2, d3⟩
            have hF1 := tb_from HT.out noM 1000
            rw [fromE_none HT.out.fine (by rw [HN.out]; omega), noM_v, HN.out] at hF1
            have HF1 := Lib.hid hF1
            clear hF1 hx hlow
            go_wp2_with fail
            refine HF1.out.mono ?_
            rintro e w5 ⟨v5, rfl, ho5, hb5⟩
            obtain ⟨A5, c5, rfl, hc5, hm5, _⟩ := own_shape ho5
            have L5 := Lib.hid (Lies.of_own ho5)
            have HT5 := Lib.hid (HT.out.below hb5)
            clear ho5 hb5 HF1
            obtain ⟨e0, e1, e2, e3⟩ := KC.out w5 HT5.out.low
            rcases put_ways S x cc with ⟨p0, pS, hf, hc1, hc8⟩ | ⟨pn, pw⟩
            · obtain ⟨_, hks, hxs⟩ := fine_size hf
              have PT0 := tb_put HT5.out x hmx.2.1 hmx.2.2 (cc : Int)
              rw [p0, pS] at PT0
              have PT : Hid (Calls Try.prog 22 #[tp t, .agg #[.string x.m.k, .int .u64 (x.m.s : Int), .bool x.m.g, .string x.x], .int .i64 (cc : Int)] w5 fun e w' => e = .returned (.int .i64 0) ∧ Tb w w' t (insE x S)) := PT0
              have GL : Hid (∀ W', Tb w W' t (insE x S) → Calls Try.prog 25 #[tp t] W' fun e w' => e = .returned (.int .i64 ((N : Int) + 1)) ∧ W' = w') := fun W' h => by
                have q := tb_len h
                rw [insE_len, HN.out] at q; exact q
              have GB : Hid (∀ W', Tb w W' t (insE x S) → Calls Try.prog 24 #[tp t] W' fun e w' => e = .returned (.int .i64 ((E : Int) + (x.m.k.size : Int) + (x.x.size : Int))) ∧ W' = w') := fun W' h => by
                have q := tb_bytes h
                rw [esum_insE, HE.out, show ((E + (x.m.k.size + x.x.size) : Nat) : Int) = (E : Int) + (x.m.k.size : Int) + (x.x.size : Int) from by omega] at q; exact q
              have v1 : IntKind.i64.wrap ((E : Int) + (x.m.k.size : Int)) = (E : Int) + (x.m.k.size : Int) := IntWalk.i64_in _ (by omega)
              have v2 : IntKind.i64.wrap ((E : Int) + (x.m.k.size : Int) + (x.x.size : Int)) = (E : Int) + (x.m.k.size : Int) + (x.x.size : Int) := IntWalk.i64_in _ (by omega)
              have v3 : IntKind.i64.wrap ((N : Int) + 1) = (N : Int) + 1 := IntWalk.i64_in _ (by omega)
              have q1 : ¬ (cc : Int) < 1 := by omega
              have q2 : ¬ (8 : Int) < (cc : Int) := by omega
              clear PT0 p0 pS hf
              go_wp2_with fail
              refine PT.out.mono ?_
              rintro e w6 ⟨rfl, hT6⟩
              clear e0 e1 e2 e3
              obtain ⟨e0, e1, e2, e3⟩ := KC.out w6 hT6.low
              have HT7 : Hid (∀ q, Tb w (w6.drewN q) t (insE x S)) := fun q => hT6.below (below_drewN (Below.refl _ _) _)
              clear hT6
              go_wp2_with fail
              go_quiet (fail)
              go_wp2_with (first
                | (go_at_call 25; refine (GL.out _ (HT7.out _)).mono ?_; rintro e w9 ⟨rfl, rfl⟩)
                | (go_at_call 24; refine (GB.out _ (HT7.out _)).mono ?_; rintro e w9 ⟨rfl, rfl⟩))
              go_roundg (n - (k + 1))
              case measure => omega
              case rel => exact ⟨k + 1, insE x S, by omega, by go_num, by rw [insE_len, HN.out]; rfl, by rw [esum_insE, HE.out, show ((E + (x.m.k.size + x.x.size) : Nat) : Int) = (E : Int) + (x.m.k.size : Int) + (x.x.size : Int) from by omega], by rw [insE_len, HN.out]; omega, by rw [esum_insE, HE.out]; omega, HT7.out _⟩
            · have PT0 := tb_put_no HT5.out x hmx.2.1 hmx.2.2 (cc : Int) pn
              have GL : Hid (∀ W', Tb w W' t S → Calls Try.prog 25 #[tp t] W' fun e w' => e = .returned (.int .i64 (N : Int)) ∧ W' = w') := fun W' h => by
                have q := tb_len h
                rw [HN.out] at q; exact q
              have GB : Hid (∀ W', Tb w W' t S → Calls Try.prog 24 #[tp t] W' fun e w' => e = .returned (.int .i64 (E : Int)) ∧ W' = w') := fun W' h => by
                have q := tb_bytes h
                rw [HE.out] at q; exact q
              obtain ⟨f, hf⟩ : ∃ f, putE S x (cc : Int) = f := ⟨_, rfl⟩
              rw [hf] at PT0 pn pw
              clear hf
              rcases pw with ⟨pc1, pc8⟩ | ⟨rfl, pc | pc⟩
              · have f0 : (((f : Nat) : Int) == 0) = false := by rw [beq_eq_false_iff_ne]; omega
                have q1 : ¬ (cc : Int) < 1 := by omega
                have q2 : ¬ (8 : Int) < (cc : Int) := by omega
                have PT : Hid (Calls Try.prog 22 #[tp t, .agg #[.string x.m.k, .int .u64 (x.m.s : Int), .bool x.m.g, .string x.x], .int .i64 (cc : Int)] w5 fun e w' => e = .returned (.int .i64 (f : Int)) ∧ Below w5.heap.size w5 w') := PT0
                clear PT0
                go_wp2_with fail
                refine PT.out.mono ?_
                rintro e w6 ⟨rfl, hb6⟩
                have HT6 := Lib.hid (HT5.out.below hb6)
                have L6 := Lib.hid ((L5.out.below hb6).more hb6.size)
                have hF2 := tb_from HT6.out noM 1000
                rw [fromE_none HT.out.fine (by rw [HN.out]; omega), noM_v, HN.out] at hF2
                have HF2 := Lib.hid hF2
                clear hF2 hb6 e0 e1 e2 e3
                go_wp2_with fail
                refine HF2.out.mono ?_
                rintro e w7 ⟨v7, rfl, ho7, hb7⟩
                obtain ⟨A7, c7, rfl, hc7, hm7, _⟩ := own_shape ho7
                have L7 := Lib.hid (Lies.of_own ho7)
                have HT7 := Lib.hid (HT6.out.below hb7)
                have L67 := Lib.hid ((L6.out.below hb7).more hb7.size)
                have HSm := Lib.hid (sameE_yes (A := A7) (A2 := A5) (c := c7) (c2 := c5) L7.out L67.out (by omega))
                clear ho7 hb7 HF2
                go_wp2_with fail
                refine HSm.out.mono ?_
                rintro e w8 ⟨rfl, hb8⟩
                have HT8 := Lib.hid (HT7.out.below hb8)
                clear hb8
                go_wp2_with (first
                  | (go_at_call 25; refine (GL.out _ HT8.out).mono ?_; rintro e w9 ⟨rfl, rfl⟩)
                  | (go_at_call 24; refine (GB.out _ HT8.out).mono ?_; rintro e w9 ⟨rfl, rfl⟩))
                go_roundg (n - (k + 1))
                case measure => omega
                case rel => exact ⟨k + 1, S, by omega, by go_num, by rw [HN.out], by rw [HE.out], by rw [HN.out]; omega, by rw [HE.out]; omega, HT8.out⟩
              · have q1 : (cc : Int) < 1 := by omega
                have PT : Hid (Calls Try.prog 22 #[tp t, .agg #[.string x.m.k, .int .u64 (x.m.s : Int), .bool x.m.g, .string x.x], .int .i64 (cc : Int)] w5 fun e w' => e = .returned (.int .i64 1) ∧ Below w5.heap.size w5 w') := PT0
                clear PT0
                go_wp2_with fail
                refine PT.out.mono ?_
                rintro e w6 ⟨rfl, hb6⟩
                have HT6 := Lib.hid (HT5.out.below hb6)
                have L6 := Lib.hid ((L5.out.below hb6).more hb6.size)
                have hF2 := tb_from HT6.out noM 1000
                rw [fromE_none HT.out.fine (by rw [HN.out]; omega), noM_v, HN.out] at hF2
                have HF2 := Lib.hid hF2
                clear hF2 hb6 e0 e1 e2 e3
                go_wp2_with fail
                refine HF2.out.mono ?_
                rintro e w7 ⟨v7, rfl, ho7, hb7⟩
                obtain ⟨A7, c7, rfl, hc7, hm7, _⟩ := own_shape ho7
                have L7 := Lib.hid (Lies.of_own ho7)
                have HT7 := Lib.hid (HT6.out.below hb7)
                have L67 := Lib.hid ((L6.out.below hb7).more hb7.size)
                have HSm := Lib.hid (sameE_yes (A := A7) (A2 := A5) (c := c7) (c2 := c5) L7.out L67.out (by omega))
                clear ho7 hb7 HF2
                go_wp2_with fail
                refine HSm.out.mono ?_
                rintro e w8 ⟨rfl, hb8⟩
                have HT8 := Lib.hid (HT7.out.below hb8)
                clear hb8
                go_wp2_with (first
                  | (go_at_call 25; refine (GL.out _ HT8.out).mono ?_; rintro e w9 ⟨rfl, rfl⟩)
                  | (go_at_call 24; refine (GB.out _ HT8.out).mono ?_; rintro e w9 ⟨rfl, rfl⟩))
                go_roundg (n - (k + 1))
                case measure => omega
                case rel => exact ⟨k + 1, S, by omega, by go_num, by rw [HN.out], by rw [HE.out], by rw [HN.out]; omega, by rw [HE.out]; omega, HT8.out⟩
              · have q1 : ¬ (cc : Int) < 1 := by omega
                have q2 : (8 : Int) < (cc : Int) := by omega
                have PT : Hid (Calls Try.prog 22 #[tp t, .agg #[.string x.m.k, .int .u64 (x.m.s : Int), .bool x.m.g, .string x.x], .int .i64 (cc : Int)] w5 fun e w' => e = .returned (.int .i64 1) ∧ Below w5.heap.size w5 w') := PT0
                clear PT0
                go_wp2_with fail
                refine PT.out.mono ?_
                rintro e w6 ⟨rfl, hb6⟩
                have HT6 := Lib.hid (HT5.out.below hb6)
                have L6 := Lib.hid ((L5.out.below hb6).more hb6.size)
                have hF2 := tb_from HT6.out noM 1000
                rw [fromE_none HT.out.fine (by rw [HN.out]; omega), noM_v, HN.out] at hF2
                have HF2 := Lib.hid hF2
                clear hF2 hb6 e0 e1 e2 e3
                go_wp2_with fail
                refine HF2.out.mono ?_
                rintro e w7 ⟨v7, rfl, ho7, hb7⟩
                obtain ⟨A7, c7, rfl, hc7, hm7, _⟩ := own_shape ho7
                have L7 := Lib.hid (Lies.of_own ho7)
                have HT7 := Lib.hid (HT6.out.below hb7)
                have L67 := Lib.hid ((L6.out.below hb7).more hb7.size)
                have HSm := Lib.hid (sameE_yes (A := A7) (A2 := A5) (c := c7) (c2 := c5) L7.out L67.out (by omega))
                clear ho7 hb7 HF2
                go_wp2_with fail
                refine HSm.out.mono ?_
                rintro e w8 ⟨rfl, hb8⟩
                have HT8 := Lib.hid (HT7.out.below hb8)
                clear hb8
                go_wp2_with (first
                  | (go_at_call 25; refine (GL.out _ HT8.out).mono ?_; rintro e w9 ⟨rfl, rfl⟩)
                  | (go_at_call 24; refine (GB.out _ HT8.out).mono ?_; rintro e w9 ⟨rfl, rfl⟩))
                go_roundg (n - (k + 1))
                case measure => omega
                case rel => exact ⟨k + 1, S, by omega, by go_num, by rw [HN.out], by rw [HE.out], by rw [HN.out]; omega, by rw [HE.out]; omega, HT8.out⟩
        · obtain rfl : k = n := by omega
          have k1 : ¬ (k : Int) < (k : Int) := by omega
          have HLW := Lib.hid hT.low
          clear hT
          go_wp2_with fail
          go_ret
          exact ⟨rfl, HLW.out⟩
  · go_wp2_with fail
    refine HAL.out.mono ?_
    rintro e w3 ⟨rfl, hb3⟩
    have HF := Lib.hid hb3; clear hb3
    go_wp2_with fail
    go_ret
    exact ⟨rfl, HF.out⟩
end Go.Proofs.Ytopcnlophmplgaa
