/-
  The walk of EditsParts.
-/
import Derived.Test.YtbnndajpjhgafaaEdTw
import Derived.Test.YtbnndajpjhgafaaEdY
namespace Go.Proofs.Ytbnndajpjhgafaa
open Go.RowKit
set_option linter.unusedVariables false
set_option maxRecDepth 100000

set_option maxHeartbeats 4000000 in
theorem editsParts_walk (A : Option Addr) (n c : Nat) (l : List Fi) (A1 : Option Addr) (n1 c1 : Nat) (A2 : Option Addr) (n2 c2 : Nat) (x : Edt) (Q1 : Option Addr) (m1 d1 : Nat) (Q2 : Option Addr) (m2 d2 : Nat) (y : Edt) (W : World)
    (hl : Lies W W.heap.size 4 A n (fcs l)) (hsl : ∀ f ∈ l, szFi f) (hnc : n ≤ c) (hc : c ≤ 140737488351232)
    (ha : Lies W W.heap.size 4 A1 n1 (fcs x.add)) (hr : Lies W W.heap.size 1 A2 n2 (kvs x.rem)) (hsa : ∀ f ∈ x.add, szFi f) (hsx : SzEd x) (hc1 : n1 ≤ c1 ∧ c1 ≤ 140737488351232) (hc2 : n2 ≤ c2 ∧ c2 ≤ 140737488351232)
    (ha' : Lies W W.heap.size 4 Q1 m1 (fcs y.add)) (hr' : Lies W W.heap.size 1 Q2 m2 (kvs y.rem)) (hsa' : ∀ f ∈ y.add, szFi f) (hsx' : SzEd y) (hc1' : m1 ≤ d1 ∧ d1 ≤ 140737488351232) (hc2' : m2 ≤ d2 ∧ d2 ≤ 140737488351232) :
    Calls Try.prog 6 #[.slice A n c, edV A1 n1 c1 A2 n2 c2 x, edV Q1 m1 d1 Q2 m2 d2 y] W fun e W' => e = .returned (.bool true) ∧ Below W.heap.size W W' := by
  have X0 : EdArg W A n l A1 n1 A2 n2 x := ⟨hl, ha, hr, hsl, hsa, hsx⟩
  have Y0 : EdArg W A n l Q1 m1 Q2 m2 y := ⟨hl, ha', hr', hsl, hsa', hsx'⟩
  obtain ⟨hE, b1⟩ := ed_lieY W A1 n1 c1 A2 n2 c2 x.jn x.nx x.sq
  obtain ⟨w1, hW1⟩ : ∃ w1, edW W A1 n1 c1 A2 n2 c2 x.jn x.nx x.sq = w1 := ⟨_, rfl⟩
  have hz1 : w1.heap.size = W.heap.size + 1 := by rw [← hW1]; simp
  rw [hW1] at hE b1
  obtain ⟨hF, b2⟩ := ed_lieY w1 Q1 m1 d1 Q2 m2 d2 y.jn y.nx y.sq
  obtain ⟨w2, hW2⟩ : ∃ w2, edW w1 Q1 m1 d1 Q2 m2 d2 y.jn y.nx y.sq = w2 := ⟨_, rfl⟩
  rw [hW2] at hF b2
  rw [hz1] at hF
  have HE := Lib.hid (hE.below b2 hE.lt); have HF := Lib.hid hF
  have HB := Lib.hid (be_trans b1 b2)
  have HX := Lib.hid (X0.up (be_trans b1 b2)); have HY := Lib.hid (Y0.up (be_trans b1 b2))
  clear X0 Y0 hl ha hr hsl hsa hsx ha' hr' hsa' hsx' hE b1 hF b2
  unfold edV
  go_enter Try.func6, Try.ntmps6
  go_wp2_with fail
  clear hW1 hW2 hz1
  obtain ⟨g, hg⟩ : ∃ g, W.heap.size = g := ⟨_, rfl⟩
  rw [hg] at HE HF ⊢
  obtain ⟨g2, hg2⟩ : ∃ g2, g + 1 = g2 := ⟨_, rfl⟩
  rw [hg2] at HF ⊢
  have HG := Lib.hid (show _ ∧ _ from ⟨hg, hg2⟩)
  clear hg hg2
  -- what stands at a later world
  have HUp : Hid (∀ w', Below w2.heap.size w2 w' → Below W.heap.size W w' ∧ EtAt w' g A1 n1 c1 A2 n2 c2 x.jn x.nx x.sq ∧ EtAt w' g2 Q1 m1 d1 Q2 m2 d2 y.jn y.nx y.sq ∧ EdArg w' A n l A1 n1 A2 n2 x ∧ EdArg w' A n l Q1 m1 Q2 m2 y) := fun w' hb =>
    ⟨be_trans HB.out hb, HE.out.below hb HE.out.lt, HF.out.below hb HF.out.lt, HX.out.up hb, HY.out.up hb⟩
  clear HE HF HX HY HB
  with_reducible refine Calls.mono (alive11_any w2) ?_
  rintro e w3 ⟨rfl, hb3⟩
  have H3 := Lib.hid hb3
  obtain ⟨_, a2, a3, a4, a5⟩ := HUp.out _ hb3
  obtain ⟨k0, k1, k2, k3, k4⟩ := a2.cells
  have HGr := Lib.hid (great11_any (c := c) (c1 := c1) (c2 := c2) (j := x.jn) (x := x.nx) (s := x.sq) (P2 := A2) a4.hl a4.sl a4.ha a4.sa (by omega) (by omega) (by omega : n2 ≤ 140737488351232))
  clear hb3 a2 a3 a4 a5
  go_wp2_with fail
  with_reducible refine Calls.mono HGr.out ?_
  rintro e w4 ⟨b, rfl, hbf, hb4⟩
  have H4 := Lib.hid (be_trans H3.out hb4); have HX300 := Lib.hid hbf
  clear hb4 hbf HGr k0 k1 k2 k3 k4 H3
  cases b with
  | true =>
    go_wp2_with fail
    with_reducible refine Calls.mono (alive11_any w4) ?_
    rintro e w5 ⟨rfl, hb5⟩
    have HF := Lib.hid (HUp.out _ (be_trans H4.out hb5)).1
    clear hb5
    go_wp2
    go_ret
    exact ⟨rfl, HF.out⟩
  | false =>
    have hn300 : n + n1 + n2 ≤ 300 := HX300.out rfl
    obtain ⟨_, a2, a3, a4, a5⟩ := HUp.out _ H4.out
    obtain ⟨k0, k1, k2, k3, k4⟩ := a3.cells
    have HGr := Lib.hid (great11_any (n := 0) (c := 0) (P := none) (l := []) (c1 := d1) (c2 := d2) (j := y.jn) (x := y.nx) (s := y.sq) (P2 := Q2) (Lies.none_ _ _ _ _) (fun f hf => by cases hf) a5.ha a5.sa (by omega) (by omega) (by omega : m2 ≤ 140737488351232))
    clear a2 a3 a4 a5
    go_wp2_with fail
    with_reducible refine Calls.mono HGr.out ?_
    rintro e w5 ⟨b, rfl, hbf, hb5⟩
    have H5 := Lib.hid (be_trans H4.out hb5); have HY300 := Lib.hid hbf
    clear hb5 hbf HGr k0 k1 k2 k3 k4 H4
    cases b with
    | true =>
      go_wp2_with fail
      with_reducible refine Calls.mono (alive11_any w5) ?_
      rintro e w6 ⟨rfl, hb6⟩
      have HF := Lib.hid (HUp.out _ (be_trans H5.out hb6)).1
      clear hb6
      go_wp2
      go_ret
      exact ⟨rfl, HF.out⟩
    | false =>
      have hm300 : 0 + m1 + m2 ≤ 300 := HY300.out rfl
      obtain ⟨_, a2, a3, a4, a5⟩ := HUp.out _ H5.out
      obtain ⟨k0, k1, k2, k3, k4⟩ := a2.cells
      have HDa := Lib.hid (doU_any (c1 := c) (c2 := c1) (c3 := c2) a4.hl a4.ha a4.hr a4.sl a4.sa a4.sx.rem (by omega) x.jn x.nx x.sq)
      clear a2 a3 a4 a5
      go_wp2_with fail
      with_reducible refine Calls.mono HDa.out ?_
      rintro e w6 ⟨A6, n6, c6, L6, v6, rfl, hb6, hl6, hn6, hm6, hu6, hs6, hc6⟩
      have H6 := Lib.hid (be_trans H5.out hb6)
      have HL6 := Lib.hid hl6; have HS6 := Lib.hid hs6; have HC6 := Lib.hid hc6; have HU6 := Lib.hid hu6; have HN6 := Lib.hid hn6
      obtain ⟨_, a2, a3, a4, a5⟩ := HUp.out _ H6.out
      clear k0 k1 k2 k3 k4
      obtain ⟨k0, k1, k2, k3, k4⟩ := a3.cells
      have HDb := Lib.hid (doU_any (c1 := c6) (c2 := d1) (c3 := d2) hl6 a5.ha a5.hr hs6 a5.sa a5.sx.rem (by omega) y.jn y.nx y.sq)
      clear hb6 hl6 hn6 hu6 hs6 hc6 HDa a2 a3 a4 a5 H5
      go_wp2_with fail
      with_reducible refine Calls.mono HDb.out ?_
      rintro e w7 ⟨A7, n7, c7, L7, v7, rfl, hb7, hl7, hn7, hm7, hu7, hs7, hc7⟩
      have H7 := Lib.hid (be_trans H6.out hb7)
      have HL67 := Lib.hid (up_lies HL6.out hb7); have HL7 := Lib.hid hl7; have HC7 := Lib.hid hc7; have HN7 := Lib.hid hn7
      obtain ⟨_, a2, a3, a4, a5⟩ := HUp.out _ H7.out
      clear k0 k1 k2 k3 k4
      obtain ⟨k0, k1, k2, k3, k4⟩ := a2.cells
      have hba := (ed_lieY w7 A1 n1 c1 A2 n2 c2 0 0 0).2
      have H7a := Lib.hid (be_trans H7.out hba)
      have HL67a := Lib.hid (up_lies HL67.out hba); have HL7a := Lib.hid (up_lies HL7.out hba)
      have a4' := a4.up hba
      have HDc := Lib.hid (doU_any (c1 := c) (c2 := c1) (c3 := c2) a4'.hl a4'.ha a4'.hr a4'.sl a4'.sa a4'.sx.rem (by omega) 0 0 0)
      clear hb7 hl7 hn7 hu7 hs7 hc7 HDb a2 a3 a4 a5 a4' hba H6 HL6 HL67 HL7 H7
      go_wp2_with fail
      refine Calls.mono HDc.out ?_
      rintro e w8 ⟨A8, n8, c8, L8, v8, rfl, hb8, hl8, hn8, hm8, hu8, hs8, hc8⟩
      have H8 := Lib.hid (be_trans H7a.out hb8)
      have HL68 := Lib.hid (up_lies HL67a.out hb8); have HL78 := Lib.hid (up_lies HL7a.out hb8)
      have HV : Hid (v8 = v6 ∧ L8 = L6) := by
        rcases hc8 with ⟨q1, q2, q3⟩ | ⟨q1, q2, q3⟩
        · rcases HC6.out with ⟨r1, _, r3⟩ | ⟨_, r2, _⟩
          · exact ⟨by rw [q1, r1], up_one hu8 HU6.out (q3.trans r3.symm)⟩
          · exact (r2 q2).elim
        · rcases HC6.out with ⟨_, r2, _⟩ | ⟨r1, _, r3⟩
          · exact (q2 r2).elim
          · exact ⟨by rw [q1, r1], by rw [q3, r3]⟩
      obtain ⟨hv, hL⟩ := HV.out
      subst hv
      have hn68 : n6 = n8 := by rw [← HN6.out, ← hn8, hL]
      subst hn68 hL
      have HSm := Lib.hid (sameF_yes (c := c6) (c2 := c8) HL68.out hl8 (by omega))
      clear k0 k1 k2 k3 k4 hb8 hl8 hn8 hu8 hs8 hc8 HDc H7a HL67a HL7a HV
      have HSp : Hid (v8 = 0 ∨ v8 = 1) := by
        rcases HC6.out with ⟨r1, _⟩ | ⟨r1, _⟩
        · exact .inl r1
        · exact .inr r1
      have hvv : (v8 == v8) = true := by simp
      rcases HSp.out with rfl | rfl
      case inr =>
        go_wp2_with fail
        with_reducible refine Calls.mono HSm.out ?_
        rintro e w9 ⟨rfl, hb9⟩
        have HFn := Lib.hid (HUp.out _ (be_trans H8.out hb9)).1
        clear hb9 HSm hvv
        go_wp2
        go_ret
        exact ⟨rfl, HFn.out⟩
      case inl =>
        go_wp2_with fail
        with_reducible refine Calls.mono HSm.out ?_
        rintro e w9 ⟨rfl, hb9⟩
        have H9 := Lib.hid (be_trans H8.out hb9)
        have HL69 := Lib.hid (up_lies HL68.out hb9); have HL79 := Lib.hid (up_lies HL78.out hb9)
        clear hb9 HSm hvv H8 HL68 HL78
        rcases HC7.out with ⟨rfl, hok7, hp7⟩ | ⟨rfl, _, _⟩
        case inr =>
          have HFn := Lib.hid (HUp.out _ H9.out).1
          go_wp2
          go_ret
          exact ⟨rfl, HFn.out⟩
        case inl =>
          have HP7 := Lib.hid hp7; have HO7 := Lib.hid hok7
          have HLen : Hid ((left L8 y.rem).length + m2 = n6 ∧ n7 = (left L8 y.rem).length + m1) := by
            obtain ⟨_, _, _, _, a5⟩ := HUp.out _ H9.out
            have h1 := left_len (a := L8) HO7.out.1.2 HO7.out.2.1
            have h2 := HP7.out.length_eq
            rw [List.length_append, HN7.out, a5.ha.flen] at h2
            rw [HN6.out, a5.hr.klen] at h1
            exact ⟨h1, h2⟩
          have hQ := Lib.hid (HUp.out _ H9.out).2.2.2.2.ha
          have KE : Hid (∀ W', Below w9.heap.size w9 W' → W'.cell? ⟨g2, 0, none⟩ = some (.slice Q1 m1 d1)) := fun W' hb => (HUp.out _ (be_trans H9.out hb)).2.2.1.cells.1
          have E0 : Below w9.heap.size w9 w9.drew := (Below.refl _ _).drew
          have HTw := Lib.hid (twinF_own A6 n6 c6 L8 w9.drew (up_lies HL69.out E0) (by omega))
          obtain ⟨i0, hi, hz0, hz1, hz2⟩ := info_parts file_info
          clear hok7 hp7
          go_wp2_with fail
          go_region_held3 (fun W' => W'.cell? ⟨g2, 0, none⟩ = some (.slice Q1 m1 d1))
            (first | exact KE.out _ E0 | exact KE.out _ B10 | exact KE.out _ B11 | fail)
            (first
            | (go_at_call 21; (with_reducible refine Calls.mono HTw.out ?_); rintro e w10 ⟨g10, c10, rfl, q1, q2, o10, hb10⟩; have B10 := be_trans E0 hb10)
            | (refine step_app _ (by rfl) (.tmp 68) (.tmp 70) 22 (by rfl) w9.heap.size 33 i0 _ 4 48 Try.underlying22 hi hz0 hz1 hz2 rfl (by decide) (.slice (some ⟨g10, 0, none⟩) n6 c10) n6 (fcs L8) (by rfl) o10 w10.heap.size Q1 m1 d1 (fcs y.add) (by rfl) (up_lies hQ.out B10) (fcs_one _) (by unfold maxLen; omega) (by omega) B10.size ?_; intro v11 w11 o11 hg11 _; obtain ⟨A11, c11, rfl, q11, q12, _⟩ := own_shape o11; have B11 := B10.grown hg11 B10.size (fun k hk => (o10.lt k hk).1))
            | fail)
          have H11 := Lib.hid (be_trans H9.out B11)
          have HAll := Lib.hid (show Lies w11 w11.heap.size 4 A11 (n6 + m1) (fcs (L8 ++ y.add)) from by rw [fcs_app]; exact own_lies o11)
          have HL7b := Lib.hid (up_lies HL79.out B11)
          have HCn : Hid (n7 ≤ cnt L7 (L8 ++ y.add)) := by unfold Hid; rw [← HN7.out]; exact cnt_all HP7.out
          obtain ⟨N, hN⟩ : ∃ N, n6 + m1 = N := ⟨_, rfl⟩
          obtain ⟨M, hM⟩ : ∃ M, L8 ++ y.add = M := ⟨_, rfl⟩
          rw [hN, hM] at HAll
          rw [hM] at HCn
          rw [hN]
          have HNn := Lib.hid hN
          have hNb : N ≤ 10000 := by omega
          have HIN : Hid (∀ (f : Fi) (w' : World), Below w11.heap.size w11 w' → Calls Try.prog 19 #[.slice A7 n7 c7, .agg #[.int .u32 (f.num : Int), .int .i64 f.lv, .string f.a, .string f.z]] w' fun e w'' => ∃ b, e = .returned (.bool b) ∧ (b = true ↔ f ∈ L7) ∧ Below w11.heap.size w11 w'') := fun f w' hb =>
            (in11_any f (up_lies HL7b.out hb) (by omega)).mono fun e w'' ⟨b, he, hbt, hb2⟩ => ⟨b, he, hbt, be_trans hb hb2⟩
          clear E0 B10 B11 hb10 o10 o11 hg11 KE HTw hN hM hi hz0 hz1 hz2 HL79 HL69 q1 q2 q11 q12
          go_wp2_with fail
          go_loopw [15, 16] (fun t i wr => ∃ k : Nat, k ≤ N ∧ i = .int .i64 (k : Int) ∧ t = .int .i64 ((cnt L7 (M.take k) : Nat) : Int) ∧ Below w11.heap.size w11 wr) (fun _ i _ => N - (intOf i).toNat)
          case atStart => exact ⟨0, Nat.zero_le _, rfl, rfl, Below.refl _ _⟩
          case round =>
            obtain ⟨k, hk, rfl, rfl, hb⟩ := hrel
            have hcl := cnt_le L7 M k
            obtain ⟨s, hs⟩ : ∃ s, cnt L7 (M.take k) = s := ⟨_, rfl⟩
            rw [hs] at hcl ⊢
            have HS := Lib.hid hs
            have HBw := Lib.hid hb
            by_cases hlt : k < N
            · obtain ⟨b5, o5, f, rfl, _, hf, e0, e1, e2, e3⟩ := (up_lies HAll.out hb).file hlt
              have HF := Lib.hid hf
              have HI := Lib.hid (HIN.out f wr hb)
              have hj0 : (0 : Int) ≤ (k : Int) := by omega
              have hj1 : (k : Int) < (N : Int) := by omega
              clear hf hb hs
              go_wp2_with fail
              with_reducible refine Calls.mono HI.out ?_
              rintro e w12 ⟨b, rfl, hbt, hb12⟩
              have HSt := Lib.hid (cnt_step (L := L7) HF.out b hbt)
              have HB12 := Lib.hid hb12
              clear hbt hb12 HI
              cases b with
              | true =>
                go_wp2
                go_roundw
                case rel => exact ⟨k + 1, hlt, by go_num, by rw [HSt.out, HS.out]; simp, HB12.out⟩
                case measure => simp [intOf]; omega
              | false =>
                go_wp2
                go_roundw
                case rel => exact ⟨k + 1, hlt, by go_num, by rw [HSt.out, HS.out]; simp, HB12.out⟩
                case measure => simp [intOf]; omega
            · have hnl : ¬ ((k : Int) < (N : Int)) := by omega
              have hge : n7 ≤ s := by
                have h1 := HCn.out
                rw [← hs, List.take_of_length_le (by have := HAll.out.flen; omega)]
                exact h1
              have hge2 : ((n7 : Int) ≤ (s : Int)) := by omega
              obtain ⟨_, _, a3, _, _⟩ := HUp.out _ (be_trans H11.out hb)
              obtain ⟨k0, k1, k2, k3, k4⟩ := a3.cells
              obtain ⟨hA, hBn⟩ := HLen.out
              have wA : IntKind.i64.wrap ((n6 : Int) + (m1 : Int)) = (n6 : Int) + (m1 : Int) := by rw [IntWalk.i64_in] <;> omega
              have wB : IntKind.i64.wrap ((n6 : Int) + (m1 : Int) - (m2 : Int)) = (n6 : Int) + (m1 : Int) - (m2 : Int) := by rw [IntWalk.i64_in] <;> omega
              have he : ((n7 : Int) == (n6 : Int) + (m1 : Int) - (m2 : Int)) = true := by rw [beq_iff_eq]; omega
              have HFn := Lib.hid (HUp.out _ (be_trans H11.out hb)).1
              clear hb hs a3 hA hBn
              go_wp2
              go_ret
              exact ⟨rfl, HFn.out⟩
end Go.Proofs.Ytbnndajpjhgafaa
