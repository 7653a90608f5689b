/-
  The walk of EditsBoth.
-/
import Derived.Test.YtbnndajpjhgafaaEdZ
namespace Go.Proofs.Ytbnndajpjhgafaa
open Go.RowKit
set_option linter.unusedVariables false
set_option maxRecDepth 100000

set_option maxHeartbeats 4000000 in
theorem editsBoth_walk (A : Option Addr) (n c : Nat) (l : List Fi) (A1 : Option Addr) (n1 c1 : Nat) (A2 : Option Addr) (n2 c2 : Nat) (x : Edt) (Q1 : Option Addr) (m1 d1 : Nat) (Q2 : Option Addr) (m2 d2 : Nat) (y : Edt) (W : World)
    (hl : Lies W W.heap.size 4 A n (fcs l)) (hsl : ∀ f ∈ l, szFi f) (hnc : n ≤ c) (hc : c ≤ 140737488351232)
    (ha : Lies W W.heap.size 4 A1 n1 (fcs x.add)) (hr : Lies W W.heap.size 1 A2 n2 (kvs x.rem)) (hsa : ∀ f ∈ x.add, szFi f) (hsx : SzEd x) (hc1 : n1 ≤ c1 ∧ c1 ≤ 140737488351232) (hc2 : n2 ≤ c2 ∧ c2 ≤ 140737488351232)
    (ha' : Lies W W.heap.size 4 Q1 m1 (fcs y.add)) (hr' : Lies W W.heap.size 1 Q2 m2 (kvs y.rem)) (hsa' : ∀ f ∈ y.add, szFi f) (hsx' : SzEd y) (hc1' : m1 ≤ d1 ∧ d1 ≤ 140737488351232) (hc2' : m2 ≤ d2 ∧ d2 ≤ 140737488351232) :
    Calls Try.prog 9 #[.slice A n c, edV A1 n1 c1 A2 n2 c2 x, edV Q1 m1 d1 Q2 m2 d2 y] W fun e W' => e = .returned (.bool true) ∧ Below W.heap.size W W' := by
  have X0 : EdArg W A n l A1 n1 A2 n2 x := ⟨hl, ha, hr, hsl, hsa, hsx⟩
  have Y0 : EdArg W A n l Q1 m1 Q2 m2 y := ⟨hl, ha', hr', hsl, hsa', hsx'⟩
  obtain ⟨hE, b1⟩ := ed_lieY W A1 n1 c1 A2 n2 c2 x.jn x.nx x.sq
  obtain ⟨w1, hW1⟩ : ∃ w1, edW W A1 n1 c1 A2 n2 c2 x.jn x.nx x.sq = w1 := ⟨_, rfl⟩
  have hz1 : w1.heap.size = W.heap.size + 1 := by rw [← hW1]; simp
  rw [hW1] at hE b1
  obtain ⟨hF, b2⟩ := ed_lieY w1 Q1 m1 d1 Q2 m2 d2 y.jn y.nx y.sq
  obtain ⟨w2, hW2⟩ : ∃ w2, edW w1 Q1 m1 d1 Q2 m2 d2 y.jn y.nx y.sq = w2 := ⟨_, rfl⟩
  rw [hW2] at hF b2
  rw [hz1] at hF
  have HE := Lib.hid (hE.below b2 hE.lt); have HF := Lib.hid hF
  have HB := Lib.hid (be_trans b1 b2)
  have HX := Lib.hid (X0.up (be_trans b1 b2)); have HY := Lib.hid (Y0.up (be_trans b1 b2))
  clear X0 Y0 hl ha hr hsl hsa hsx ha' hr' hsa' hsx' hE b1 hF b2
  unfold edV
  go_enter Try.func9, Try.ntmps9
  go_wp2_with fail
  clear hW1 hW2 hz1
  obtain ⟨g, hg⟩ : ∃ g, W.heap.size = g := ⟨_, rfl⟩
  rw [hg] at HE HF ⊢
  obtain ⟨g2, hg2⟩ : ∃ g2, g + 1 = g2 := ⟨_, rfl⟩
  rw [hg2] at HF ⊢
  have HG := Lib.hid (show _ ∧ _ from ⟨hg, hg2⟩)
  clear hg hg2
  -- what stands at a later world
  have HUp : Hid (∀ w', Below w2.heap.size w2 w' → Below W.heap.size W w' ∧ EtAt w' g A1 n1 c1 A2 n2 c2 x.jn x.nx x.sq ∧ EtAt w' g2 Q1 m1 d1 Q2 m2 d2 y.jn y.nx y.sq ∧ EdArg w' A n l A1 n1 A2 n2 x ∧ EdArg w' A n l Q1 m1 Q2 m2 y) := fun w' hb =>
    ⟨be_trans HB.out hb, HE.out.below hb HE.out.lt, HF.out.below hb HF.out.lt, HX.out.up hb, HY.out.up hb⟩
  clear HE HF HX HY HB
  with_reducible refine Calls.mono (alive11_any w2) ?_
  rintro e w3 ⟨rfl, hb3⟩
  have H3 := Lib.hid hb3
  obtain ⟨_, a2, a3, a4, a5⟩ := HUp.out _ hb3
  obtain ⟨k0, k1, k2, k3, k4⟩ := a2.cells
  have HGr := Lib.hid (great11_any (c := c) (c1 := c1) (c2 := c2) (j := x.jn) (x := x.nx) (s := x.sq) (P2 := A2) a4.hl a4.sl a4.ha a4.sa (by omega) (by omega) (by omega : n2 ≤ 140737488351232))
  clear hb3 a2 a3 a4 a5
  go_wp2_with fail
  with_reducible refine Calls.mono HGr.out ?_
  rintro e w4 ⟨b, rfl, hbf, hb4⟩
  have H4 := Lib.hid (be_trans H3.out hb4); have HX300 := Lib.hid hbf
  clear hb4 hbf HGr k0 k1 k2 k3 k4 H3
  cases b with
  | true =>
    go_wp2_with fail
    with_reducible refine Calls.mono (alive11_any w4) ?_
    rintro e w5 ⟨rfl, hb5⟩
    have HF := Lib.hid (HUp.out _ (be_trans H4.out hb5)).1
    clear hb5
    go_wp2
    go_ret
    exact ⟨rfl, HF.out⟩
  | false =>
    have hn300 : n + n1 + n2 ≤ 300 := HX300.out rfl
    obtain ⟨_, a2, a3, a4, a5⟩ := HUp.out _ H4.out
    obtain ⟨k0, k1, k2, k3, k4⟩ := a3.cells
    have HGr := Lib.hid (great11_any (n := 0) (c := 0) (P := none) (l := []) (c1 := d1) (c2 := d2) (j := y.jn) (x := y.nx) (s := y.sq) (P2 := Q2) (Lies.none_ _ _ _ _) (fun f hf => by cases hf) a5.ha a5.sa (by omega) (by omega) (by omega : m2 ≤ 140737488351232))
    clear a2 a3 a4 a5
    go_wp2_with fail
    with_reducible refine Calls.mono HGr.out ?_
    rintro e w5 ⟨b, rfl, hbf, hb5⟩
    have H5 := Lib.hid (be_trans H4.out hb5); have HY300 := Lib.hid hbf
    clear hb5 hbf HGr k0 k1 k2 k3 k4 H4
    cases b with
    | true =>
      go_wp2_with fail
      with_reducible refine Calls.mono (alive11_any w5) ?_
      rintro e w6 ⟨rfl, hb6⟩
      have HF := Lib.hid (HUp.out _ (be_trans H5.out hb6)).1
      clear hb6
      go_wp2
      go_ret
      exact ⟨rfl, HF.out⟩
    | false =>
      have hm300 : 0 + m1 + m2 ≤ 300 := HY300.out rfl
      obtain ⟨_, a2, a3, a4, a5⟩ := HUp.out _ H5.out
      obtain ⟨k0, k1, k2, k3, k4⟩ := a2.cells
      obtain ⟨y0, y1, y2, y3, y4⟩ := a3.cells
      have HM := Lib.hid (meet_any (c1 := c1) (c2 := c2) (d1 := d1) (d2 := d2) x y a4.ha a4.hr a5.ha a5.hr a4.sx a5.sx (by omega) (by omega))
      clear a2 a3 a4 a5
      go_wp2_with fail
      with_reducible refine Calls.mono HM.out ?_
      rintro e w6 ⟨b, rfl, hbf, hb6⟩
      have H6 := Lib.hid (be_trans H5.out hb6); have HXY := Lib.hid hbf
      clear hb6 hbf HM k0 k1 k2 k3 k4 y0 y1 y2 y3 y4 H5
      cases b with
      | true =>
        go_wp2_with fail
        with_reducible refine Calls.mono (alive11_any w6) ?_
        rintro e w7 ⟨rfl, hb7⟩
        have HF := Lib.hid (HUp.out _ (be_trans H6.out hb7)).1
        clear hb7
        go_wp2
        go_ret
        exact ⟨rfl, HF.out⟩
      | false =>
        have HDj : Hid (∀ k ∈ numE x, k ∉ numE y) := HXY.out rfl
        obtain ⟨_, a2, a3, a4, a5⟩ := HUp.out _ H6.out
        obtain ⟨k0, k1, k2, k3, k4⟩ := a2.cells
        have HDa := Lib.hid (doU_any (c1 := c) (c2 := c1) (c3 := c2) a4.hl a4.ha a4.hr a4.sl a4.sa a4.sx.rem (by omega) x.jn x.nx x.sq)
        clear a2 a3 a4 a5 HXY
        go_wp2_with fail
        with_reducible refine Calls.mono HDa.out ?_
        rintro e w7 ⟨A7, n7, c7, L7, v7, rfl, hb7, hl7, hn7, hm7, hu7, hs7, hc7⟩
        have H7 := Lib.hid (be_trans H6.out hb7)
        have HL7 := Lib.hid hl7; have HS7 := Lib.hid hs7; have HC7 := Lib.hid hc7
        obtain ⟨_, a2, a3, a4, a5⟩ := HUp.out _ H7.out
        clear k0 k1 k2 k3 k4
        obtain ⟨k0, k1, k2, k3, k4⟩ := a3.cells
        have HDb := Lib.hid (doU_any (c1 := c) (c2 := d1) (c3 := d2) a5.hl a5.ha a5.hr a5.sl a5.sa a5.sx.rem (by omega) y.jn y.nx y.sq)
        clear hb7 hl7 hn7 hu7 hs7 hc7 HDa a2 a3 a4 a5 H6
        go_wp2_with fail
        with_reducible refine Calls.mono HDb.out ?_
        rintro e w8 ⟨A8, n8, c8, L8, v8, rfl, hb8, hl8, hn8, hm8, hu8, hs8, hc8⟩
        have H8 := Lib.hid (be_trans H7.out hb8)
        have HL78 := Lib.hid (up_lies HL7.out hb8); have HL8 := Lib.hid hl8; have HS8 := Lib.hid hs8
        clear k0 k1 k2 k3 k4
        rcases hc8 with ⟨rfl, hok8, hp8⟩ | ⟨rfl, _, _⟩
        case inr =>
          have HFn := Lib.hid (HUp.out _ H8.out).1
          clear hb8 hl8 hn8 hu8 hs8 HDb
          rcases HC7.out with ⟨rfl, _, _⟩ | ⟨rfl, _, _⟩
          · go_wp2
            go_ret
            exact ⟨rfl, HFn.out⟩
          · go_wp2
            go_ret
            exact ⟨rfl, HFn.out⟩
        have HO8 := Lib.hid hok8; have HP8 := Lib.hid hp8
        rcases HC7.out with ⟨rfl, hok7, hp7⟩ | ⟨rfl, _, _⟩
        case inr =>
          have HFn := Lib.hid (HUp.out _ H8.out).1
          clear hb8 hl8 hn8 hu8 hs8 HDb hok8 hp8
          go_wp2
          go_ret
          exact ⟨rfl, HFn.out⟩
        have HO7 := Lib.hid hok7; have HP7 := Lib.hid hp7
        obtain ⟨_, a2, a3, a4, a5⟩ := HUp.out _ H8.out
        obtain ⟨k0, k1, k2, k3, k4⟩ := a3.cells
        have HDc := Lib.hid (doU_any (c1 := c7) (c2 := d1) (c3 := d2) HL78.out a5.ha a5.hr HS7.out a5.sa a5.sx.rem (by omega) y.jn y.nx y.sq)
        clear hb8 hl8 hn8 hu8 hs8 HDb hok8 hp8 hok7 hp7 a2 a3 a4 a5 H7 HC7 HL7
        go_wp2_with fail
        with_reducible refine Calls.mono HDc.out ?_
        rintro e w9 ⟨A9, n9, c9, L9, v9, rfl, hb9, hl9, hn9, hm9, hu9, hs9, hc9⟩
        have H9 := Lib.hid (be_trans H8.out hb9)
        have HL89 := Lib.hid (up_lies HL8.out hb9); have HL9 := Lib.hid hl9; have HU9 := Lib.hid hu9; have HN9 := Lib.hid hn9
        have HV9 : Hid (v9 = 0 ∧ L9.Perm (left L7 y.rem ++ y.add)) := by
          rcases hc9 with ⟨q1, _, q3⟩ | ⟨_, q2, _⟩
          · exact ⟨q1, q3⟩
          · exact (q2 (both_ok HO7.out HO8.out HDj.out HP7.out)).elim
        obtain ⟨_, a2, a3, a4, a5⟩ := HUp.out _ H9.out
        clear k0 k1 k2 k3 k4
        obtain ⟨k0, k1, k2, k3, k4⟩ := a2.cells
        have HDd := Lib.hid (doU_any (c1 := c8) (c2 := c1) (c3 := c2) HL89.out a4.ha a4.hr HS8.out a4.sa a4.sx.rem (by omega) x.jn x.nx x.sq)
        clear hb9 hl9 hn9 hu9 hs9 hc9 HDc a2 a3 a4 a5 H8 HL8 HL78
        go_wp2_with fail
        with_reducible refine Calls.mono HDd.out ?_
        rintro e w10 ⟨A10, n10, c10, L10, v10, rfl, hb10, hl10, hn10, hm10, hu10, hs10, hc10⟩
        have H10 := Lib.hid (be_trans H9.out hb10)
        have HL910 := Lib.hid (up_lies HL9.out hb10)
        have HV10 : Hid (v10 = 0 ∧ L10 = L9) := by
          rcases hc10 with ⟨q1, _, q3⟩ | ⟨_, q2, _⟩
          · exact ⟨q1, up_one hu10 HU9.out (q3.trans ((both_perm HDj.out HP7.out HP8.out).symm.trans HV9.out.2.symm))⟩
          · exact (q2 (both_ok HO8.out HO7.out (fun k hk h => HDj.out k h hk) HP8.out)).elim
        obtain ⟨rfl, hL⟩ := HV10.out
        obtain ⟨rfl, _⟩ := HV9.out
        have hn910 : n9 = n10 := by rw [← HN9.out, ← hn10, hL]
        subst hn910 hL
        have HSm := Lib.hid (sameF_yes (c := c9) (c2 := c10) HL910.out hl10 (by omega))
        clear k0 k1 k2 k3 k4 hb10 hl10 hn10 hu10 hs10 hc10 HDd
        go_wp2_with fail
        with_reducible refine Calls.mono HSm.out ?_
        rintro e w11 ⟨rfl, hb11⟩
        have HFn := Lib.hid (HUp.out _ (be_trans H10.out hb11)).1
        clear hb11 HSm
        go_wp2
        go_ret
        exact ⟨rfl, HFn.out⟩
end Go.Proofs.Ytbnndajpjhgafaa
