/-
  The walk of EditsAlike.
-/
import Derived.Test.YtnnocjnmfabnaaaEdAl
namespace Go.Proofs.Ytnnocjnmfabnaaa
open Go.RowKit
set_option linter.unusedVariables false
set_option maxRecDepth 100000

set_option maxHeartbeats 16000000 in
theorem editsAlike_walk (A : Option Addr) (n c : Nat) (l : List Fi) (A1 : Option Addr) (n1 c1 : Nat) (A2 : Option Addr) (n2 c2 : Nat) (x : Edt) (m : Nat) (W : World) (hl : Lies W W.heap.size 4 A n (fcs l)) (hsl : ∀ f ∈ l, szFi f) (hnc : n ≤ c) (hc : c ≤ 140737488351232)
    (ha : Lies W W.heap.size 4 A1 n1 (fcs x.add)) (hr : Lies W W.heap.size 1 A2 n2 (kvs x.rem)) (hsa : ∀ f ∈ x.add, szFi f) (hsx : SzEd x) (hc1 : n1 ≤ c1 ∧ c1 ≤ 140737488351232) (hc2 : n2 ≤ c2 ∧ c2 ≤ 140737488351232) (hm : m < 256) :
    Calls Try.prog 3 #[.slice A n c, edV A1 n1 c1 A2 n2 c2 x, .int .u8 (m : Int)] W fun e W' => e = .returned (.bool true) ∧ Below W.heap.size W W' := by
  have HL0 : Hid (EdArg W A n l A1 n1 A2 n2 x) := ⟨hl, ha, hr, hsl, hsa, hsx⟩
  have hE : EtAt (edW W A1 n1 c1 A2 n2 c2 x.jn x.nx x.sq) W.heap.size A1 n1 c1 A2 n2 c2 x.jn x.nx x.sq := heap_alloc_new W _
  have hB : Below W.heap.size W (edW W A1 n1 c1 A2 n2 c2 x.jn x.nx x.sq) := al_below W _
  obtain ⟨W0, hW0⟩ : ∃ W0, edW W A1 n1 c1 A2 n2 c2 x.jn x.nx x.sq = W0 := ⟨_, rfl⟩
  rw [hW0] at hE hB
  obtain ⟨g, hg⟩ : ∃ g, W.heap.size = g := ⟨_, rfl⟩
  rw [hg] at hE
  have HB := Lib.hid hB; have HE := Lib.hid hE
  have HNl := Lib.hid hl.flen; have HNa := Lib.hid ha.flen; have HNr := Lib.hid hr.klen
  clear hl ha hr hsl hsa hsx hB hE
  unfold edV
  go_enter Try.func3, Try.ntmps3
  go_wp2_with fail
  have HG := Lib.hid hg
  clear hg hW0
  with_reducible refine Calls.mono (alive11_any W0) ?_
  rintro e w1 ⟨rfl, hb1⟩
  have H1 := Lib.hid (be_trans HB.out hb1)
  have HE1 := Lib.hid (HE.out.below hb1 HE.out.lt)
  have HA1 := Lib.hid (HL0.out.up H1.out)
  obtain ⟨k0, k1, k2, k3, k4⟩ := HE1.out.cells
  have HGr := Lib.hid (great11_any (c := c) (c1 := c1) (c2 := c2) (j := x.jn) (x := x.nx) (s := x.sq) (P2 := A2) HA1.out.hl HA1.out.sl HA1.out.ha HA1.out.sa (by omega) (by omega) (by omega : n2 ≤ 140737488351232))
  clear hb1 HB HE HL0
  go_wp2_with fail
  with_reducible refine Calls.mono HGr.out ?_
  rintro e w2 ⟨b, rfl, hb3, hb2⟩
  have H2 := Lib.hid (be_trans H1.out hb2)
  have HE2 := Lib.hid (HE1.out.below hb2 HE1.out.lt)
  have HA2 := Lib.hid (HA1.out.up hb2)
  have H300 := Lib.hid hb3
  clear hb2 hb3 HGr HE1 HA1 k0 k1 k2 k3 k4 H1
  cases b with
  | true =>
    go_wp2_with fail
    with_reducible refine Calls.mono (alive11_any w2) ?_
    rintro e w3 ⟨rfl, hb3⟩
    have HF := Lib.hid (be_trans H2.out hb3)
    clear hb3
    go_wp2
    go_ret
    exact ⟨rfl, HF.out⟩
  | false =>
    have hn300 : n + n1 + n2 ≤ 300 := H300.out rfl
    obtain ⟨k0, k1, k2, k3, k4⟩ := HE2.out.cells
    have HDa := Lib.hid (doU_any (c1 := c) (c2 := c1) (c3 := c2) HA2.out.hl HA2.out.ha HA2.out.hr HA2.out.sl HA2.out.sa HA2.out.sx.rem (by omega) x.jn x.nx x.sq)
    go_wp2_with fail
    with_reducible refine Calls.mono HDa.out ?_
    rintro e w3 ⟨A3, n3, c3, L3, v3, rfl, hb3, hl3, hn3, hm3, hu3, hs3, hc3⟩
    have H3 := Lib.hid (be_trans H2.out hb3)
    have HE3 := Lib.hid (HE2.out.below hb3 HE2.out.lt)
    have HA3 := Lib.hid (HA2.out.up hb3)
    have HQ3 := Lib.hid hl3; have HN3 := Lib.hid hn3; have HU3 := Lib.hid hu3; have HC3 := Lib.hid hc3
    clear k0 k1 k2 k3 k4
    obtain ⟨k0, k1, k2, k3, k4⟩ := HE3.out.cells
    clear hb3 hl3 hn3 hu3 hs3 hc3 HDa HE2 HA2 H2
    -- region 4
    obtain ⟨i0, hi, hz0, hz1, hz2⟩ := info_parts u32_info
    have hb0 : Below w3.heap.size w3 w3.drew := (Below.refl _ _).drew
    have HK : Hid (∀ W', Below w3.heap.size w3 W' → W'.cell? ⟨g, 0, none⟩ = some (.slice A1 n1 c1) ∧ W'.cell? ⟨g, 1, none⟩ = some (.slice A2 n2 c2)) := fun W' hb => ⟨(hb.cell (p := ⟨g, 0, none⟩) HE3.out.lt).trans HE3.out.cells.1, (hb.cell (p := ⟨g, 1, none⟩) HE3.out.lt).trans HE3.out.cells.2.1⟩
    have HT : Hid (∀ W', Below w3.heap.size w3 W' → Calls Try.prog 7 #[.slice A1 n1 c1, .int .i64 (m : Int)] W' fun e w' => ∃ A2 c2 L, e = .returned (.slice A2 n1 c2) ∧ w'.ownsRow W'.heap.size 37 4 (.slice A2 n1 c2) n1 (fcs L) ∧ L.Perm x.add ∧ Below W'.heap.size W' w') := fun W' hb => turned_any A1 n1 c1 m x.add W' (up_lies HA3.out.ha hb) hc1.1 hc1.2 (by omega) hm
    have HT2 : Hid (∀ W', Below w3.heap.size w3 W' → Calls Try.prog 7 #[.slice A n c, .int .i64 (m : Int)] W' fun e w' => ∃ A2 c2 L, e = .returned (.slice A2 n c2) ∧ w'.ownsRow W'.heap.size 37 4 (.slice A2 n c2) n (fcs L) ∧ L.Perm l ∧ Below W'.heap.size W' w') := fun W' hb => turned_any A n c m l W' (up_lies HA3.out.hl hb) hnc hc (by omega) hm
    have hw8 : IntKind.i64.wrap (m : Int) = (m : Int) := by rw [IntWalk.i64_in]; omega
    go_wp2_with fail
    have hbA : Below w3.heap.size w3 (w3.alloc (.cells #[.slice none 0 0, .slice none 0 0, .int .u32 0, .int .u32 0, .int .u64 0] 27)).drew := ((Below.refl _ _).alloc (Nat.le_refl _) _).drew
    go_region_held3 (fun W' => W'.cell? ⟨g, 0, none⟩ = some (.slice A1 n1 c1) ∧ W'.cell? ⟨g, 1, none⟩ = some (.slice A2 n2 c2))
      (first | exact HK.out _ hb0 | exact HK.out _ hbA | exact HK.out _ hb4 | exact HK.out _ (hb4.alloc hb4.size _) | exact HK.out _ hb5 | exact HK.out _ (hb5.alloc hb5.size _) | exact HK.out _ (set5_below hb5 hb4.size) | exact HK.out _ (set5_below hb5 (Nat.le_refl _)) | go_keep)
      (first
      | (refine step_app _ (by rfl) _ (.tmp 29) 23 (by rfl) w3.heap.size 24 i0 _ 1 4 Try.underlying23 hi hz0 hz1 hz2 rfl (by decide) (.slice none 0 0) 0 [] (by rfl) ⟨rfl, .inl ⟨rfl, rfl⟩⟩ _ A2 n2 c2 (kvs x.rem) (by rfl) (up_lies HA3.out.hr hb0) (kvs_one _) (by unfold maxLen; omega) (by omega) (hb0).size ?_; intro v4 w4 o4 hg4 _; have hb4 := (hb0).grown hg4 (hb0).size (fun k hk => by cases hk); obtain ⟨A4, c4, rfl, _⟩ := own_shape o4)
      | (refine step_app _ (by rfl) _ (.tmp 29) 23 (by rfl) w3.heap.size 24 i0 _ 1 4 Try.underlying23 hi hz0 hz1 hz2 rfl (by decide) (.slice none 0 0) 0 [] (by rfl) ⟨rfl, .inl ⟨rfl, rfl⟩⟩ _ A2 n2 c2 (kvs x.rem) (by rfl) (up_lies HA3.out.hr hbA) (kvs_one _) (by unfold maxLen; omega) (by omega) (hbA).size ?_; intro v4 w4 o4 hg4 _; have hb4 := (hbA).grown hg4 (hbA).size (fun k hk => by cases hk); have hbx4 := (hg4.block w3.heap.size (by simp) (fun e => by cases e)).trans (heap_alloc_new w3 (.cells #[.slice none 0 0, .slice none 0 0, .int .u32 0, .int .u32 0, .int .u64 0] 27)); obtain ⟨A4, c4, rfl, _⟩ := own_shape o4)
      | (go_at_call 7; refine (HT.out _ hb4).mono ?_; rintro e w5 ⟨A5, c5, L5, rfl, hl5, hp5, hb45⟩; have hb5 := (hb4).trans (hb45.mono (hb4).size); have hbx5 := (hb45.block w3.heap.size (Array.getElem?_eq_some_iff.1 hbx4).1).trans hbx4; obtain ⟨e0, e1, e2, e3, e4, f0, f1, f2, f3, f4⟩ := bx5 hbx5)
      | (go_at_call 7; refine (HT.out _ (hb4.alloc hb4.size _)).mono ?_; rintro e w5 ⟨A5, c5, L5, rfl, hl5, hp5, hb45⟩; have hb5 := ((hb4.alloc hb4.size _)).trans (hb45.mono ((hb4.alloc hb4.size _)).size); have hbx5 := (hb45.block w4.heap.size (by simp)).trans (heap_alloc_new w4 (.cells #[.slice none 0 0, .slice none 0 0, .int .u32 0, .int .u32 0, .int .u64 0] 27)); obtain ⟨e0, e1, e2, e3, e4, f0, f1, f2, f3, f4⟩ := bx5 hbx5)
      | (go_at_call 7; refine (HT.out _ hb4).mono ?_; rintro e w5 ⟨A5, c5, L5, rfl, hl5, hp5, hb45⟩; have hb5 := (hb4).trans (hb45.mono (hb4).size))
      | fail)
    all_goals (
      have o4' : w4.ownsRow w3.heap.size 24 1 (.slice A4 n2 c4) n2 (kvs x.rem) := by have h9 := o4; rw [Nat.zero_add, List.nil_append] at h9; exact h9
      have r5 : w5.ownsRow w3.heap.size 24 1 (.slice A4 n2 c4) n2 (kvs x.rem) := by first | exact own_below o4' hb45 | exact own_below (own_below o4' (al_below w4 _)) hb45
      have f5 : w5.ownsRow w3.heap.size 37 4 (.slice A5 n1 c5) n1 (fcs L5) := by first | exact own_base hl5 hb4.size | exact own_base hl5 (Nat.le_trans hb4.size (by simp))
      have HP5 := Lib.hid hp5
      first
      | (have hY := By.set (gb := w4.heap.size) hbx5 r5 f5 hb5 hb4.size
         generalize (((((w5.setCell ⟨w4.heap.size, 0, none⟩ (.slice A5 n1 c5)).setCell ⟨w4.heap.size, 1, none⟩ (.slice A4 n2 c4)).setCell ⟨w4.heap.size, 2, none⟩ (.int .u32 0)).setCell ⟨w4.heap.size, 3, none⟩ (.int .u32 0)).setCell ⟨w4.heap.size, 4, none⟩ (.int .u64 0)) = W6 at hY ⊢
         generalize w4.heap.size = gb at hY ⊢)
      | (have hY := By.set (gb := w3.heap.size) hbx5 r5 f5 hb5 (Nat.le_refl _)
         generalize (((((w5.setCell ⟨w3.heap.size, 0, none⟩ (.slice A5 n1 c5)).setCell ⟨w3.heap.size, 1, none⟩ (.slice A4 n2 c4)).setCell ⟨w3.heap.size, 2, none⟩ (.int .u32 0)).setCell ⟨w3.heap.size, 3, none⟩ (.int .u32 0)).setCell ⟨w3.heap.size, 4, none⟩ (.int .u64 0)) = W6 at hY ⊢
         generalize w3.heap.size = gb at hY ⊢)
      | (have hY := By.new r5 f5 hb5
         generalize w5.alloc (.cells #[.slice A5 n1 c5, .slice A4 n2 c4, .int .u32 0, .int .u32 0, .int .u64 0] 27) = W6 at hY ⊢
         generalize w5.heap.size = gb at hY ⊢)
      have HY := Lib.hid hY
      clear hY o4' r5 f5 hp5 hl5 hb5 hb45 hb4 hg4 o4 hb0 hbA HK HT k0 k1 k2 k3 k4
      try clear hbx5 e0 e1 e2 e3 e4 f0 f1 f2 f3 f4
      try clear hbx4)
    all_goals (
      obtain ⟨h2, hh2⟩ : ∃ h2, n2 / 2 = h2 := ⟨_, rfl⟩
      have e1 : (n2 : Int).tdiv 2 = (h2 : Int) := by rw [← hh2]; simp [Int.tdiv]
      have e2 : (n2 : Int) / 2 = (h2 : Int) := by omega
      have HR0 : Hid (AlR w3 gb A5 n1 c5 L5 A4 n2 c4 x.rem (.int .i64 0) W6) := ⟨0, x.rem, rfl, HY.out, List.Perm.refl _⟩
      clear HY
      go_wp2
      go_loopw [10] (fun v wr => AlR w3 gb A5 n1 c5 L5 A4 n2 c4 x.rem v wr) (fun v _ => n2 - (intOf v).toNat)
      case atStart => exact HR0.out
      case round =>
        clear HR0
        obtain ⟨k, R, rfl, hY, hp⟩ := hrel
        obtain ⟨y0, y1, y2, y3, y4⟩ := hY.cells
        by_cases hlt : k < h2
        · have hRl : R.length = n2 := by rw [hp.length_eq]; exact HNr.out
          obtain ⟨j, hj⟩ : ∃ j, n2 - 1 - k = j := ⟨_, rfl⟩
          obtain ⟨a, ha⟩ : ∃ a, R[k]? = some a := ⟨_, List.getElem?_eq_getElem (by omega)⟩
          obtain ⟨b, hbv⟩ : ∃ b, R[j]? = some b := ⟨_, List.getElem?_eq_getElem (by omega)⟩
          obtain ⟨q, rfl, c1', c2', f1', f2', hqg, hYn, hpn⟩ := hY.swap hRl ha hbv
          have i1 : (k : Int) < (h2 : Int) := by omega
          have i2 : (0 : Int) ≤ (k : Int) := by omega
          have i3 : (k : Int) < (n2 : Int) := by omega
          have i4 : (n2 : Int) - 1 - (k : Int) = (j : Int) := by omega
          have i5 : (0 : Int) ≤ (j : Int) := by omega
          have i6 : (j : Int) < (n2 : Int) := by omega
          have i7 : k < n2 := by omega
          have i8 : j < n2 := by omega
          have HM : Hid (n2 - (k + 1) < n2 - k) := by unfold Hid; omega
          have HR : Hid (AlR w3 gb A5 n1 c5 L5 (some ⟨q, 0, none⟩) n2 c4 x.rem (.int .i64 ((k : Int) + 1)) ((wr.setCell ⟨q, k, none⟩ (.int .u32 (b : Int))).setCell ⟨q, j, none⟩ (.int .u32 (a : Int))).drew) := ⟨k + 1, _, by simp, hYn, hpn.trans hp⟩
          clear hY hp hRl ha hbv hYn hpn hj hh2
          go_wp2
          go_region
          all_goals (
            go_wp2
            go_roundw
            case rel => exact HR.out
            case measure => simp [intOf]; have := HM.out; omega)
        · have i1 : ¬ (k : Int) < (h2 : Int) := by omega
          have hc0 : Below wr.heap.size wr wr.drew := (Below.refl _ _).drew
          have HK2 : Hid (∀ W', Below wr.heap.size wr W' → W'.cell? ⟨gb, 0, none⟩ = some (.slice A5 n1 c5) ∧ W'.cell? ⟨gb, 1, none⟩ = some (.slice A4 n2 c4) ∧ W'.cell? ⟨gb, 2, none⟩ = some (.int .u32 0) ∧ W'.cell? ⟨gb, 3, none⟩ = some (.int .u32 0) ∧ W'.cell? ⟨gb, 4, none⟩ = some (.int .u64 0)) := fun W' hb => (hY.up hb).cells
          have HT3 : Hid (∀ W', Below wr.heap.size wr W' → Calls Try.prog 7 #[.slice A n c, .int .i64 (m : Int)] W' fun e w' => ∃ A2 c2 L, e = .returned (.slice A2 n c2) ∧ w'.ownsRow W'.heap.size 37 4 (.slice A2 n c2) n (fcs L) ∧ L.Perm l ∧ Below W'.heap.size W' w') := fun W' hb => HT2.out W' (be_trans hY.lo hb)
          have HLo := Lib.hid hY.lo
          have HDo : Hid (∀ (w8 : World) (A8 : Option Addr) (c8 : Nat) (L8 : List Fi), Below wr.heap.size wr w8 → w8.ownsRow wr.heap.size 37 4 (.slice A8 n c8) n (fcs L8) → L8.Perm l →
              Calls Try.prog 6 #[.slice A8 n c8, .agg #[.slice A5 n1 c5, .slice A4 n2 c4, .int .u32 0, .int .u32 0, .int .u64 0]] w8 (DoU w8 L8 L5 R (n + n1))) := fun w8 A8 c8 L8 hb ho hp8 =>
            doU_any (own_lies ho) (own_lies (hY.up hb).files) (own_lies (hY.up hb).row) (fun f hf => HA3.out.sl f (hp8.mem_iff.1 hf)) (fun f hf => HA3.out.sa f (HP5.out.mem_iff.1 hf)) (fun k hk => HA3.out.sx.rem k (hp.mem_iff.1 hk)) (by omega) 0 0 0
          have HPR := Lib.hid hp
          clear hY hp HT2 hh2
          go_wp2
          go_region_held3 (fun W' => W'.cell? ⟨gb, 0, none⟩ = some (.slice A5 n1 c5) ∧ W'.cell? ⟨gb, 1, none⟩ = some (.slice A4 n2 c4) ∧ W'.cell? ⟨gb, 2, none⟩ = some (.int .u32 0) ∧ W'.cell? ⟨gb, 3, none⟩ = some (.int .u32 0) ∧ W'.cell? ⟨gb, 4, none⟩ = some (.int .u64 0))
            (first | exact HK2.out _ hc0 | exact HK2.out _ hc8 | exact HK2.out _ hc9 | fail)
            (first
            | (go_at_call 7; refine (HT3.out _ hc0).mono ?_; rintro e w8 ⟨A8, c8, L8, rfl, hl8, hp8, hb8⟩; have hc8 := hc0.trans (hb8.mono hc0.size))
            | (go_at_call 6; refine (HDo.out w8 A8 c8 L8 hc8 hl8 hp8).mono ?_; rintro e w9 ⟨A9, n9, c9, L9, v9, rfl, hb9, hl9, hn9, hm9, hu9, hs9, hcc9⟩; have hc9 := hc8.trans (hb9.mono hc8.size))
            | fail)
          have H9 := Lib.hid (be_trans HLo.out hc9)
          have hL39 := up_lies HQ3.out H9.out
          have HV : Hid (v3 = v9 ∧ (v9 = 0 ∨ v9 = 1) ∧ L3 = L9) := by
            rcases HC3.out with ⟨q1, q2, q3⟩ | ⟨q1, q2, q3⟩
            · rcases hcc9 with ⟨s1, s2, s3⟩ | ⟨s1, s2, s3⟩
              · exact ⟨by rw [q1, s1], .inl s1, up_one HU3.out hu9 (q3.trans ((left_perm2 hp8 HPR.out).append HP5.out |>.symm.trans s3.symm))⟩
              · exact (s2 (doOk_perm q2 hp8 HP5.out HPR.out)).elim
            · rcases hcc9 with ⟨s1, s2, s3⟩ | ⟨s1, s2, s3⟩
              · exact (q2 (doOk_perm s2 hp8.symm HP5.out.symm HPR.out.symm)).elim
              · exact ⟨by rw [q1, s1], .inr s1, by rw [q3, s3]⟩
          obtain ⟨hv, hv01, hL⟩ := HV.out
          subst hv
          have hn39 : n3 = n9 := by rw [← HN3.out, ← hn9, hL]
          subst hn39 hL
          have HSm := Lib.hid (sameF_yes (c := c3) (c2 := c9) hL39 hl9 (by omega))
          have HB3 := Lib.hid H3.out
          clear hL39 hb9 hl9 hn9 hu9 hs9 hcc9 HV hl8 hp8 hb8 hc8 hc9 hc0 HDo HT3 HK2 HC3 HQ3 HU3 HN3 HP5 HPR y0 y1 y2 y3 y4
          rcases hv01 with rfl | rfl
          all_goals (
            go_wp2_with fail
            refine HSm.out.mono ?_
            rintro e w11 ⟨rfl, hb11⟩
            have HFn := Lib.hid (be_trans HB3.out (be_trans H9.out hb11))
            clear hb11 HSm
            go_wp2
            go_ret
            exact ⟨rfl, HFn.out⟩))
end Go.Proofs.Ytnnocjnmfabnaaa
