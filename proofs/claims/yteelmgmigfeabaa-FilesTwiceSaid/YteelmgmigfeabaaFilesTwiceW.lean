/-
  The walk of FilesTwice.
-/
import Derived.Test.YteelmgmigfeabaaTwice
import Derived.Deep.RegionHeld3
namespace Go.Proofs.Yteelmgmigfeabaa
open Go.RowKit Go.Maps Go.Sort
set_option linter.unusedVariables false
set_option maxRecDepth 20000

def TA (W2 : World) (C : St) (n : Nat) (v i : Value) (wr : World) : Prop :=
  ∃ k : Nat, k ≤ n ∧ i = .int .i64 (k : Int) ∧ wr.ownsRow W2.heap.size 9 1 v k ((C.list.take k).map (tv C)) ∧ Below W2.heap.size W2 wr
def TB (W3 : World) (n : Nat) (i : Value) (wr : World) : Prop :=
  ∃ k : Nat, k ≤ n ∧ i = .int .i64 (k : Int) ∧ Below W3.heap.size W3 wr

set_option maxHeartbeats 4000000 in
theorem filesTwice_walk (A : Option Addr) (n c : Nat) (l : List AcC) (A' : Option Addr) (n' c' : Nat) (l' : List AcC) (kp : Nat) (w : World) (y : Lies w w.heap.size 7 A n (acs l)) (u : Acts w w.heap.size l) (hnc : n ≤ c) (hc : c ≤ 140737488351232)
    (y' : Lies w w.heap.size 7 A' n' (acs l')) (u' : Acts w w.heap.size l') (hnc' : n' ≤ c') (hc' : c' ≤ 140737488351232) (hkp : kp < 256) :
    Calls Try.prog 9 #[.slice A n c, .slice A' n' c', .int .u8 (kp : Int)] w fun e w' => e = .returned (.bool true) ∧ Below w.heap.size w w' := by
  obtain ⟨i0, hi, hz0, hz1, hz2⟩ := info_parts str_info
  have HL := Lib.hid y; have HAc := Lib.hid u; have HL' := Lib.hid y'; have HAc' := Lib.hid u'
  have HN := Lib.hid (show n ≤ 140737488351232 by omega); have HN' := Lib.hid (show n' ≤ 140737488351232 by omega)
  have HKp := Lib.hid (show kp ≤ 9223372036854775807 by omega)
  clear y u y' u' hnc hc hnc' hc'
  go_enter Try.func9, Try.ntmps9
  go_wp2_with fail
  refine (alive5_any w).mono ?_
  rintro x w1 ⟨rfl, hb1⟩
  have HB1 := Lib.hid hb1; clear hb1
  go_wp2_with fail
  refine (great_any A n c w.heap.size l w1 (HL.out.below HB1.out) (HAc.out.below HB1.out) HN.out).mono ?_
  rintro x w2 ⟨gb, rfl, hfit, q, rfl⟩
  have HB1 := Lib.hid (below_drewN HB1.out q)
  have HFit := Lib.hid hfit
  clear hfit
  generalize w1.drewN q = w2 at *
  cases gb with
  | true =>
    go_wp2_with fail
    refine (alive5_any w2).mono ?_
    rintro x w3 ⟨rfl, hb3⟩
    have HB := Lib.hid (HB1.out.trans (hb3.mono HB1.out.size))
    clear hb3
    go_wp2
    go_ret
    exact ⟨rfl, HB.out⟩
  | false =>
    have HFt := Lib.hid (HFit.out rfl)
    go_wp2_with fail
    refine (great_any A' n' c' w.heap.size l' w2 (HL'.out.below HB1.out) (HAc'.out.below HB1.out) HN'.out).mono ?_
    rintro x w3 ⟨gb, rfl, hfit, q2, rfl⟩
    have HB1 := Lib.hid (below_drewN HB1.out q2)
    have HFit' := Lib.hid hfit
    clear hfit
    generalize w2.drewN q2 = w3 at *
    cases gb with
    | true =>
      go_wp2_with fail
      refine (alive5_any w3).mono ?_
      rintro x w4 ⟨rfl, hb3⟩
      have HB := Lib.hid (HB1.out.trans (hb3.mono HB1.out.size))
      clear hb3
      go_wp2
      go_ret
      exact ⟨rfl, HB.out⟩
    | false =>
      have HFt' := Lib.hid (HFit'.out rfl)
      go_wp2_with fail
      refine (at_new (w0 := w) HB1.out 1000000 (by decide) (by decide)).mono ?_
      rintro x w4 ⟨d, rfl, h2⟩
      have H := Lib.hid h2; clear h2
      go_wp2_with fail
      refine (at_does H.out A n c l HL.out HAc.out HFt.out.2).mono ?_
      rintro x w5 ⟨rfl, S1, h2, hs⟩
      have H := Lib.hid h2; have HNm := Lib.hid (hs.named (new_named 1000000)); clear h2 hs
      go_wp2_with fail
      refine (fail_open H.out kp HKp.out _).mono ?_
      rintro x W1 ⟨c1, C, F, G, rfl, hb, hD, hC, hdj, hF, hG, hBw, hdur, hfull, hnm, hsame⟩
      have HD := Lib.hid hD; have HC := Lib.hid hC; have HDj := Lib.hid hdj; have HF := Lib.hid hF; have HG := Lib.hid hG; have HBw := Lib.hid hBw; have HDur := Lib.hid hdur; have HFull := Lib.hid hfull
      have HNmC := Lib.hid (hnm HNm.out); have HSame := Lib.hid hsame
      have HCa : Hid (At w W1 c1 C) := ⟨G, hC, hG, hBw⟩
      have HDa : Hid (At w W1 d S1) := ⟨F, hD, hF, hBw⟩
      have HFlt : Hid (∀ i, F i → i < W1.heap.size) := hD.lt
      clear hb hD hC hdj hF hG hBw hdur hfull hnm hsame H HNm
      go_wp2_with fail
      refine (at_list_own HDa.out).mono ?_
      rintro x w6 ⟨vw, rfl, how, b6⟩
      obtain ⟨Aw, cw, rfl, _⟩ := own_shape how
      have HOw := Lib.hid how; have HB6 := Lib.hid b6
      clear how b6
      go_wp2_with fail
      refine (at_list_own (HCa.out.below HB6.out)).mono ?_
      rintro x W2 ⟨vn, rfl, hon, b7⟩
      obtain ⟨An, cn, rfl, hnn, hmn, _⟩ := own_shape hon
      have HOw := Lib.hid (own_below HOw.out b7); have HOn := Lib.hid (own_base hon HB6.out.size); have HB7 := Lib.hid (HB6.out.trans (b7.mono HB6.out.size))
      have hlen := list_len HCa.out.tidy
      have hfew := HCa.out.few
      obtain ⟨m, hm⟩ : ∃ m, C.list.length = m := ⟨_, rfl⟩
      rw [hm] at hlen hon hnn
      have hm64 : m ≤ 64 := by omega
      have HLn : Hid (Lies W2 W2.heap.size 1 An m (C.list.map sv)) := Lies.of_own hon
      have HM := Lib.hid hm
      rw [hm]
      have HOn : Hid (W2.ownsRow W1.heap.size 9 1 (.slice An m cn) m (C.list.map sv)) := by have := HOn.out; rw [hm] at this; exact this
      clear hon b7 hlen hfew hm hnn hmn
      have R1 : TA W2 C m (.slice none 0 0) (.int .i64 0) W2 := ⟨0, Nat.zero_le _, rfl, ⟨rfl, .inl ⟨rfl, rfl⟩⟩, Below.refl _ _⟩
      have R0 := Lib.hid R1; clear R1
      go_wp2
      go_loopw [12, 13] (fun v i wr => TA W2 C m v i wr) (fun _ i _ => m - (intOf i).toNat)
      case atStart => exact R0.out
      case round =>
        clear R0
        obtain ⟨k, hk, rfl, hown, hbw⟩ := hrel
        have HBr := Lib.hid hbw; have HOwn := Lib.hid hown
        obtain ⟨A1, cc1, rfl, hnc1, hcm1, hA1⟩ := own_shape hown
        clear hbw hown
        by_cases hlt : k < m
        · obtain ⟨bb, o, u, hA, _, hu, hcell⟩ := (HLn.out.below HBr.out).at_ hlt
          rw [List.getElem?_map] at hu
          obtain ⟨key, hkey, rfl⟩ := Option.map_eq_some_iff.1 hu
          obtain ⟨fk, hfk⟩ := mem_list HCa.out.presOK HCa.out.tidy hkey
          have HOk := Lib.hid (HNmC.out.1 key fk hfk)
          have HTk : Hid (C.list.take (k + 1) = C.list.take k ++ [key]) := by show _ = _; rw [List.take_add_one, hkey]; rfl
          have HTx : Hid ((⟨((C.file fk).bytes).toArray⟩ : ByteArray) = textOf C key) := by show _ = _; unfold textOf; rw [hfk]; rfl
          have HFk := Lib.hid hfk
          have HCr := Lib.hid ((HCa.out.below HB7.out).below HBr.out)
          subst hA
          clear hu hkey hfk
          go_wp2_with fail
          refine (at_all HCr.out ⟨key.toArray⟩ (name_size HOk.out) HOk.out HFk.out).mono ?_
          rw [HTx.out]
          rintro x w8 ⟨rfl, b8⟩
          have HO8 := Lib.hid (own_below HOwn.out b8)
          have HB8 := Lib.hid (HBr.out.trans (b8.mono HBr.out.size))
          clear b8 hcell
          go_wp2_with (at_builtin; refine wpList_app _ rfl (.tmp 61) (.tmp 68) 36 rfl W2.heap.size 9 i0 _ 1 16 Try.underlying36 hi hz0 hz1 hz2 rfl (by decide) (.slice A1 k cc1) k ((C.list.take k).map (tv C)) rfl (HO8.out.alloc _) (w8.heap.size + 1) (some ⟨w8.heap.size, 0, none⟩) 1 1 [tv C key] rfl ?c1 ?c2 ?c3 ?c4 ?c5 ?_)
          case c1 => exact one_lies rfl _ _
          case c2 => intro u hu; simp at hu; subst hu; rfl
          case c3 => unfold maxLen; omega
          case c4 => omega
          case c5 => have := HB8.out.size; simp; omega
          intro v2 w9 hown2 hg2 _
          have HB9 : Hid (Below W2.heap.size W2 w9) := (HB8.out.alloc HB8.out.size _).grown hg2 (by have := HB8.out.size; simp; omega) (fun j hj => (HO8.out.lt j hj).1)
          have HO9 : Hid (w9.ownsRow W2.heap.size 9 1 v2 (k + 1) ((C.list.take (k + 1)).map (tv C))) := by show World.ownsRow _ _ _ _ _ _ _; rw [HTk.out, List.map_append, List.map_take]; exact hown2
          clear hown2 hg2
          go_wp2
          go_roundw
          case rel => exact ⟨k + 1, hlt, by go_num, HO9.out, HB9.out⟩
          case measure => simp [intOf]; omega
        · obtain rfl : m = k := by omega
          have HOt : Hid (wr.ownsRow W2.heap.size 9 1 (.slice A1 m cc1) m (C.list.map (tv C))) := by have := HOwn.out; rw [List.take_of_length_le (by rw [HM.out]; exact Nat.le_refl _)] at this; exact this
          have HBal := Lib.hid (HB7.out.trans (HBr.out.mono HB7.out.size))
          have HOt := Lib.hid (own_base HOt.out HB7.out.size)
          have HOw := Lib.hid (own_below HOw.out HBr.out)
          have HOn := Lib.hid (own_below HOn.out HBr.out)
          have HBw2 := Lib.hid (HBw.out.trans (HBal.out.mono HBw.out.size))
          have HDs := Lib.hid (does_any (HD.out.below HBal.out) A' n' c' l' (HL'.out.below HBw2.out) (HAc'.out.below HBw2.out) HBw2.out.size HF.out HFt'.out.2)
          clear HOwn
          go_wp2_with fail
          refine HDs.out.mono ?_
          rintro x w10 ⟨rfl, S2, ⟨hT, _⟩, _⟩
          have HCa : Hid (At w w10 c1 C) := ⟨G, (HC.out.below HBal.out).other hT HDj.out, HG.out, HBw2.out.trans (hT.below HBw2.out.size HF.out)⟩
          have HOt := Lib.hid (own_turn HOt.out hT HFlt.out)
          have HOn := Lib.hid (own_turn HOn.out hT HFlt.out)
          have HOw := Lib.hid (own_turn HOw.out hT HFlt.out)
          clear hT HDs
          go_wp2_with fail
          refine (at_fail_both HCa.out HDur.out 0 (by decide) _).mono ?_
          rintro x w11 ⟨db, B, rfl, b9, hB, hsB⟩
          have HBd := Lib.hid hB; have HBs := Lib.hid hsB; have HCa := Lib.hid (HCa.out.below b9); have HOt := Lib.hid (own_below HOt.out b9); have HOn := Lib.hid (own_below HOn.out b9); have HOw := Lib.hid (own_below HOw.out b9)
          clear hB hsB b9
          go_wp2_with fail
          refine (at_fail_both HCa.out HDur.out 99 (by decide) _).mono ?_
          rintro x w12 ⟨da, E, rfl, b9, hB, hsB⟩
          have HEd := Lib.hid hB; have HEs := Lib.hid hsB; have HBd := Lib.hid (HBd.out.below b9); have HCa := Lib.hid (HCa.out.below b9); have HOt := Lib.hid (own_below HOt.out b9); have HOn := Lib.hid (own_below HOn.out b9); have HOw := Lib.hid (own_below HOw.out b9)
          clear hB hsB b9
          have HBC : Hid (sameT B.list C.list = true) := by show _ = _; rw [list_same HBd.out HCa.out (fail_names HBs.out)]; exact sameT_self _
          have HEC : Hid (sameT E.list C.list = true) := by show _ = _; rw [list_same HEd.out HCa.out (fail_names HEs.out)]; exact sameT_self _
          have HCC : Hid (sameT C.list C.list = true) := sameT_self _
          have HBl : Hid (B.list.length ≤ 4611686018427387904 ∧ E.list.length ≤ 4611686018427387904 ∧ C.list.length ≤ 4611686018427387904) := ⟨by have := list_len HBd.out.tidy; have := HBd.out.few; omega, by have := list_len HEd.out.tidy; have := HEd.out.few; omega, by have := list_len HCa.out.tidy; have := HCa.out.few; omega⟩
          have hfail : True := trivial
          go_wp2_with fail
          refine (at_list HBd.out).mono ?_
          rintro x w13 ⟨A3, c3, rfl, ly, b9⟩
          have HEd := Lib.hid (HEd.out.below b9); have HBd := Lib.hid (HBd.out.below b9); have HCa := Lib.hid (HCa.out.below b9); have HOt := Lib.hid (own_below HOt.out b9); have HOn := Lib.hid (own_below HOn.out b9); have HOw := Lib.hid (own_below HOw.out b9); have HLy := Lib.hid ly
          clear b9 ly
          go_wp2_with fail
          refine (texts_any A3 An _ m c3 cn w13.heap.size B.list C.list w13 HLy.out (Lies.of_own HOn.out) HBl.out.1).mono ?_
          rw [HBC.out]
          rintro x w14 ⟨rfl, q14, hw14⟩
          have b9 : Below w13.heap.size w13 w14 := by rw [hw14]; exact below_q w13 q14
          have HEd := Lib.hid (HEd.out.below b9); have HBd := Lib.hid (HBd.out.below b9); have HCa := Lib.hid (HCa.out.below b9); have HOt := Lib.hid (own_below HOt.out b9); have HOn := Lib.hid (own_below HOn.out b9); have HOw := Lib.hid (own_below HOw.out b9)
          clear b9 hw14 HLy
          go_wp2_with fail
          refine (at_list HEd.out).mono ?_
          rintro x w13 ⟨A3, c3, rfl, ly, b9⟩
          have HEd := Lib.hid (HEd.out.below b9); have HBd := Lib.hid (HBd.out.below b9); have HCa := Lib.hid (HCa.out.below b9); have HOt := Lib.hid (own_below HOt.out b9); have HOn := Lib.hid (own_below HOn.out b9); have HOw := Lib.hid (own_below HOw.out b9); have HLy := Lib.hid ly
          clear b9 ly
          go_wp2_with fail
          refine (texts_any A3 An _ m c3 cn w13.heap.size E.list C.list w13 HLy.out (Lies.of_own HOn.out) HBl.out.2.1).mono ?_
          rw [HEC.out]
          rintro x w14 ⟨rfl, q14, hw14⟩
          have b9 : Below w13.heap.size w13 w14 := by rw [hw14]; exact below_q w13 q14
          have HEd := Lib.hid (HEd.out.below b9); have HBd := Lib.hid (HBd.out.below b9); have HCa := Lib.hid (HCa.out.below b9); have HOt := Lib.hid (own_below HOt.out b9); have HOn := Lib.hid (own_below HOn.out b9); have HOw := Lib.hid (own_below HOw.out b9)
          clear b9 hw14 HLy
          go_wp2_with fail
          refine (at_list HCa.out).mono ?_
          rintro x w13 ⟨A3, c3, rfl, ly, b9⟩
          have HEd := Lib.hid (HEd.out.below b9); have HBd := Lib.hid (HBd.out.below b9); have HCa := Lib.hid (HCa.out.below b9); have HOt := Lib.hid (own_below HOt.out b9); have HOn := Lib.hid (own_below HOn.out b9); have HOw := Lib.hid (own_below HOw.out b9); have HLy := Lib.hid ly
          clear b9 ly
          go_wp2_with fail
          refine (texts_any A3 An _ m c3 cn w13.heap.size C.list C.list w13 HLy.out (Lies.of_own HOn.out) HBl.out.2.2).mono ?_
          rw [HCC.out]
          rintro x w14 ⟨rfl, q14, hw14⟩
          have b9 : Below w13.heap.size w13 w14 := by rw [hw14]; exact below_q w13 q14
          have HEd := Lib.hid (HEd.out.below b9); have HBd := Lib.hid (HBd.out.below b9); have HCa := Lib.hid (HCa.out.below b9); have HOt := Lib.hid (own_below HOt.out b9); have HOn := Lib.hid (own_below HOn.out b9); have HOw := Lib.hid (own_below HOw.out b9)
          clear b9 hw14 HLy
          have HNl := Lib.hid (Lies.of_own HOn.out); have HTl := Lib.hid (Lies.of_own HOt.out)
          have R1 : TB w14 m (.int .i64 0) w14 := ⟨0, Nat.zero_le _, rfl, Below.refl _ _⟩
          have R0 := Lib.hid R1; clear R1 hfail
          go_wp2
          go_loopw [18] (fun i wr => TB w14 m i wr) (fun i _ => m - (intOf i).toNat)
          case atStart => exact R0.out
          case round =>
            clear R0
            obtain ⟨k, hk, rfl, hbw⟩ := hrel
            have HBr := Lib.hid hbw
            clear hbw
            by_cases hlt : k < m
            · obtain ⟨bn, on, u, hA, _, hu, hcell⟩ := (HNl.out.below HBr.out).at_ hlt
              rw [List.getElem?_map] at hu
              obtain ⟨key, hkey, rfl⟩ := Option.map_eq_some_iff.1 hu
              obtain ⟨bt, ot, u, hA2, _, hu2, hcell2⟩ := (HTl.out.below HBr.out).at_ hlt
              rw [List.getElem?_map, hkey] at hu2
              injection hu2 with hu2
              subst hu2
              obtain ⟨fk, hfk⟩ := mem_list HCa.out.presOK HCa.out.tidy hkey
              have hok := HNmC.out.1 key fk hfk
              have htx : (⟨((C.file fk).bytes).toArray⟩ : ByteArray) = textOf C key := by unfold textOf; rw [hfk]; rfl
              obtain ⟨fb, hfb, hfb2⟩ := again_text HBs.out HFull.out hfk
              obtain ⟨fe, hfe, hfe2⟩ := again_text HEs.out HFull.out hfk
              have HAc : Hid (∀ W, Below wr.heap.size wr W → Calls Try.prog 27 #[dp c1, .string ⟨key.toArray⟩] W fun x w' => x = .returned (tv C key) ∧ Below wr.heap.size wr w') := fun W hW => (at_all ((HCa.out.below HBr.out).below hW) ⟨key.toArray⟩ (name_size hok) hok hfk).mono fun x w' hx => ⟨by rw [hx.1, htx], hW.trans (hx.2.mono hW.size)⟩
              have HAb : Hid (∀ W, Below wr.heap.size wr W → Calls Try.prog 27 #[dp db, .string ⟨key.toArray⟩] W fun x w' => x = .returned (tv C key) ∧ Below wr.heap.size wr w') := fun W hW => (at_all ((HBd.out.below HBr.out).below hW) ⟨key.toArray⟩ (name_size hok) hok hfb).mono fun x w' hx => ⟨by rw [hx.1, hfb2, htx], hW.trans (hx.2.mono hW.size)⟩
              have HAa : Hid (∀ W, Below wr.heap.size wr W → Calls Try.prog 27 #[dp da, .string ⟨key.toArray⟩] W fun x w' => x = .returned (tv C key) ∧ Below wr.heap.size wr w') := fun W hW => (at_all ((HEd.out.below HBr.out).below hW) ⟨key.toArray⟩ (name_size hok) hok hfe).mono fun x w' hx => ⟨by rw [hx.1, hfe2, htx], hW.trans (hx.2.mono hW.size)⟩
              have hbn : bn < wr.heap.size := World.block_lt_of_cell? wr _ hcell
              have hbt : bt < wr.heap.size := World.block_lt_of_cell? wr _ hcell2
              have KC : Hid (∀ W, Below wr.heap.size wr W → W.cell? ⟨bn, on + k, none⟩ = some (.string ⟨key.toArray⟩) ∧ W.cell? ⟨bt, ot + k, none⟩ = some (tv C key)) := fun W hW => ⟨(hW.cell hbn).trans hcell, (hW.cell hbt).trans hcell2⟩
              have HTn : Hid (∀ W, Below wr.heap.size wr W → Below w14.heap.size w14 W) := fun W hW => HBr.out.trans (hW.mono HBr.out.size)
              have hd0 : Below wr.heap.size wr wr.drew := below_any rfl rfl rfl rfl
              subst hA hA2
              clear hu hkey hfk hok htx hfb hfb2 hfe hfe2 hbn hbt
              unfold tv at *
              generalize textOf C key = T at *
              generalize (⟨key.toArray⟩ : ByteArray) = kk at *
              go_wp2_with fail
              go_region_held3 (fun W => W.cell? ⟨bn, on + k, none⟩ = some (.string kk) ∧ W.cell? ⟨bt, ot + k, none⟩ = some (.string T)) (first | exact KC.out _ hd0 | exact KC.out _ hbd | exact KC.out _ hbx | exact KC.out _ hby)
                (first
                 | (go_at_call 27; with_reducible refine Calls.mono (HAc.out _ (by assumption)) ?_; rintro x wd ⟨rfl, hbd⟩)
                 | (go_at_call 27; with_reducible refine Calls.mono (HAb.out _ (by assumption)) ?_; rintro x wx ⟨rfl, hbx⟩)
                 | (go_at_call 27; with_reducible refine Calls.mono (HAa.out _ (by assumption)) ?_; rintro x wy ⟨rfl, hby⟩))
              all_goals (
                go_wp2
                go_roundw
                case rel => exact ⟨k + 1, hlt, by go_num, by first | exact HTn.out _ hby | exact HTn.out _ hbx | exact HTn.out _ hbd⟩
                case measure => simp [intOf]; omega)
            · obtain rfl : m = k := by omega
              have HBe := Lib.hid (HCa.out.below HBr.out)
              have HOw := Lib.hid (own_below HOw.out HBr.out); have HOn := Lib.hid (own_below HOn.out HBr.out)
              by_cases hpar : kp % 2 = 0
              · have m1 : (kp : Int) % 2 = 0 := by omega
                have m2 : ((kp : Int) % 2 == 0) = true := by simp; omega
                have HB := Lib.hid HBe.out.low
                go_wp2
                go_ret
                exact ⟨rfl, HB.out⟩
              · have m1 : (kp : Int) % 2 = 1 := by omega
                have m2 : ((kp : Int) % 2 == 0) = false := by simp; omega
                have HS : Hid (sameT S1.list C.list = true) := by show _ = _; rw [list_same HDa.out HCa.out (fun k => (HSame.out (by rw [m1]; rfl) k).symm)]; exact sameT_self _
                have HSl : Hid (S1.list.length ≤ 4611686018427387904) := by have := list_len HDa.out.tidy; have := HDa.out.few; show _ ≤ _; omega
                clear hpar
                go_wp2_with fail
                refine (texts_any Aw An _ m cw cn wr.heap.size S1.list C.list wr (Lies.of_own HOw.out) (Lies.of_own HOn.out) HSl.out).mono ?_
                rw [HS.out]
                rintro x w15 ⟨rfl, q15, hw15⟩
                have b9 : Below wr.heap.size wr w15 := by rw [hw15]; exact below_q wr q15
                have HB := Lib.hid (HBe.out.below b9).low
                clear b9 hw15
                go_wp2
                go_ret
                exact ⟨rfl, HB.out⟩
end Go.Proofs.Yteelmgmigfeabaa
