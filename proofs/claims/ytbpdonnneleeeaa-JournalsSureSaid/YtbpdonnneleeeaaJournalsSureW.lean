/-
  The walk of JournalsSure.
-/
import Derived.Test.YtbpdonnneleeeaaJSure
namespace Go.Proofs.Ytbpdonnneleeeaa
open Go.RowKit Go.Maps Go.Sort
set_option linter.unusedVariables false
set_option maxRecDepth 100000

theorem journalsSure_big (A : Option Addr) (n c m1 m2 : Nat) (rs : List Rcd) (w : World) (y : Lies w w.heap.size 1 A n (rs.map Rcd.v)) (u : Rcds w w.heap.size rs) (hn : n ≤ 140737488351232)
    (hcase : 40 < n ∨ 40000 < n + rsum rs) :
    Calls Try.prog 5 #[.slice A n c, .int .u8 (m1 : Int), .int .u16 (m2 : Int)] w fun e w' => e = .returned (.bool true) ∧ Below w.heap.size w w' := by
  have Y := Lib.hid y; have U := Lib.hid u; have HC := Lib.hid hcase
  clear y u hcase
  go_enter Try.func5, Try.ntmps5
  go_wp2_with fail
  refine (alive6_any w).mono ?_
  rintro x w1 ⟨rfl, hb1⟩
  have HB := Lib.hid hb1; clear hb1
  have F1 : Hid (Calls Try.prog 13 #[] w1 fun e w' => e = .returned (.bool true) ∧ Below w.heap.size w w') := (alive6_any w1).mono fun x w' ⟨hx, hb⟩ => ⟨hx, HB.out.trans (hb.mono HB.out.size)⟩
  by_cases h1 : 40 < n
  · have i1 : (40 : Int) < (n : Int) := by omega
    go_wp2_with fail
    refine F1.out.mono ?_
    rintro x w2 ⟨rfl, hb⟩
    have HB2 := Lib.hid hb; clear hb
    go_wp2
    go_ret
    exact ⟨rfl, HB2.out⟩
  · have i1 : (n : Int) ≤ 40 := by omega
    go_wp2_with fail
    refine (recordsSize_is A n c rs w1 ((Y.out.below HB.out).more HB.out.size) ((U.out.below HB.out).more HB.out.size) hn).mono ?_
    rintro x w2 ⟨z, rfl, hw, hz, hz2, hz3⟩
    obtain rfl := hw.symm
    have h2 : 40000 < z := by
      rcases HC.out with h | h
      · exact absurd h h1
      · by_cases hzz : z ≤ 1048576
        · rw [hz hzz]; exact h
        · omega
    have i2 : (40000 : Int) < (z : Int) := by omega
    clear hz hz3
    go_wp2_with fail
    refine F1.out.mono ?_
    rintro x w2 ⟨rfl, hb⟩
    have HB2 := Lib.hid hb; clear hb
    go_wp2
    go_ret
    exact ⟨rfl, HB2.out⟩

set_option maxHeartbeats 16000000 in
theorem journalsSure_all (A : Option Addr) (n c m1 kp : Nat) (rs : List Rcd) (w : World) (y : Lies w w.heap.size 1 A n (rs.map Rcd.v)) (u : Rcds w w.heap.size rs) (hnc : n ≤ c) (hm1 : m1 < 256) (hkp : kp < 65536)
    (h1 : n ≤ 40) (h3 : n + rsum rs ≤ 40000) :
    Calls Try.prog 5 #[.slice A n c, .int .u8 (m1 : Int), .int .u16 (kp : Int)] w fun e w' => e = .returned (.bool true) ∧ Below w.heap.size w w' := by
  have kc := fun (w : World) (C : Array Value) (n c : Nat) => Lib.run_convert_bytes_const (P := Try.prog) w 22 5 C n c Try.underlying22 Try.underlying5
  have Y := Lib.hid y; have U := Lib.hid u; have hrl := y.rlen
  clear y u
  have i1 : (n : Int) ≤ 40 := by omega
  go_enter Try.func5, Try.ntmps5
  go_wp2_with fail
  refine (alive6_any w).mono ?_
  rintro x w1 ⟨rfl, hb1⟩
  have HB := Lib.hid hb1; clear hb1
  go_wp2_with fail
  refine (recordsSize_is A n c rs w1 ((Y.out.below HB.out).more HB.out.size) ((U.out.below HB.out).more HB.out.size) (by omega)).mono ?_
  rintro x w2 ⟨z, rfl, hw, hz, hz2, hz3⟩
  obtain rfl := hw.symm
  obtain rfl : z = n + rsum rs := hz (by omega)
  have i2 : ((n + rsum rs : Nat) : Int) ≤ 40000 := by omega
  clear hz hz2 hz3
  have HO := Lib.hid (opened_any HB.out)
  go_wp2_with fail
  refine HO.out.mono ?_
  rintro x w3 ⟨d, p, f, rfl, hJ⟩
  have HJ := Lib.hid hJ
  clear hJ HO HB
  obtain ⟨K, hK, hKn⟩ : ∃ K : Nat, (m1 : Int) % ((n : Int) + 1) = (K : Int) ∧ K ≤ n := ⟨m1 % (n + 1), (Int.natCast_emod m1 (n + 1)).symm, Nat.le_of_lt_succ (Nat.mod_lt m1 (Nat.succ_pos n))⟩
  have hK2 : Int.tmod (m1 : Int) ((n : Int) + 1) = (K : Int) := by rw [Int.tmod_eq_emod_of_nonneg (by omega)]; exact hK
  have hw1 : IntKind.i64.wrap (m1 : Int) = (m1 : Int) := (IntWalk.i64_left _).trans (IntWalk.wrap64_in _ ⟨by omega, by omega⟩)
  have hw2 : IntKind.i64.wrap (kp : Int) = (kp : Int) := (IntWalk.i64_left _).trans (IntWalk.wrap64_in _ ⟨by omega, by omega⟩)
  by_cases hn0 : 0 < n
  · have i0 : (0 : Int) < (n : Int) := by omega
    have HR : Hid (SureRel w d p f n rs K kp (.int .i64 0) (.int .i64 (K : Int)) (.int .i64 (kp : Int)) (.int .i64 0) w3) :=
      ⟨0, 0, K, kp, _, rfl, rfl, rfl, rfl, by omega, by rw [Nat.min_eq_left (by omega)]; exact HJ.out, .inl ⟨by omega, rfl, rfl, rfl⟩⟩
    clear HJ
    go_wp2
    clear i0
    go_loopw [10, 11, 12, 13] (fun fr wf lf i wr => SureRel w d p f n rs K kp fr wf lf i wr) (fun _ _ _ i _ => n + 1 - (intOf i).toNat)
    case atStart => exact HR.out
    case round =>
      clear HR
      obtain ⟨i0, fr, wf, lf, S, rfl, rfl, rfl, rfl, hi0, hJ, hst⟩ := hrel
      by_cases hin : i0 ≤ n
      · have j0 : (i0 : Int) ≤ (n : Int) := by omega
        rw [Nat.min_eq_left hin] at hJ
        have HZ := Lib.hid (jn_size hJ)
        have HJ := Lib.hid hJ
        obtain ⟨L, hL⟩ : ∃ L, (BU rs i0).length = L := ⟨_, rfl⟩
        rw [hL] at HZ
        have hLb : L ≤ 1000000 := by rw [← hL]; exact hJ.room
        clear hJ
        go_wp2_with fail
        refine HZ.out.mono ?_
        rintro x w4 ⟨rfl, hb⟩
        have HJ := Lib.hid (HJ.out.below hb)
        clear hb HZ
        rcases hst with ⟨hiK, rfl, e1, e2⟩ | ⟨hiK, hKw, hwi, hwn, hfr, hlf, hmax, hdur, hsure⟩
        · obtain rfl := e1.symm
          obtain rfl := e2.symm
          by_cases hEq : i0 = K
          · subst hEq
            go_wp2_with fail
            refine (jn_sync HJ.out).mono ?_
            rintro x w5 ⟨rfl, hJ⟩
            have HJ := Lib.hid hJ; clear hJ
            go_wp2_with fail
            refine (jn_names HJ.out).mono ?_
            rintro x w6 ⟨rfl, hJ⟩
            have HJ := Lib.hid hJ
            have hsu : (((S.sync f).names).file f).sure = L := by
              show (upd S.file f ⟨(S.file f).bytes, (S.file f).bytes.length⟩ f).sure = L
              rw [upd_same]
              have := hJ.file
              rw [show (((S.sync f).names).file f).bytes = (S.file f).bytes from by show (upd S.file f _ f).bytes = _; rw [upd_same]] at this
              rw [this]; exact hL
            have HSU : Hid (SureAt n rs i0 kp f ((S.sync f).names) (i0 + 1) L i0 kp) :=
              .inr ⟨by omega, by omega, by omega, hin, hL.symm, by rw [hL]; omega, fun h => by omega, hJ.pres, hsu⟩
            clear hJ hsu
            generalize (S.sync f).names = Sx at *
            by_cases hlt : i0 < n
            · have j5 : (i0 : Int) < (n : Int) := by omega
              obtain ⟨g, o, r, rfl, hg, hr, hcell⟩ := Y.out.rcd hlt
              have hmem := List.mem_of_getElem? hr
              have HRb := Lib.hid (U.out r hmem)
              have hlow := HJ.out.low
              have hcW := (hlow.cell hg).trans hcell
              have hrl2 := U.out.len hmem
              have hw8 := wr_len_le (BU rs i0).length r.l
              have hbl := BU_len rs (fun r hr => U.out.len hr) i0
              have hsz : rsum (rs.take i0) + r.n ≤ 40000 := by
                have := rsum_take_le rs (i0 + 1)
                rw [rsum_take rs i0 r hr] at this; omega
              have HAd := Lib.hid (jn_add HJ.out r.A r.n r.c r.l ((HRb.out.1.below hlow).more hlow.size) (by omega) HRb.out.2.1 (by have := HRb.out.2; omega) (by omega))
              have HBn := Lib.hid (BU_next hr)
              have HT2 : Hid ((rs.take (i0 + 1)).map Rcd.l = (rs.take i0).map Rcd.l ++ [r.l]) := by
                show _ = _
                rw [List.take_add_one, hr]; simp
              clear hlow hg hcell hr hmem
              go_wp2_with fail
              refine HAd.out.mono ?_
              rintro x w9 ⟨rfl, hJ⟩
              have HN : Hid (Jn w w9 d p f (Sx.append f (Jr.wr (BU rs i0).length r.l)) (BU rs (i0 + 1)) ((rs.take (i0 + 1)).map Rcd.l)) := by rw [HBn.out, HT2.out]; exact hJ
              have HS9 := Lib.hid (HSU.out.same (S' := Sx.append f (Jr.wr (BU rs i0).length r.l)) rfl (sure_append _ _ _))
              clear hJ HAd hcW
              go_wp2
              go_roundw
              case rel => exact ⟨i0 + 1, _, _, _, _, by go_num, rfl, rfl, rfl, by omega, by rw [Nat.min_eq_left (by omega)]; exact HN.out, HS9.out⟩
              case measure => simp [intOf]; omega
            · have j5 : ¬ (i0 : Int) < (n : Int) := by omega
              go_wp2
              go_roundw
              case rel => exact ⟨i0 + 1, _, _, _, _, by go_num, rfl, rfl, rfl, by omega, by rw [Nat.min_eq_right (by omega), show n = i0 from by omega]; exact HJ.out, HSU.out⟩
              case measure => simp [intOf]; omega
          · have j1 : ¬ (i0 : Int) = (K : Int) := by omega
            have j2 : (i0 : Int) < (K : Int) := by omega
            have j3 : ¬ (K : Int) < (i0 : Int) := by omega
            have HSU : Hid (SureAt n rs K kp f S (i0 + 1) 0 K kp) := .inl ⟨by omega, rfl, rfl, rfl⟩
            generalize S = Sx at *
            have hlt : i0 < n := by omega
            have j5 : (i0 : Int) < (n : Int) := by omega
            obtain ⟨g, o, r, rfl, hg, hr, hcell⟩ := Y.out.rcd hlt
            have hmem := List.mem_of_getElem? hr
            have HRb := Lib.hid (U.out r hmem)
            have hlow := HJ.out.low
            have hcW := (hlow.cell hg).trans hcell
            have hrl2 := U.out.len hmem
            have hw8 := wr_len_le (BU rs i0).length r.l
            have hbl := BU_len rs (fun r hr => U.out.len hr) i0
            have hsz : rsum (rs.take i0) + r.n ≤ 40000 := by
              have := rsum_take_le rs (i0 + 1)
              rw [rsum_take rs i0 r hr] at this; omega
            have HAd := Lib.hid (jn_add HJ.out r.A r.n r.c r.l ((HRb.out.1.below hlow).more hlow.size) (by omega) HRb.out.2.1 (by have := HRb.out.2; omega) (by omega))
            have HBn := Lib.hid (BU_next hr)
            have HT2 : Hid ((rs.take (i0 + 1)).map Rcd.l = (rs.take i0).map Rcd.l ++ [r.l]) := by
              show _ = _
              rw [List.take_add_one, hr]; simp
            clear hlow hg hcell hr hmem
            go_wp2_with fail
            refine HAd.out.mono ?_
            rintro x w9 ⟨rfl, hJ⟩
            have HN : Hid (Jn w w9 d p f (Sx.append f (Jr.wr (BU rs i0).length r.l)) (BU rs (i0 + 1)) ((rs.take (i0 + 1)).map Rcd.l)) := by rw [HBn.out, HT2.out]; exact hJ
            have HS9 := Lib.hid (HSU.out.same (S' := Sx.append f (Jr.wr (BU rs i0).length r.l)) rfl (sure_append _ _ _))
            clear hJ HAd hcW
            go_wp2
            go_roundw
            case rel => exact ⟨i0 + 1, _, _, _, _, by go_num, rfl, rfl, rfl, by omega, by rw [Nat.min_eq_left (by omega)]; exact HN.out, HS9.out⟩
            case measure => simp [intOf]; omega
        · have j1 : ¬ (i0 : Int) = (K : Int) := by omega
          have j2 : ¬ (i0 : Int) < (K : Int) := by omega
          have j3 : (K : Int) < (i0 : Int) := by omega
          have hLf : fr ≤ L := by rw [hfr, ← hL]; exact BU_mono rs (by omega)
          by_cases hup : L - fr ≤ kp
          · have j4 : (L : Int) - (fr : Int) ≤ (kp : Int) := by omega
            have hl2 : (kp : Int) - ((L : Int) - (fr : Int)) = ((kp + fr - L : Nat) : Int) := by omega
            have HSU : Hid (SureAt n rs K kp f S (i0 + 1) fr i0 (kp + fr - L)) := .inr ⟨by omega, by omega, by omega, hin, hfr, by rw [hL]; omega, fun h => by omega, hdur, hsure⟩
            clear hmax hdur hsure hfr hlf
            generalize S = Sx at *
            by_cases hlt : i0 < n
            · have j5 : (i0 : Int) < (n : Int) := by omega
              obtain ⟨g, o, r, rfl, hg, hr, hcell⟩ := Y.out.rcd hlt
              have hmem := List.mem_of_getElem? hr
              have HRb := Lib.hid (U.out r hmem)
              have hlow := HJ.out.low
              have hcW := (hlow.cell hg).trans hcell
              have hrl2 := U.out.len hmem
              have hw8 := wr_len_le (BU rs i0).length r.l
              have hbl := BU_len rs (fun r hr => U.out.len hr) i0
              have hsz : rsum (rs.take i0) + r.n ≤ 40000 := by
                have := rsum_take_le rs (i0 + 1)
                rw [rsum_take rs i0 r hr] at this; omega
              have HAd := Lib.hid (jn_add HJ.out r.A r.n r.c r.l ((HRb.out.1.below hlow).more hlow.size) (by omega) HRb.out.2.1 (by have := HRb.out.2; omega) (by omega))
              have HBn := Lib.hid (BU_next hr)
              have HT2 : Hid ((rs.take (i0 + 1)).map Rcd.l = (rs.take i0).map Rcd.l ++ [r.l]) := by
                show _ = _
                rw [List.take_add_one, hr]; simp
              clear hlow hg hcell hr hmem
              go_wp2_with fail
              refine HAd.out.mono ?_
              rintro x w9 ⟨rfl, hJ⟩
              have HN : Hid (Jn w w9 d p f (Sx.append f (Jr.wr (BU rs i0).length r.l)) (BU rs (i0 + 1)) ((rs.take (i0 + 1)).map Rcd.l)) := by rw [HBn.out, HT2.out]; exact hJ
              have HS9 := Lib.hid (HSU.out.same (S' := Sx.append f (Jr.wr (BU rs i0).length r.l)) rfl (sure_append _ _ _))
              clear hJ HAd hcW
              go_wp2
              go_roundw
              case rel => exact ⟨i0 + 1, _, _, _, _, by go_num, rfl, rfl, rfl, by omega, by rw [Nat.min_eq_left (by omega)]; exact HN.out, HS9.out⟩
              case measure => simp [intOf]; omega
            · have j5 : ¬ (i0 : Int) < (n : Int) := by omega
              go_wp2
              go_roundw
              case rel => exact ⟨i0 + 1, _, _, _, _, by go_num, rfl, rfl, rfl, by omega, by rw [Nat.min_eq_right (by omega), show n = i0 from by omega]; exact HJ.out, HSU.out⟩
              case measure => simp [intOf]; omega
          · have j4 : ¬ (L : Int) - (fr : Int) ≤ (kp : Int) := by omega
            have HSU : Hid (SureAt n rs K kp f S (i0 + 1) fr wf lf) := by
              refine .inr ⟨by omega, hKw, by omega, hwn, hfr, hlf, fun h => ?_, hdur, hsure⟩
              by_cases hh : wf + 1 < i0
              · exact hmax hh
              · rw [show wf + 1 = i0 from by omega, hL]; omega
            clear hmax hdur hsure hfr hlf
            generalize S = Sx at *
            by_cases hlt : i0 < n
            · have j5 : (i0 : Int) < (n : Int) := by omega
              obtain ⟨g, o, r, rfl, hg, hr, hcell⟩ := Y.out.rcd hlt
              have hmem := List.mem_of_getElem? hr
              have HRb := Lib.hid (U.out r hmem)
              have hlow := HJ.out.low
              have hcW := (hlow.cell hg).trans hcell
              have hrl2 := U.out.len hmem
              have hw8 := wr_len_le (BU rs i0).length r.l
              have hbl := BU_len rs (fun r hr => U.out.len hr) i0
              have hsz : rsum (rs.take i0) + r.n ≤ 40000 := by
                have := rsum_take_le rs (i0 + 1)
                rw [rsum_take rs i0 r hr] at this; omega
              have HAd := Lib.hid (jn_add HJ.out r.A r.n r.c r.l ((HRb.out.1.below hlow).more hlow.size) (by omega) HRb.out.2.1 (by have := HRb.out.2; omega) (by omega))
              have HBn := Lib.hid (BU_next hr)
              have HT2 : Hid ((rs.take (i0 + 1)).map Rcd.l = (rs.take i0).map Rcd.l ++ [r.l]) := by
                show _ = _
                rw [List.take_add_one, hr]; simp
              clear hlow hg hcell hr hmem
              go_wp2_with fail
              refine HAd.out.mono ?_
              rintro x w9 ⟨rfl, hJ⟩
              have HN : Hid (Jn w w9 d p f (Sx.append f (Jr.wr (BU rs i0).length r.l)) (BU rs (i0 + 1)) ((rs.take (i0 + 1)).map Rcd.l)) := by rw [HBn.out, HT2.out]; exact hJ
              have HS9 := Lib.hid (HSU.out.same (S' := Sx.append f (Jr.wr (BU rs i0).length r.l)) rfl (sure_append _ _ _))
              clear hJ HAd hcW
              go_wp2
              go_roundw
              case rel => exact ⟨i0 + 1, _, _, _, _, by go_num, rfl, rfl, rfl, by omega, by rw [Nat.min_eq_left (by omega)]; exact HN.out, HS9.out⟩
              case measure => simp [intOf]; omega
            · have j5 : ¬ (i0 : Int) < (n : Int) := by omega
              go_wp2
              go_roundw
              case rel => exact ⟨i0 + 1, _, _, _, _, by go_num, rfl, rfl, rfl, by omega, by rw [Nat.min_eq_right (by omega), show n = i0 from by omega]; exact HJ.out, HSU.out⟩
              case measure => simp [intOf]; omega
      · have j0 : ¬ (i0 : Int) ≤ (n : Int) := by omega
        obtain rfl : i0 = n + 1 := by omega
        rw [Nat.min_eq_right (by omega)] at hJ
        rcases hst with ⟨h, _⟩ | ⟨hiK, hKw, hwi, hwn, hfr, hlf, hmax, hdur, hsure⟩
        · omega
        have HF := Lib.hid (at_fail hJ.at_.at_ kp (by omega) false)
        have hSf := hJ.file
        have hSz := hJ.size
        clear hJ
        go_wp2_with fail
        refine HF.out.mono ?_
        rintro x w4 ⟨d2, S2, rfl, hb, hA, hsp⟩
        have hsp : FailSpec S S.dur kp S2 := hsp
        rw [hdur] at hsp
        obtain ⟨b2, hk2, hfile, hno⟩ := fail_one hsp
        have hz2 : S2.size = 1000000 := hsp.1.trans hSz
        have hbytes : (S2.file b2).bytes = (BU rs n).take (fr + min kp ((BU rs n).length - fr)) := by
          rw [hfile]
          show List.take ((S.file f).sure + min kp ((S.file f).bytes.length - (S.file f).sure)) (S.file f).bytes = _
          rw [hSf, hsure]
        have hfn : fr ≤ (BU rs n).length := by rw [hfr]; exact BU_mono rs (by omega)
        have hbn := BU_len rs (fun r hr => U.out.len hr) n
        rw [List.take_of_length_le (by omega)] at hbn
        have hRT : Jr.Reads (S2.file b2).bytes ((rs.take wf).map Rcd.l) (BU rs wf).length ∧ (wf = n → (S2.file b2).bytes.length = (BU rs wf).length) ∧ (wf < n → (S2.file b2).bytes.length = (BU rs wf).length + lf) := by
          by_cases hw : wf = n
          · have e : (S2.file b2).bytes = BU rs n := by rw [hbytes, List.take_of_length_le]; rw [hw] at hlf; omega
            refine ⟨?_, fun _ => by rw [e, hw], fun h => by omega⟩
            rw [e, hw, List.take_of_length_le (by omega)]
            exact BU_all rs n hrl
          · have hm := hmax (by omega)
            have hmo := BU_mono rs (i := wf + 1) (j := n) (by omega)
            have e : (S2.file b2).bytes = (BU rs n).take (fr + kp) := by rw [hbytes, Nat.min_eq_left (by omega)]
            refine ⟨?_, fun h => absurd h hw, fun _ => ?_⟩
            · rw [e]; exact BU_cut hrl (by omega) (by omega) hm
            · rw [e, List.length_take]; omega
        obtain ⟨hR, hT1, hT2⟩ := hRT
        have hlen2 : S2.len b2 ≤ 320560 := by
          show (S2.file b2).bytes.length ≤ _
          rw [hbytes, List.length_take]; omega
        have hleft : S2.left = 1000000 - (S2.file b2).bytes.length := by rw [left_oneJ hA hk2 hno, hz2]
        have HO := Lib.hid (open_has hA jn (by decide) (by decide) hk2 (by omega))
        clear hsp hfile hb hdur hsure hmax hbytes hfn hbn hfr hno hSf hSz HF hA
        go_wp2_with fail
        refine HO.out.mono ?_
        rintro x w5 ⟨p3, vr, rs', fin, rfl, hr, hrec, hJ3, hb5, _⟩
        obtain ⟨hrs, rfl⟩ := hr.one hR
        obtain ⟨A3, c3, rfl, _⟩ := own_shape hrec.row
        have hl3 : rs'.length = wf := by
          have := congrArg List.length hrs
          rw [List.length_map, List.length_map, List.length_take] at this; omega
        rw [hl3]
        have hlow := hJ3.low
        have hLa := Lies.of_own hrec.row
        rw [hl3] at hLa
        have hgs : ∀ r ∈ rs', Lies w5 w5.heap.size 1 r.A r.n (r.l.map bv) ∧ r.n ≤ 4611686018427387904 := fun r hm => by
          have hL := Lies.of_own (hrec.each r hm)
          refine ⟨hL, ?_⟩
          have h1 : r.l ∈ (rs.take wf).map Rcd.l := by rw [← hrs]; exact List.mem_map.2 ⟨r, hm, rfl⟩
          obtain ⟨q, hq, hql⟩ := List.mem_map.1 h1
          have h2 := U.out.len (List.mem_of_mem_take hq)
          have h3 := (U.out q (List.mem_of_mem_take hq)).2
          have := hL.blen
          rw [hql] at h2; omega
        have hcut : ∀ W, (Instr.slice 31 (.slice A n c) none (some (.int .i64 (wf : Int))) none).run Try.prog W = .ok (.slice A wf c) W := fun W => run_headR W _ n c wf (by omega)
        have HSm := Lib.hid (sameR_yes (c := c3) (c2 := c) hLa (lies_takeR ((Y.out.below hlow).more hlow.size) hwn) hgs (Rcds.take ((U.out.below hlow).more hlow.size) wf) (by omega) hrs)
        have HJ3 := Lib.hid hJ3
        clear hr hR hrec hJ3 hb5 hrs hLa hgs hlow HO
        go_wp2_with fail
        refine HSm.out.mono ?_
        rintro x w6 ⟨rfl, hb6⟩
        have HJ := Lib.hid (HJ3.out.below hb6)
        clear hb6 HSm HJ3
        go_wp2_with fail
        have hJA := HJ.out.below (below_a (Below.refl _ w6) (.cells #[.int .u8 109, .int .u8 111, .int .u8 114, .int .u8 101] 5 (4, 5)))
        by_cases hw : wf = n ∨ lf = 0
        · have hT : S2.len b2 = (BU rs wf).length := by
            show (S2.file b2).bytes.length = _
            rcases Nat.lt_or_ge wf n with h | h
            · rw [hT2 h]; omega
            · exact hT1 (by omega)
          have hw8 := wr_len_le (BU rs wf).length [109, 111, 114, 101]
          rw [show ([109, 111, 114, 101] : List UInt8).length = 4 from rfl] at hw8
          have hlf2 : S2.left = 1000000 - S2.len b2 := hleft
          refine (add_app hJA (some ⟨w6.heap.size, 0, none⟩) 4 4 [109, 111, 114, 101] (lits_bytes w6 [109, 111, 114, 101] _ _) (by decide) (by decide) (by decide) (by decide) (by decide) hk2 hT (by omega) ⟨by rw [hlf2]; omega, by omega⟩).mono ?_
          rintro x w7 ⟨rfl, hJ⟩
          have HFin := Lib.hid hJ.low
          clear hJ hJA hw8 hleft hlf2 hT hT1 hT2
          by_cases hwn2 : wf = n
          · have jw : (wf : Int) = (n : Int) := by omega
            go_wp2
            go_ret
            exact ⟨rfl, HFin.out⟩
          · have jw : ¬ (wf : Int) = (n : Int) := by omega
            have jl : (lf : Int) = 0 := by omega
            go_wp2
            all_goals go_ret
            all_goals exact ⟨rfl, HFin.out⟩
        · have hT : S2.len b2 ≠ (BU rs wf).length := by
            show (S2.file b2).bytes.length ≠ _
            rw [hT2 (by omega)]; omega
          refine (add_state hJA (some ⟨w6.heap.size, 0, none⟩) 4 4 (by decide) (by decide) (by decide) hk2 hT).mono ?_
          rintro x w7 ⟨rfl, hb7⟩
          have HFin := Lib.hid (hJA.below hb7).low
          clear hb7 hJA hleft hT hT1 hT2
          have jw : ¬ (wf : Int) = (n : Int) := by omega
          have jl : ¬ (lf : Int) = 0 := by omega
          clear hw
          go_wp2
          all_goals first | (exfalso; rename_i hq; rcases hq with hq | hq <;> (have := eq_of_beq hq; omega)) | skip
          all_goals go_ret
          all_goals exact ⟨rfl, HFin.out⟩
  · obtain rfl : n = 0 := by omega
    obtain rfl : K = 0 := by omega
    have HR : Hid (SureRel w d p f 0 rs 0 kp (.int .i64 0) (.int .i64 0) (.int .i64 (kp : Int)) (.int .i64 0) w3) :=
      ⟨0, 0, 0, kp, _, rfl, rfl, rfl, rfl, by omega, HJ.out, .inl ⟨by omega, rfl, rfl, rfl⟩⟩
    clear HJ
    go_wp2
    go_loopw [10, 11, 12, 13] (fun fr wf lf i wr => SureRel w d p f 0 rs 0 kp fr wf lf i wr) (fun _ _ _ i _ => 0 + 1 - (intOf i).toNat)
    case atStart => exact HR.out
    case round =>
      clear HR
      obtain ⟨i0, fr, wf, lf, S, rfl, rfl, rfl, rfl, hi0, hJ, hst⟩ := hrel
      by_cases hin : i0 = 0
      · subst hin
        rcases hst with ⟨hiK, rfl, rfl, e2⟩ | ⟨hiK, _⟩
        · obtain rfl := e2.symm
          have hJ : Jn w wr d p f S [] [] := hJ
          have HZ := Lib.hid (jn_size hJ)
          have HJ := Lib.hid hJ
          clear hJ
          go_wp2_with fail
          refine HZ.out.mono ?_
          rintro x w4 ⟨rfl, hb⟩
          have HJ := Lib.hid (HJ.out.below hb)
          clear hb HZ
          go_wp2_with fail
          refine (jn_sync HJ.out).mono ?_
          rintro x w5 ⟨rfl, hJ⟩
          have HJ := Lib.hid hJ; clear hJ
          go_wp2_with fail
          refine (jn_names HJ.out).mono ?_
          rintro x w6 ⟨rfl, hJ⟩
          have HJ := Lib.hid hJ
          have hsu : (((S.sync f).names).file f).sure = 0 := by
            show (upd S.file f ⟨(S.file f).bytes, (S.file f).bytes.length⟩ f).sure = 0
            rw [upd_same]
            have := hJ.file
            rw [show (((S.sync f).names).file f).bytes = (S.file f).bytes from by show (upd S.file f _ f).bytes = _; rw [upd_same]] at this
            rw [this]; rfl
          have HSU : Hid (SureAt 0 rs 0 kp f ((S.sync f).names) 1 0 0 kp) :=
            .inr ⟨by omega, by omega, by omega, by omega, rfl, by show kp + 0 = 0 + kp; omega, fun h => by omega, hJ.pres, hsu⟩
          clear hJ hsu
          generalize (S.sync f).names = Sx at *
          go_wp2
          go_roundw
          case rel => exact ⟨1, _, _, _, _, by go_num, by go_num, by go_num, rfl, by omega, HJ.out, HSU.out⟩
          case measure => simp [intOf]
        · omega
      · have j0 : ¬ (i0 : Int) ≤ 0 := by omega
        obtain rfl : i0 = 0 + 1 := by omega
        rw [Nat.min_eq_right (by omega)] at hJ
        rcases hst with ⟨h, _⟩ | ⟨hiK, hKw, hwi, hwn, hfr, hlf, hmax, hdur, hsure⟩
        · omega
        have HF := Lib.hid (at_fail hJ.at_.at_ kp (by omega) false)
        have hSf := hJ.file
        have hSz := hJ.size
        clear hJ
        go_wp2_with fail
        refine HF.out.mono ?_
        rintro x w4 ⟨d2, S2, rfl, hb, hA, hsp⟩
        have hsp : FailSpec S S.dur kp S2 := hsp
        rw [hdur] at hsp
        obtain ⟨b2, hk2, hfile, hno⟩ := fail_one hsp
        have hz2 : S2.size = 1000000 := hsp.1.trans hSz
        have hbytes : (S2.file b2).bytes = (BU rs 0).take (fr + min kp ((BU rs 0).length - fr)) := by
          rw [hfile]
          show List.take ((S.file f).sure + min kp ((S.file f).bytes.length - (S.file f).sure)) (S.file f).bytes = _
          rw [hSf, hsure]
        have hfn : fr ≤ (BU rs 0).length := by rw [hfr]; exact BU_mono rs (by omega)
        have hbn := BU_len rs (fun r hr => U.out.len hr) 0
        rw [List.take_of_length_le (by omega)] at hbn
        have hRT : Jr.Reads (S2.file b2).bytes ((rs.take wf).map Rcd.l) (BU rs wf).length ∧ (wf = 0 → (S2.file b2).bytes.length = (BU rs wf).length) ∧ (wf < 0 → (S2.file b2).bytes.length = (BU rs wf).length + lf) := by
          by_cases hw : wf = 0
          · have e : (S2.file b2).bytes = BU rs 0 := by rw [hbytes, List.take_of_length_le]; rw [hw] at hlf; omega
            refine ⟨?_, fun _ => by rw [e, hw], fun h => by omega⟩
            rw [e, hw, List.take_of_length_le (by omega)]
            exact BU_all rs 0 hrl
          · have hm := hmax (by omega)
            have hmo := BU_mono rs (i := wf + 1) (j := 0) (by omega)
            have e : (S2.file b2).bytes = (BU rs 0).take (fr + kp) := by rw [hbytes, Nat.min_eq_left (by omega)]
            refine ⟨?_, fun h => absurd h hw, fun _ => ?_⟩
            · rw [e]; exact BU_cut hrl (by omega) (by omega) hm
            · rw [e, List.length_take]; omega
        obtain ⟨hR, hT1, hT2⟩ := hRT
        have hlen2 : S2.len b2 ≤ 320560 := by
          show (S2.file b2).bytes.length ≤ _
          rw [hbytes, List.length_take]; omega
        have hleft : S2.left = 1000000 - (S2.file b2).bytes.length := by rw [left_oneJ hA hk2 hno, hz2]
        have HO := Lib.hid (open_has hA jn (by decide) (by decide) hk2 (by omega))
        clear hsp hfile hb hdur hsure hmax hbytes hfn hbn hfr hno hSf hSz HF hA
        go_wp2_with fail
        refine HO.out.mono ?_
        rintro x w5 ⟨p3, vr, rs', fin, rfl, hr, hrec, hJ3, hb5, _⟩
        obtain ⟨hrs, rfl⟩ := hr.one hR
        obtain ⟨A3, c3, rfl, _⟩ := own_shape hrec.row
        have hl3 : rs'.length = wf := by
          have := congrArg List.length hrs
          rw [List.length_map, List.length_map, List.length_take] at this; omega
        rw [hl3]
        have hlow := hJ3.low
        have hLa := Lies.of_own hrec.row
        rw [hl3] at hLa
        have hgs : ∀ r ∈ rs', Lies w5 w5.heap.size 1 r.A r.n (r.l.map bv) ∧ r.n ≤ 4611686018427387904 := fun r hm => by
          have hL := Lies.of_own (hrec.each r hm)
          refine ⟨hL, ?_⟩
          have h1 : r.l ∈ (rs.take wf).map Rcd.l := by rw [← hrs]; exact List.mem_map.2 ⟨r, hm, rfl⟩
          obtain ⟨q, hq, hql⟩ := List.mem_map.1 h1
          have h2 := U.out.len (List.mem_of_mem_take hq)
          have h3 := (U.out q (List.mem_of_mem_take hq)).2
          have := hL.blen
          rw [hql] at h2; omega
        have hcut : ∀ W, (Instr.slice 31 (.slice A 0 c) none (some (.int .i64 (wf : Int))) none).run Try.prog W = .ok (.slice A wf c) W := fun W => run_headR W _ 0 c wf (by omega)
        have HSm := Lib.hid (sameR_yes (c := c3) (c2 := c) hLa (lies_takeR ((Y.out.below hlow).more hlow.size) hwn) hgs (Rcds.take ((U.out.below hlow).more hlow.size) wf) (by omega) hrs)
        have HJ3 := Lib.hid hJ3
        clear hr hR hrec hJ3 hb5 hrs hLa hgs hlow HO
        go_wp2_with fail
        refine HSm.out.mono ?_
        rintro x w6 ⟨rfl, hb6⟩
        have HJ := Lib.hid (HJ3.out.below hb6)
        clear hb6 HSm HJ3
        go_wp2_with fail
        have hJA := HJ.out.below (below_a (Below.refl _ w6) (.cells #[.int .u8 109, .int .u8 111, .int .u8 114, .int .u8 101] 5 (4, 5)))
        by_cases hw : wf = 0 ∨ lf = 0
        · have hT : S2.len b2 = (BU rs wf).length := by
            show (S2.file b2).bytes.length = _
            rcases Nat.lt_or_ge wf 0 with h | h
            · rw [hT2 h]; omega
            · exact hT1 (by omega)
          have hw8 := wr_len_le (BU rs wf).length [109, 111, 114, 101]
          rw [show ([109, 111, 114, 101] : List UInt8).length = 4 from rfl] at hw8
          have hlf2 : S2.left = 1000000 - S2.len b2 := hleft
          refine (add_app hJA (some ⟨w6.heap.size, 0, none⟩) 4 4 [109, 111, 114, 101] (lits_bytes w6 [109, 111, 114, 101] _ _) (by decide) (by decide) (by decide) (by decide) (by decide) hk2 hT (by omega) ⟨by rw [hlf2]; omega, by omega⟩).mono ?_
          rintro x w7 ⟨rfl, hJ⟩
          have HFin := Lib.hid hJ.low
          clear hJ hJA hw8 hleft hlf2 hT hT1 hT2
          by_cases hwn2 : wf = 0
          · have jw : (wf : Int) = (0 : Int) := by omega
            go_wp2
            go_ret
            exact ⟨rfl, HFin.out⟩
          · have jw : ¬ (wf : Int) = (0 : Int) := by omega
            have jl : (lf : Int) = 0 := by omega
            go_wp2
            all_goals go_ret
            all_goals exact ⟨rfl, HFin.out⟩
        · have hT : S2.len b2 ≠ (BU rs wf).length := by
            show (S2.file b2).bytes.length ≠ _
            rw [hT2 (by omega)]; omega
          refine (add_state hJA (some ⟨w6.heap.size, 0, none⟩) 4 4 (by decide) (by decide) (by decide) hk2 hT).mono ?_
          rintro x w7 ⟨rfl, hb7⟩
          have HFin := Lib.hid (hJA.below hb7).low
          clear hb7 hJA hleft hT hT1 hT2
          have jw : ¬ (wf : Int) = (0 : Int) := by omega
          have jl : ¬ (lf : Int) = 0 := by omega
          clear hw
          go_wp2
          all_goals first | (exfalso; rename_i hq; rcases hq with hq | hq <;> (have := eq_of_beq hq; omega)) | skip
          all_goals go_ret
          all_goals exact ⟨rfl, HFin.out⟩

theorem journalsSure_walk (A : Option Addr) (n c : Nat) (rs : List Rcd) (m1 m2 : Nat) (w : World) (y : Lies w w.heap.size 1 A n (rs.map Rcd.v)) (u : Rcds w w.heap.size rs) (hnc : n ≤ c) (hc : c ≤ 140737488351232) (hm1 : m1 < 256) (hm2 : m2 < 65536) :
    Calls Try.prog 5 #[.slice A n c, .int .u8 (m1 : Int), .int .u16 (m2 : Int)] w fun e w' => e = .returned (.bool true) ∧ Below w.heap.size w w' := by
  by_cases h : 40 < n ∨ 40000 < n + rsum rs
  · exact journalsSure_big A n c m1 m2 rs w y u (by omega) h
  · exact journalsSure_all A n c m1 m2 rs w y u hnc hm1 hm2 (by omega) (by omega)
end Go.Proofs.Ytbpdonnneleeeaa
