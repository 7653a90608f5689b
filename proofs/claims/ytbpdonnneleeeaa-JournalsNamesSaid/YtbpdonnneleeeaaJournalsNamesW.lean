/-
  The walk of JournalsNames.
-/
import Derived.Test.YtbpdonnneleeeaaJNames
namespace Go.Proofs.Ytbpdonnneleeeaa
open Go.RowKit Go.Maps Go.Sort
set_option linter.unusedVariables false
set_option maxRecDepth 100000

theorem journalsNames_big (s : ByteArray) (A : Option Addr) (n c : Nat) (w : World) (hs : s.size ≤ 140737488351232) (hn : n ≤ 140737488351232) (hcase : 1000 < s.size ∨ 1000 < n) :
    Calls Try.prog 8 #[.string s, .slice A n c] w fun e w' => e = .returned (.bool true) ∧ Below w.heap.size w w' := by
  go_enter Try.func8, Try.ntmps8
  go_wp2_with fail
  refine (alive6_any w).mono ?_
  rintro x w1 ⟨rfl, hb1⟩
  have HB := Lib.hid hb1; clear hb1
  have F1 : Hid (Calls Try.prog 13 #[] w1 fun e w' => e = .returned (.bool true) ∧ Below w.heap.size w w') := (alive6_any w1).mono fun x w' ⟨hx, hb⟩ => ⟨hx, HB.out.trans (hb.mono HB.out.size)⟩
  by_cases h1 : 1000 < s.size
  · have i1 : (1000 : Int) < (s.size : Int) := by omega
    go_wp2_with fail
    refine F1.out.mono ?_
    rintro x w2 ⟨rfl, hb⟩
    have HB2 := Lib.hid hb; clear hb
    go_wp2
    go_ret
    exact ⟨rfl, HB2.out⟩
  · have i1 : (s.size : Int) ≤ 1000 := by omega
    have i2 : (1000 : Int) < (n : Int) := by omega
    go_wp2_with fail
    refine F1.out.mono ?_
    rintro x w2 ⟨rfl, hb⟩
    have HB2 := Lib.hid hb; clear hb
    go_wp2
    go_ret
    exact ⟨rfl, HB2.out⟩

set_option maxHeartbeats 8000000 in
theorem journalsNames_all (s : ByteArray) (A : Option Addr) (n c : Nat) (l : List UInt8) (w : World) (h1 : s.size ≤ 1000) (h2 : n ≤ 1000) (y : Lies w w.heap.size 1 A n (l.map bv)) (hnc : n ≤ c) (hc : c ≤ 140737488351232) :
    Calls Try.prog 8 #[.string s, .slice A n c] w fun e w' => e = .returned (.bool true) ∧ Below w.heap.size w w' := by
  have Y := Lib.hid y; have hll := y.blen; clear y
  have i1 : (s.size : Int) ≤ 1000 := by omega
  have i2 : (n : Int) ≤ 1000 := by omega
  have hs : s.size ≤ 140737488355328 := by omega
  go_enter Try.func8, Try.ntmps8
  go_wp2_with fail
  refine (alive6_any w).mono ?_
  rintro x w1 ⟨rfl, hb1⟩
  have HN := Lib.hid (at_new hb1 100000 (by decide) (by decide)); clear hb1
  go_wp2_with fail
  refine HN.out.mono ?_
  rintro x w2 ⟨d, rfl, hA⟩
  have HA := Lib.hid hA; clear hA HN
  by_cases hok : okName s.data.toList = true
  · go_wp2_with fail
    refine (at_create HA.out s hs hok rfl (by decide)).mono ?_
    rintro x w3 ⟨rfl, b, _, hA⟩
    have HA := Lib.hid hA; clear hA
    go_wp2_with fail
    refine (at_remove HA.out s hs hok (f := b) (look_one b s.data.toList)).mono ?_
    rintro x w4 ⟨rfl, hA⟩
    have HA : Hid (At w w4 d (SN s.data.toList b)) := hA
    clear hA
    have HO := Lib.hid (open_new HA.out s hs hok (by rw [SN_pres]; rfl) (by rw [SN_pres]; decide))
    go_wp2_with fail
    refine HO.out.mono ?_
    rintro x w5 ⟨p, A1, c1, b2, rfl, hJ, _⟩
    have HJ : Hid (JAt w w5 d (SM s.data.toList b b2) p s 0) := hJ
    have hlk := SM_look s.data.toList b b2
    have hL1 : (SM s.data.toList b b2).list = [s.data.toList] := one_list hJ.at_ hlk (fun k' hk => by
      show look (SM s.data.toList b b2).pres k' = none
      rw [SM_pres]; exact look_one_not b2 hk)
    have HL := Lib.hid (at_list HJ.out.at_)
    rw [hL1] at HL
    clear hJ HO hL1
    go_wp2_with fail
    refine HL.out.mono ?_
    rintro x w6 ⟨A2, c2, rfl, hl6, hb6⟩
    have HJ := Lib.hid (HJ.out.below hb6)
    have HT := Lib.hid (texts_one (c := c2) s.data.toList s.data.toList 9 hl6)
    rw [decide_eq_true (rfl : s.data.toList = s.data.toList)] at HT
    clear hl6 hb6 HL
    go_wp2_with fail
    refine HT.out.mono ?_
    rintro x w7 ⟨rfl, hb7⟩
    have HJ := Lib.hid (HJ.out.below hb7)
    have hwr := wr_len_le 0 l
    have hlf := SM_left s.data.toList b b2
    have hle := SM_len s.data.toList b b2
    have HAd := Lib.hid (add_app HJ.out A n c l ((Y.out.below HJ.out.low).more HJ.out.low.size) (by omega) hnc (by omega) hs hok hlk hle (by decide) ⟨by rw [hlf]; omega, by rw [hle]; omega⟩)
    clear hb7 HT
    go_wp2_with fail
    refine HAd.out.mono ?_
    rintro x w8 ⟨rfl, hJ⟩
    generalize 0 + (Jr.wr 0 l).length = fin at hJ
    have HJ := Lib.hid hJ
    have HRm := Lib.hid (p_remove hJ s hs hok (f := b2) hlk)
    clear hJ HAd
    go_wp2_with fail
    refine HRm.out.mono ?_
    rintro x w9 ⟨rfl, hJ⟩
    generalize hS9 : ((SM s.data.toList b b2).append b2 (Jr.wr 0 l)).remove s.data.toList = S9 at hJ
    have hk9 : look S9.pres s.data.toList = none := by
      rw [← hS9]
      show look ((SM s.data.toList b b2).pres.del (.string s.data.toList)) s.data.toList = none
      rw [look_del, if_pos rfl]
    have HJ : Hid (JAt w w9 d S9 p s fin) := hJ
    have HA2 := Lib.hid (add_size HJ.out A n c (by omega) hs (.int .i64 0) 7 (fun W hW => at_size_none (HJ.out.below hW).at_ s hs hok hk9) (by decide))
    clear hJ hS9 HRm
    go_wp2_with fail
    refine HA2.out.mono ?_
    rintro x w10 ⟨rfl, hb10⟩
    have HJ := Lib.hid (HJ.out.below hb10)
    have HSy := Lib.hid (sync_as HJ.out 7 (fun W => JAt w W d S9 p s fin) (fun W hW => ⟨hW.cell rfl, hW.cell rfl⟩) fun W hW _ => (at_sync_none hW.at_ s hs hok hk9).mono fun x w' ⟨hx, hb⟩ => ⟨hx, hW.below hb⟩)
    clear hb10 HA2
    go_wp2_with fail
    refine HSy.out.mono ?_
    rintro x w11 ⟨rfl, hJ⟩
    have HF := Lib.hid hJ.low
    clear hJ
    go_wp2
    go_ret
    exact ⟨rfl, HF.out⟩
  · have hok2 : okName s.data.toList = false := by cases h : okName s.data.toList <;> simp_all
    have ha : argErr [okName s.data.toList] = 1 := argErr_no (by simp [hok2])
    have HC := Lib.hid (at_create_no HA.out s hs 1 (by rw [ha]; rfl) (by decide))
    go_wp2_with fail
    refine HC.out.mono ?_
    rintro x w3 ⟨rfl, hb3⟩
    have HA := Lib.hid (HA.out.below hb3)
    have HO := Lib.hid (open_bad HA.out s hs hok2)
    clear hb3 HC
    go_wp2_with fail
    refine HO.out.mono ?_
    rintro x w4 ⟨rfl, hb4⟩
    have HA := Lib.hid (HA.out.below hb4)
    have HL := Lib.hid (at_list HA.out)
    rw [show (St.new 100000).list = [] from (list_is HA.out.presOK HA.out.tidy [] List.nodup_nil (fun k => by rw [show look (St.new 100000).pres k = none from rfl]; simp)).trans (by simp)] at HL
    clear hb4 HO
    go_wp2_with fail
    refine HL.out.mono ?_
    rintro x w5 ⟨A2, c2, rfl, _, hb5⟩
    have HF := Lib.hid (HA.out.below hb5).low
    clear hb5
    go_wp2
    go_ret
    exact ⟨rfl, HF.out⟩

theorem journalsNames_walk (s : ByteArray) (A : Option Addr) (n c : Nat) (l : List UInt8) (w : World) (hs : s.size ≤ 140737488351232) (y : Lies w w.heap.size 1 A n (l.map bv)) (hnc : n ≤ c) (hc : c ≤ 140737488351232) :
    Calls Try.prog 8 #[.string s, .slice A n c] w fun e w' => e = .returned (.bool true) ∧ Below w.heap.size w w' := by
  by_cases h : 1000 < s.size ∨ 1000 < n
  · exact journalsNames_big s A n c w hs (by omega) h
  · exact journalsNames_all s A n c l w (by omega) (by omega) y hnc hc
end Go.Proofs.Ytbpdonnneleeeaa
