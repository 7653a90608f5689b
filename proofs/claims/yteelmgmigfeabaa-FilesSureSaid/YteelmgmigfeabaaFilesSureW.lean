/-
  The walk of FilesSure.
-/
import Derived.Test.YteelmgmigfeabaaSure
import Derived.Deep.RegionHeld3
namespace Go.Proofs.Yteelmgmigfeabaa
open Go.RowKit Go.Maps Go.Sort
set_option linter.unusedVariables false
set_option maxRecDepth 20000

def sMine : ByteArray := ⟨#[109, 105, 110, 101]⟩
abbrev kMine : List UInt8 := [109, 105, 110, 101]
section
variable (S : St) (f : Nat) (la lb : List UInt8)
def Z1 : St := S.create [109, 105, 110, 101] f
def Z2 : St := (Z1 S f).append f la
def Z3 : St := (Z2 S f la).sync f
def Z4 : St := (Z3 S f la).names
def Z5 : St := (Z4 S f la).append f lb
theorem Z5_both : (Z5 S f la lb).dur = (Z5 S f la lb).pres := rfl
theorem Z1_file : (Z1 S f).file f = ⟨[], 0⟩ := upd_same _ _ _
theorem Z2_file : (Z2 S f la).file f = ⟨la, 0⟩ := by show upd _ _ _ _ = _; rw [upd_same, Z1_file]; rfl
theorem Z3_file : (Z3 S f la).file f = ⟨la, la.length⟩ := by show upd _ _ _ _ = _; rw [upd_same, Z2_file]
theorem Z5_file : (Z5 S f la lb).file f = ⟨la ++ lb, la.length⟩ := by show upd _ _ _ _ = _; rw [upd_same, show (Z4 S f la).file f = _ from Z3_file S f la]
variable {S}
theorem Z_look (hM : IsMap S.pres) : look (Z1 S f).pres [109, 105, 110, 101] = some f := by
  show look (S.pres.put _ _) _ = _
  rw [look_put _ hM, if_pos rfl]
end

set_option maxHeartbeats 4000000 in
theorem filesSure_small (A : Option Addr) (n c : Nat) (l : List AcC) (a b : ByteArray) (kp : Nat) (w : World) (hl : Lies w w.heap.size 7 A n (acs l)) (ha : Acts w w.heap.size l) (hkp : kp < 256) (hsz : a.size + b.size ≤ 10000) (hn : n ≤ 140737488351232) :
    Calls Try.prog 4 #[.slice A n c, .agg #[.string a, .string b], .int .u8 (kp : Int)] w fun e w' => e = .returned (.bool true) ∧ Below w.heap.size w w' := by
  have i1 : (a.size : Int) + (b.size : Int) ≤ 10000 := by omega
  have HF := Lib.hid (kw2_facts a b w)
  have HL : Hid (Lies (kw2 a b w) (kw2 a b w).heap.size 7 A n (acs l)) := (hl.below HF.out.1).more HF.out.1.size
  have HAc : Hid (Acts (kw2 a b w) (kw2 a b w).heap.size l) := (ha.below HF.out.1).more HF.out.1.size
  have ea : a.data.toList.length = a.size := by rw [Array.length_toList]; rfl
  have eb : b.data.toList.length = b.size := by rw [Array.length_toList]; rfl
  have EA := Lib.hid ea; have EB := Lib.hid eb; have HSZ := Lib.hid hsz; have HN := Lib.hid hn
  have HKp := Lib.hid (show kp ≤ 9223372036854775807 by omega)
  clear ea eb hsz hl ha hn
  go_enter Try.func4, Try.ntmps4
  go_wp2_with fail
  change Calls _ _ _ (kw2 a b w) _
  generalize kw2 a b w = W0 at *
  refine (alive5_any W0).mono ?_
  rintro x w1 ⟨rfl, hb1⟩
  obtain ⟨c0, c1⟩ := HF.out.2 w1 hb1
  have HB1 := Lib.hid hb1; clear hb1
  go_wp2_with fail
  refine (great_any A n c W0.heap.size l w1 (HL.out.below HB1.out) (HAc.out.below HB1.out) HN.out).mono ?_
  rintro x w2 ⟨gb, rfl, hfit, q, rfl⟩
  have HB1 := Lib.hid (below_drewN HB1.out q)
  have HFit := Lib.hid hfit
  clear hfit
  have c0 : (w1.drewN q).cell? ⟨w.heap.size, 0, none⟩ = some (.string a) := c0
  have c1 : (w1.drewN q).cell? ⟨w.heap.size, 1, none⟩ = some (.string b) := c1
  generalize w1.drewN q = w2 at *
  cases gb with
  | true =>
    go_wp2_with fail
    refine (alive5_any w2).mono ?_
    rintro x w3 ⟨rfl, hb3⟩
    have HB := Lib.hid (HF.out.1.trans ((HB1.out.trans (hb3.mono HB1.out.size)).mono HF.out.1.size))
    clear hb3 c0 c1
    go_wp2
    go_ret
    exact ⟨rfl, HB.out⟩
  | false =>
    have HFt := Lib.hid (HFit.out rfl)
    go_wp2_with fail
    refine (at_new (w0 := W0) HB1.out 1000000 (by decide) (by decide)).mono ?_
    rintro x w3 ⟨d, rfl, h2⟩
    have H := Lib.hid h2; clear h2 c0 c1
    go_wp2_with fail
    refine (at_does H.out A n c l HL.out HAc.out HFt.out.2).mono ?_
    rintro x w4 ⟨rfl, S1, h2, hs⟩
    have H := Lib.hid h2; have HSt := Lib.hid (hs.more HFt.out.1); clear h2 hs
    go_wp2_with fail
    refine (at_removed H.out sMine (by decide) (by decide)).mono ?_
    rintro x w5 ⟨er5, S2, rfl, h2, hs, hk⟩
    have H := Lib.hid h2; have HSt := Lib.hid (HSt.out.trans hs); have HK : Hid (look S2.pres [109, 105, 110, 101] = none) := hk
    have HLn := Lib.hid (list_len h2.tidy)
    have few := h2.few
    clear h2 hs hk
    go_wp2_with fail
    refine (at_list H.out).mono ?_
    rw [HLn.out]
    rintro x w6 ⟨A6, c6, rfl, _, b6⟩
    have H := Lib.hid (H.out.below b6); clear b6
    by_cases hfull : 64 ≤ Maps.size S2.pres
    · have j1 : (64 : Int) ≤ (Maps.size S2.pres : Int) := by omega
      have HB := Lib.hid (HF.out.1.trans (H.out.low.mono HF.out.1.size))
      clear hfull
      go_wp2
      go_ret
      exact ⟨rfl, HB.out⟩
    · have j1 : (Maps.size S2.pres : Int) < 64 := by omega
      have HMz : Hid (Maps.size S2.pres < 64) := by show _ < _; omega
      have hM : IsMap S2.pres := by obtain ⟨es, he, _⟩ := H.out.tidy; exact ⟨es, he⟩
      have HM := Lib.hid hM
      clear hM hfull
      go_wp2_with fail
      refine (at_create H.out sMine (by decide) (by decide) HK.out HMz.out).mono ?_
      rintro x w7 ⟨rfl, f, _, h2⟩
      have h2 : At W0 w7 d (Z1 S2 f) := h2
      have HLk := Lib.hid (Z_look f HM.out)
      have HSt := Lib.hid (HSt.out.trans (step_create (H.out.tidy) [109, 105, 110, 101] f (by decide)))
      have HSt : Hid (Step (St.new 1000000) (Z1 S2 f) 40000) := HSt.out
      have H := Lib.hid h2; clear h2 j1 few
      obtain ⟨c0, c1⟩ := HF.out.2 w7 H.out.low
      obtain ⟨w8, c8, hrun8, hB8, hL8⟩ := conv_bytes w7 a
      have HB8 := Lib.hid hB8; have HL8 := Lib.hid hL8; clear hB8 hL8
      go_wp2_with fail
      refine (at_append (H.out.below HB8.out) sMine (by decide) (by decide) _ a.size c8 a.data.toList HL8.out (f := f) HLk.out ⟨by have := step_left HSt.out; have := HSZ.out; omega, by show a.size + ((Z1 S2 f).file f).bytes.length ≤ _; rw [Z1_file]; have := HSZ.out; show a.size + 0 ≤ _; omega⟩).mono ?_
      rintro x w9 ⟨rfl, h2⟩
      have h2 : At W0 w9 d (Z2 S2 f a.data.toList) := h2
      have HSt : Hid (Step (St.new 1000000) (Z2 S2 f a.data.toList) (40000 + a.data.toList.length)) := HSt.out.trans (step_append H.out.tidy H.out.presOK H.out.inj _ f HLk.out a.data.toList)
      have H := Lib.hid h2; clear h2 hrun8 HB8 HL8 c0 c1
      go_wp2_with fail
      refine (at_sync H.out sMine (by decide) (by decide) (f := f) HLk.out).mono ?_
      rintro x w10 ⟨rfl, h2⟩
      have h2 : At W0 w10 d (Z3 S2 f a.data.toList) := h2
      have HSt : Hid (Step (St.new 1000000) (Z3 S2 f a.data.toList) (40000 + a.data.toList.length)) := HSt.out.trans (step_sync f)
      have H := Lib.hid h2; clear h2
      go_wp2_with fail
      refine (at_names H.out).mono ?_
      rintro x w11 ⟨rfl, h2⟩
      have h2 : At W0 w11 d (Z4 S2 f a.data.toList) := h2
      have HSt : Hid (Step (St.new 1000000) (Z4 S2 f a.data.toList) (40000 + a.data.toList.length)) := HSt.out.trans step_names
      have H := Lib.hid h2; clear h2
      obtain ⟨c0, c1⟩ := HF.out.2 w11 H.out.low
      obtain ⟨w12, c12, hrun12, hB12, hL12⟩ := conv_bytes w11 b
      have HB12 := Lib.hid hB12; have HL12 := Lib.hid hL12; clear hB12 hL12
      go_wp2_with fail
      refine (at_append (H.out.below HB12.out) sMine (by decide) (by decide) _ b.size c12 b.data.toList HL12.out (f := f) HLk.out ⟨by have h9 := step_left HSt.out; rw [EA.out] at h9; have := HSZ.out; omega, by show b.size + ((Z3 S2 f _).file f).bytes.length ≤ _; rw [Z3_file]; have := HSZ.out; show b.size + a.data.toList.length ≤ _; rw [EA.out]; omega⟩).mono ?_
      rintro x w13 ⟨rfl, h2⟩
      have h2 : At W0 w13 d (Z5 S2 f a.data.toList b.data.toList) := h2
      have H := Lib.hid h2; clear h2 hrun12 HB12 HL12 c0 c1 HSt
      go_wp2_with fail
      refine (at_fail_both H.out (Z5_both _ _ _ _) kp HKp.out _).mono ?_
      rintro x w14 ⟨dx, X, rfl, b9, hx, hsx⟩
      have hlk : look (Z5 S2 f a.data.toList b.data.toList).pres [109, 105, 110, 101] = some f := HLk.out
      obtain ⟨fx, x1, x2⟩ := (hsx.2.2 _).2 f hlk
      rw [Z5_file] at x2
      have HXn : Hid (∀ k, (look X.pres k).isSome = (look (Z5 S2 f a.data.toList b.data.toList).pres k).isSome) := fail_names hsx
      have HXb : Hid (X.dur = X.pres) := hsx.2.1
      have X1 := Lib.hid x1; have X2 := Lib.hid x2; have HX := Lib.hid hx
      have H := Lib.hid (H.out.below b9)
      clear x1 x2 hx hsx b9 hlk
      go_wp2_with fail
      refine (at_fail_both HX.out HXb.out 0 (by decide) _).mono ?_
      rintro x w15 ⟨dy, Y, rfl, b9, hy, hsy⟩
      obtain ⟨fy, y1, y2⟩ := (hsy.2.2 _).2 fx X1.out
      rw [X2.out] at y2
      have HYn : Hid (∀ k, (look Y.pres k).isSome = (look X.pres k).isSome) := fail_names hsy
      have Y1 := Lib.hid y1; have Y2 := Lib.hid y2; have HY := Lib.hid hy
      have H := Lib.hid (H.out.below b9); have HX := Lib.hid (HX.out.below b9)
      clear y1 y2 hy hsy b9
      obtain ⟨c0, c1⟩ := HF.out.2 w15 H.out.low
      have HBx : Hid ((X.file fx).bytes = a.data.toList ++ b.data.toList.take kp) := by show _ = _; rw [X2.out, cut_app]
      have HBy : Hid ((Y.file fy).bytes = a.data.toList ++ b.data.toList.take kp) := by show _ = _; rw [Y2.out, cut_all _ _ _ (by show a.data.toList.length ≤ (a.data.toList ++ b.data.toList).length; rw [List.length_append]; omega), cut_app]
      obtain ⟨Z, hZ⟩ : ∃ Z : ByteArray, Z = ⟨(a.data.toList ++ b.data.toList.take kp).toArray⟩ := ⟨_, rfl⟩
      have hcat : a ++ b.extract 0 (min kp b.size) = Z := by
        refine txt_same ?_
        rw [hZ]
        show (a ++ b.extract 0 (min kp b.size)).data.toList = a.data.toList ++ b.data.toList.take kp
        rw [show (a ++ b.extract 0 (min kp b.size)).data.toList = a.data.toList ++ (b.extract 0 (min kp b.size)).data.toList by simp, Lib.extract_data, List.drop_zero, Nat.sub_zero, ← EB.out, ← List.take_eq_take_min]
      have hsub : (b.extract 0 (min kp b.size)).size ≤ b.size := by rw [ByteArray.size_extract]; omega
      have p7 : a.size + (b.extract 0 (min kp b.size)).size ≤ 9223372036854775807 := by have := HSZ.out; omega
      have hadd2 : ∀ W, (Op.stringOp .add a (b.extract 0 (min kp b.size))).run Try.prog W = .ok (.string Z) W := fun W => by rw [← hcat]; exact run_string_add_sum W a _ p7
      have hwk : IntKind.i64.wrap (kp : Int) = (kp : Int) := (IntWalk.i64_left _).trans (IntWalk.wrap64_in _ ⟨by omega, by omega⟩)
      have h0 : (0 : Int) ≤ min (kp : Int) (b.size : Int) := by omega
      have h1 : min (kp : Int) (b.size : Int) ≤ (b.size : Int) := by omega
      have htn : (min (kp : Int) (b.size : Int)).toNat = min kp b.size := by omega
      have hadd3 : ∀ W, (Op.stringOp .add a (b.extract 0 (min (kp : Int) (b.size : Int)).toNat)).run Try.prog W = .ok (.string Z) W := fun W => by rw [htn]; exact hadd2 W
      have hslC : ∀ W, (Instr.slice 9 (.string b) none (some (.int .i64 (min (kp : Int) (b.size : Int)))) none).run Try.prog W = .ok (.string (b.extract 0 (min (kp : Int) (b.size : Int)).toNat)) W := fun W => by
        rw [run_slice_string_to_if W _ _ _ _ Try.underlying9, if_pos ⟨h0, h1⟩]
      have HHq : Hid (∀ nq, At W0 (w15.drewN nq) d (Z5 S2 f a.data.toList b.data.toList) ∧ At W0 (w15.drewN nq) dx X ∧ At W0 (w15.drewN nq) dy Y) := fun nq => ⟨H.out.below (below_q w15 nq), HX.out.below (below_q w15 nq), HY.out.below (below_q w15 nq)⟩
      have HZ := Lib.hid hZ
      clear htn hZ hcat hsub p7
      go_wp2_with fail
      go_quiet (fail)
      go_wp2_with fail
      refine (at_all (HHq.out _).2.1 sMine (by decide) (by decide) X1.out).mono ?_
      rw [HBx.out, ← HZ.out]
      rintro x w16 ⟨rfl, b9⟩
      have H := Lib.hid ((HHq.out _).1.below b9); have HX := Lib.hid ((HHq.out _).2.1.below b9); have HY := Lib.hid ((HHq.out _).2.2.below b9)
      clear b9
      go_wp2_with fail
      refine (at_all HY.out sMine (by decide) (by decide) Y1.out).mono ?_
      rw [HBy.out, ← HZ.out]
      rintro x w17 ⟨rfl, b9⟩
      have H := Lib.hid (H.out.below b9); have HX := Lib.hid (HX.out.below b9); have HY := Lib.hid (HY.out.below b9)
      clear b9
      have HXY : Hid (sameT X.list Y.list = true) := by show _ = _; rw [list_same HX.out HY.out (fun k => (HYn.out k).symm)]; exact sameT_self _
      have HXD : Hid (sameT X.list (Z5 S2 f a.data.toList b.data.toList).list = true) := by show _ = _; rw [list_same HX.out H.out HXn.out]; exact sameT_self _
      have HXl : Hid (X.list.length ≤ 4611686018427387904) := by have := list_len HX.out.tidy; have := HX.out.few; show _ ≤ _; omega
      go_wp2_with fail
      refine (at_list HX.out).mono ?_
      rintro x w18 ⟨A1, c1, rfl, ly, b9⟩
      have H := Lib.hid (H.out.below b9); have HX := Lib.hid (HX.out.below b9); have HY := Lib.hid (HY.out.below b9); have HL1 := Lib.hid ly
      clear b9 ly
      go_wp2_with fail
      refine (at_list HY.out).mono ?_
      rintro x w19 ⟨A2, c2, rfl, ly, b9⟩
      have H := Lib.hid (H.out.below b9); have HX := Lib.hid (HX.out.below b9); have HL1 := Lib.hid ((HL1.out.below b9).more b9.size); have HL2 := Lib.hid ly
      clear b9 ly
      go_wp2_with fail
      refine (texts_any A1 A2 _ _ c1 c2 w19.heap.size X.list Y.list w19 HL1.out HL2.out HXl.out).mono ?_
      rw [HXY.out]
      rintro x w20 ⟨rfl, q20, hw20⟩
      have b9 : Below w19.heap.size w19 w20 := by rw [hw20]; exact below_q w19 q20
      have H := Lib.hid (H.out.below b9); have HX := Lib.hid (HX.out.below b9)
      clear b9 hw20
      go_wp2_with fail
      refine (at_list HX.out).mono ?_
      rintro x w21 ⟨A3, c3, rfl, ly, b9⟩
      have H := Lib.hid (H.out.below b9); have HL1 := Lib.hid ly
      clear b9 ly
      go_wp2_with fail
      refine (at_list H.out).mono ?_
      rintro x w22 ⟨A4, c4, rfl, ly, b9⟩
      have H := Lib.hid (H.out.below b9); have HL1 := Lib.hid ((HL1.out.below b9).more b9.size); have HL2 := Lib.hid ly
      clear b9 ly
      go_wp2_with fail
      refine (texts_any A3 A4 _ _ c3 c4 w22.heap.size X.list (Z5 S2 f a.data.toList b.data.toList).list w22 HL1.out HL2.out HXl.out).mono ?_
      rw [HXD.out]
      rintro x w23 ⟨rfl, q23, hw23⟩
      have b9 : Below w22.heap.size w22 w23 := by rw [hw23]; exact below_q w22 q23
      have HB := Lib.hid (HF.out.1.trans ((H.out.below b9).low.mono HF.out.1.size))
      clear b9 hw23
      go_wp2
      go_ret
      exact ⟨rfl, HB.out⟩

set_option maxHeartbeats 2000000 in
theorem filesSure_big (A : Option Addr) (n c : Nat) (l : List AcC) (a b : ByteArray) (kp : Nat) (w : World) (hl : Lies w w.heap.size 7 A n (acs l)) (ha : Acts w w.heap.size l) (hsz : 10000 < a.size + b.size) (h1 : a.size ≤ 140737488351232) (h2 : b.size ≤ 140737488351232) (hn : n ≤ 140737488351232) :
    Calls Try.prog 4 #[.slice A n c, .agg #[.string a, .string b], .int .u8 (kp : Int)] w fun e w' => e = .returned (.bool true) ∧ Below w.heap.size w w' := by
  have i1 : (10000 : Int) < (a.size : Int) + (b.size : Int) := by omega
  have HF := Lib.hid (kw2_facts a b w)
  have HL : Hid (Lies (kw2 a b w) (kw2 a b w).heap.size 7 A n (acs l)) := (hl.below HF.out.1).more HF.out.1.size
  have HAc : Hid (Acts (kw2 a b w) (kw2 a b w).heap.size l) := (ha.below HF.out.1).more HF.out.1.size
  have HN := Lib.hid hn
  clear hsz hl ha hn
  go_enter Try.func4, Try.ntmps4
  go_wp2_with fail
  change Calls _ _ _ (kw2 a b w) _
  generalize kw2 a b w = W0 at *
  refine (alive5_any W0).mono ?_
  rintro x w1 ⟨rfl, hb1⟩
  obtain ⟨c0, c1⟩ := HF.out.2 w1 hb1
  have HB1 := Lib.hid hb1; clear hb1
  go_wp2_with fail
  refine (great_any A n c W0.heap.size l w1 (HL.out.below HB1.out) (HAc.out.below HB1.out) HN.out).mono ?_
  rintro x w2 ⟨gb, rfl, hfit, q, rfl⟩
  have HB1 := Lib.hid (below_drewN HB1.out q)
  clear hfit
  have c0 : (w1.drewN q).cell? ⟨w.heap.size, 0, none⟩ = some (.string a) := c0
  have c1 : (w1.drewN q).cell? ⟨w.heap.size, 1, none⟩ = some (.string b) := c1
  generalize w1.drewN q = w2 at *
  cases gb with
  | true =>
    go_wp2_with fail
    refine (alive5_any w2).mono ?_
    rintro x w3 ⟨rfl, hb3⟩
    have HB := Lib.hid (HF.out.1.trans ((HB1.out.trans (hb3.mono HB1.out.size)).mono HF.out.1.size))
    clear hb3 c0 c1
    go_wp2
    go_ret
    exact ⟨rfl, HB.out⟩
  | false =>
    go_wp2_with fail
    refine (alive5_any w2).mono ?_
    rintro x w3 ⟨rfl, hb3⟩
    have HB := Lib.hid (HF.out.1.trans ((HB1.out.trans (hb3.mono HB1.out.size)).mono HF.out.1.size))
    clear hb3 c0 c1
    go_wp2
    go_ret
    exact ⟨rfl, HB.out⟩

theorem filesSure_walk (A : Option Addr) (n c : Nat) (l : List AcC) (a b : ByteArray) (kp : Nat) (w : World) (y : Lies w w.heap.size 7 A n (acs l)) (u : Acts w w.heap.size l) (hnc : n ≤ c) (hc : c ≤ 140737488351232) (ha : a.size ≤ 140737488351232) (hb : b.size ≤ 140737488351232) (hkp : kp < 256) :
    Calls Try.prog 4 #[.slice A n c, .agg #[.string a, .string b], .int .u8 (kp : Int)] w fun e w' => e = .returned (.bool true) ∧ Below w.heap.size w w' := by
  by_cases h : 10000 < a.size + b.size
  · exact filesSure_big A n c l a b kp w y u h ha hb (by omega)
  · exact filesSure_small A n c l a b kp w y u hkp (by omega) (by omega)
end Go.Proofs.Yteelmgmigfeabaa
