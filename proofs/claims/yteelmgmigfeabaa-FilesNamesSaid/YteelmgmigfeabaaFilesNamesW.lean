/-
  The walk of FilesNames.
-/
import Derived.Test.YteelmgmigfeabaaNames
namespace Go.Proofs.Yteelmgmigfeabaa
open Go.RowKit Go.Maps Go.Sort
set_option linter.unusedVariables false
set_option maxRecDepth 100000

def NR (w : World) (d p n : Nat) (m i : Value) (wr : World) : Prop :=
  ∃ (k : Nat) (T : Nat → Bool) (S : St), k ≤ n ∧ i = .int .i64 (k : Int) ∧ m = .int .i64 (cnt T : Int) ∧ AtP w wr d S p (boolRow T) 62 ∧ IN T S
def NT (W2 : World) (T : Nat → Bool) (v i : Value) (wr : World) : Prop :=
  ∃ k : Nat, k ≤ 70 ∧ i = .int .i64 (k : Int) ∧ wr.ownsRow W2.heap.size 9 1 v ((List.range k).filter T).length (((List.range k).filter T).map fun i => sv (nm i)) ∧ Below W2.heap.size W2 wr
theorem ns_info : (Try.prog.info? 9).map (fun i => (i.zero, i.size, i.bytes)) = some (some (.string ByteArray.empty), 1, 16) := by kernel_rfl

set_option maxHeartbeats 4000000 in
theorem filesNames_small (A : Option Addr) (n c : Nat) (l : List UInt8) (w : World) (hl : Lies w w.heap.size 1 A n (l.map bv)) (hn : n ≤ 250) :
    Calls Try.prog 8 #[.slice A n c] w fun e w' => e = .returned (.bool true) ∧ Below w.heap.size w w' := by
  obtain ⟨i0, hi, hz0, hz1, hz2⟩ := info_parts ns_info
  have i2 : (n : Int) ≤ 250 := by omega
  have HL := Lib.hid hl
  clear hl
  go_enter Try.func8, Try.ntmps8
  go_wp2_with fail
  refine (alive5_any w).mono ?_
  rintro x w1 ⟨rfl, hb1⟩
  have HB1 := Lib.hid hb1; clear hb1
  go_wp2_with fail
  refine (at_new (w0 := w) HB1.out 100 (by decide) (by decide)).mono ?_
  rintro x w2 ⟨d, rfl, h2⟩
  have HP := Lib.hid (AtP.made h2 (boolRow fun _ => false) 62); clear h2
  have R1 : NR w d w2.heap.size n (.int .i64 0) (.int .i64 0) (w2.alloc (.cells (boolRow fun _ => false) 62)) := ⟨0, _, _, Nat.zero_le _, rfl, rfl, HP.out, IN.new 100⟩
  have R0 := Lib.hid R1; clear R1 HP
  go_wp2_with (refine wpList_newB rfl rfl ?_)
  generalize w2.alloc (.cells (boolRow fun _ => false) 62) = w3 at *
  generalize w2.heap.size = p at *
  go_loopw [6, 7] (fun m i wr => NR w d p n m i wr) (fun _ i _ => n - (intOf i).toNat)
  case atStart => exact R0.out
  case round =>
    clear R0
    obtain ⟨k, T, S, hk, rfl, rfl, hat, hin⟩ := hrel
    have HA := Lib.hid hat; have HI := Lib.hid hin
    have hsz := hin.size hat.at_
    have hfew : Maps.size S.pres ≤ 64 := by obtain ⟨F, ⟨pm, dm, val, hD⟩, _⟩ := hat; exact OwnD.size_le hD.pres
    clear hat hin
    obtain ⟨m, hm⟩ : ∃ m, cnt T = m := ⟨_, rfl⟩
    rw [hm] at hsz
    have hm64 : m ≤ 64 := by omega
    have HM := Lib.hid hm; have HSz := Lib.hid hsz
    rw [hm]
    clear hm hsz hfew
    by_cases hlt : k < n
    · obtain ⟨bb, o, x, hA, _, hx, hcell⟩ := (HL.out.below HA.out.low).byte hlt
      obtain ⟨ki, hki⟩ : ∃ ki : Nat, ki = x.toNat % 70 := ⟨_, rfl⟩
      obtain ⟨q, hq⟩ : ∃ q : Nat, q = ki / 10 := ⟨_, rfl⟩
      obtain ⟨r, hr⟩ : ∃ r : Nat, r = ki % 10 := ⟨_, rfl⟩
      have hxl := x.toNat_lt
      have hk70 : ki < 70 := by omega
      have hq7 : q < 7 := by omega
      have hr10 : r < 10 := by omega
      have hqr : q * 10 + r = ki := by omega
      have m1 : (x.toNat : Int) % 70 = (ki : Int) := by omega
      have m2 : Int.tmod (x.toNat : Int) 70 = (ki : Int) := by rw [Int.tmod_eq_emod_of_nonneg (by omega)]; exact m1
      have m3 : (ki : Int) / 10 = (q : Int) := by omega
      have m4 : Int.tdiv (ki : Int) 10 = (q : Int) := by rw [Int.tdiv_eq_ediv_of_nonneg (by omega)]; exact m3
      have m5 : (ki : Int) % 10 = (r : Int) := by omega
      have m6 : Int.tmod (ki : Int) 10 = (r : Int) := by rw [Int.tmod_eq_emod_of_nonneg (by omega)]; exact m5
      have hstr := name_str wr q r hq7 hr10
      obtain ⟨s, hs⟩ : ∃ s : ByteArray, s = ⟨(nm (q * 10 + r)).toArray⟩ := ⟨_, rfl⟩
      rw [← hs] at hstr
      have HS : Hid (s.data.toList = nm ki ∧ s.size ≤ 140737488355328 ∧ okName s.data.toList = true) := by
        have e1 : s.data.toList = nm ki := by rw [hs, hqr]
        refine ⟨e1, ?_, by rw [e1]; exact nm_ok ki hk70⟩
        rw [hs]; show (nm (q * 10 + r)).toArray.size ≤ _
        simp [nm]
      have hb1 : Below wr.heap.size wr (wr.alloc (.cells #[.int .u8 (97 + (q : Int)), .int .u8 (48 + (r : Int))] 5)) := below_a (Below.refl _ _) _
      have HA1 := Lib.hid (HA.out.below hb1)
      have c1 := HA1.out.cell (boolRow_at T hk70)
      subst hA
      clear hx hki hq hr hqr hs hb1
      cases hT : T ki with
      | true =>
        obtain ⟨ff, hff⟩ := HI.out.there hk70 hT
        rw [hT] at c1
        have HF : Hid (look S.pres s.data.toList = some ff) := by show _ = _; rw [HS.out.1]; exact hff
        have HT := Lib.hid hT
        clear hT hff
        go_wp2_with fail
        refine (at_create_no HA1.out.at_ s HS.out.2.1 8 (by rw [argOK1 HS.out.2.2, HF.out]; rfl) (by decide)).mono ?_
        rintro x' w4 ⟨rfl, b4⟩
        have HA4 := Lib.hid (HA1.out.below b4)
        clear b4 c1 hcell hstr
        go_wp2_with fail
        refine (p_remove HA4.out s HS.out.2.1 HS.out.2.2 HF.out).mono ?_
        rw [HS.out.1]
        rintro x' w5 ⟨rfl, h5⟩
        have HA5 := Lib.hid h5
        have c1 : w5.cell? ⟨p, ki, none⟩ = some (.bool true) := by rw [HA5.out.cell (boolRow_at T hk70), HT.out]
        have hfz : w5.frozen? ⟨p, ki, none⟩ = false := HA5.out.thaw _
        have HR : Hid (NR w d p n (.int .i64 ((m : Int) - 1)) (.int .i64 ((k : Int) + 1)) (w5.setCell ⟨p, ki, none⟩ (.bool false))) := by
          refine ⟨k + 1, upd T ki false, _, hlt, by go_num, ?_, ?_, HI.out.remove hk70⟩
          · have := cnt_off T ki hk70 HT.out
            rw [HM.out] at this
            congr 1; omega
          · have := HA5.out.set ki (.bool false)
            rw [boolRow_set] at this; exact this
        have hmp : 1 ≤ m := by have := cnt_off T ki hk70 HT.out; rw [HM.out] at this; omega
        clear h5
        go_wp2
        exact ⟨HR.out, by simp [intOf]; omega⟩
      | false =>
        rw [hT] at c1
        have HT := Lib.hid hT
        have HF : Hid (look S.pres s.data.toList = none) := by show _ = _; rw [HS.out.1]; exact HI.out.gone hk70 hT
        clear hT
        by_cases h64 : m < 64
        · have j1 : (m : Int) < 64 := by omega
          have HZ : Hid (Maps.size S.pres < 64) := by show _ < _; rw [HSz.out]; exact h64
          have HMp := Lib.hid (map_of_tidy5 HA1.out.at_.tidy)
          clear h64
          go_wp2_with fail
          refine (p_create HA1.out s HS.out.2.1 HS.out.2.2 HF.out HZ.out).mono ?_
          rw [HS.out.1]
          rintro x' w4 ⟨rfl, b, h4⟩
          have HA4 := Lib.hid h4
          have HI4 := Lib.hid (HI.out.create HMp.out hk70 b)
          clear h4 c1 hcell hstr
          go_wp2_with fail
          refine (at_remove_none HA4.out.at_ ⟨#[122, 122]⟩ (by decide) (by decide) HI4.out.zz).mono ?_
          rintro x' w5 ⟨rfl, b5⟩
          have HA5 := Lib.hid (HA4.out.below b5)
          have c1 : w5.cell? ⟨p, ki, none⟩ = some (.bool false) := by rw [HA5.out.cell (boolRow_at T hk70), HT.out]
          have hfz : w5.frozen? ⟨p, ki, none⟩ = false := HA5.out.thaw _
          have HR : Hid (NR w d p n (.int .i64 ((m : Int) + 1)) (.int .i64 ((k : Int) + 1)) (w5.setCell ⟨p, ki, none⟩ (.bool true))) := by
            refine ⟨k + 1, upd T ki true, _, hlt, by go_num, ?_, ?_, HI4.out⟩
            · have := cnt_on T ki hk70 HT.out
              rw [HM.out] at this
              congr 1; omega
            · have := HA5.out.set ki (.bool true)
              rw [boolRow_set] at this; exact this
          clear b5
          go_wp2
          exact ⟨HR.out, by simp [intOf]; omega⟩
        · have j1 : (64 : Int) ≤ (m : Int) := by omega
          have HZ : Hid (fullErr S.pres = 6) := by unfold Hid fullErr; rw [HSz.out, if_neg h64]
          clear h64
          go_wp2_with fail
          refine (at_create_no HA1.out.at_ s HS.out.2.1 6 (by rw [argOK1 HS.out.2.2, HF.out, HZ.out]; rfl) (by decide)).mono ?_
          rintro x' w4 ⟨rfl, b4⟩
          have HA4 := Lib.hid (HA1.out.below b4)
          clear b4 c1 hcell hstr
          go_wp2_with fail
          refine (at_remove_none HA4.out.at_ ⟨#[122, 122]⟩ (by decide) (by decide) HI.out.zz).mono ?_
          rintro x' w5 ⟨rfl, b5⟩
          have HR : Hid (NR w d p n (.int .i64 (m : Int)) (.int .i64 ((k : Int) + 1)) w5) := ⟨k + 1, T, S, hlt, by go_num, by rw [HM.out], HA4.out.below b5, HI.out⟩
          clear b5
          go_wp2
          exact ⟨HR.out, by simp [intOf]; omega⟩
    · obtain rfl : n = k := by omega
      generalize wr = W2 at *
      have R1 : NT W2 T (.slice none 0 0) (.int .i64 0) W2 := ⟨0, Nat.zero_le _, rfl, ⟨rfl, .inl ⟨rfl, rfl⟩⟩, Below.refl _ _⟩
      have R0 := Lib.hid R1; clear R1
      go_wp2
      go_loopw [11, 12] (fun v i wr2 => NT W2 T v i wr2) (fun _ i _ => 70 - (intOf i).toNat)
      case atStart => exact R0.out
      case round =>
        clear R0
        obtain ⟨k2, hk2, rfl, hown, hbw⟩ := hrel
        have HBr := Lib.hid hbw; have HOwn := Lib.hid hown
        obtain ⟨A1, cc1, rfl, hnc1, hcm1, hA1⟩ := own_shape hown
        obtain ⟨ln, hln⟩ : ∃ ln, ((List.range k2).filter T).length = ln := ⟨_, rfl⟩
        have hln70 : ln ≤ 70 := by have := List.length_filter_le T (List.range k2); rw [List.length_range] at this; omega
        rw [hln]
        rw [hln] at HOwn hnc1
        have HLn := Lib.hid hln
        clear hbw hown hln
        have HA2 := Lib.hid (HA.out.below HBr.out)
        by_cases hlt2 : k2 < 70
        · have c1 := HA2.out.cell (boolRow_at T hlt2)
          obtain ⟨q, hq⟩ : ∃ q : Nat, q = k2 / 10 := ⟨_, rfl⟩
          obtain ⟨r, hr⟩ : ∃ r : Nat, r = k2 % 10 := ⟨_, rfl⟩
          have hq7 : q < 7 := by omega
          have hr10 : r < 10 := by omega
          have hqr : q * 10 + r = k2 := by omega
          have m3 : (k2 : Int) / 10 = (q : Int) := by omega
          have m4 : Int.tdiv (k2 : Int) 10 = (q : Int) := by rw [Int.tdiv_eq_ediv_of_nonneg (by omega)]; exact m3
          have m5 : (k2 : Int) % 10 = (r : Int) := by omega
          have m6 : Int.tmod (k2 : Int) 10 = (r : Int) := by rw [Int.tmod_eq_emod_of_nonneg (by omega)]; exact m5
          have hst : (List.range (k2 + 1)).filter T = (List.range k2).filter T ++ if T k2 then [k2] else [] := by
            rw [List.range_succ, List.filter_append]
            congr 1
            cases h : T k2 <;> simp [h]
          cases hT : T k2 with
          | false =>
            rw [hT] at c1 hst
            have HSt : Hid ((List.range (k2 + 1)).filter T = (List.range k2).filter T) := by show _ = _; rw [hst]; simp
            clear hst hT hq hr hqr
            go_wp2
            go_roundw
            case rel => exact ⟨k2 + 1, hlt2, by go_num, by rw [HSt.out, HLn.out]; exact HOwn.out, HBr.out⟩
            case measure => simp [intOf]; omega
          | true =>
            rw [hT] at c1 hst
            have HSt : Hid ((List.range (k2 + 1)).filter T = (List.range k2).filter T ++ [k2]) := by show _ = _; rw [hst]; simp
            have hstr := name_str wr q r hq7 hr10
            rw [hqr] at hstr
            have HO1 := Lib.hid (HOwn.out.alloc (.cells #[.int .u8 (97 + (q : Int)), .int .u8 (48 + (r : Int))] 5))
            have HB1' := Lib.hid (HBr.out.alloc HBr.out.size (.cells #[.int .u8 (97 + (q : Int)), .int .u8 (48 + (r : Int))] 5))
            clear hst hT hq hr hqr
            go_wp2_with (at_builtin; refine wpList_app _ rfl (.tmp 102) (.tmp 113) 36 rfl W2.heap.size 9 i0 _ 1 16 Try.underlying36 hi hz0 hz1 hz2 rfl (by decide) (.slice A1 ln cc1) ln (((List.range k2).filter T).map fun i => sv (nm i)) rfl (HO1.out.alloc _) (wr.heap.size + 1 + 1) (some ⟨wr.heap.size + 1, 0, none⟩) 1 1 [sv (nm k2)] rfl ?c1 ?c2 ?c3 ?c4 ?c5 ?_)
            case c1 => exact one_lies (alloc_size _ _) _ _
            case c2 => intro u hu; simp at hu; subst hu; rfl
            case c3 => unfold maxLen; omega
            case c4 => omega
            case c5 => have := HB1'.out.size; simp at this ⊢; omega
            intro v2 w9 hown2 hg2 _
            have HB9 : Hid (Below W2.heap.size W2 w9) := (HB1'.out.alloc HB1'.out.size _).grown hg2 (by have := HB1'.out.size; simp at this ⊢; omega) (fun j hj => (HO1.out.lt j hj).1)
            have HO9 : Hid (w9.ownsRow W2.heap.size 9 1 v2 (((List.range (k2 + 1)).filter T).length) (((List.range (k2 + 1)).filter T).map fun i => sv (nm i))) := by show World.ownsRow _ _ _ _ _ _ _; rw [HSt.out, List.map_append, List.length_append, HLn.out]; exact hown2
            clear hown2 hg2
            go_wp2
            go_roundw
            case rel => exact ⟨k2 + 1, hlt2, by go_num, HO9.out, HB9.out⟩
            case measure => simp [intOf]; omega
        · obtain rfl : 70 = k2 := by omega
          have HOt : Hid (wr.ownsRow W2.heap.size 9 1 (.slice A1 ln cc1) ln ((names T).map sv)) := by
            have := HOwn.out
            show World.ownsRow _ _ _ _ _ _ _
            unfold names
            rw [List.map_map]; exact this
          have HSm : Hid (sameT S.list (names T) = true) := by show _ = _; rw [HI.out.list HA2.out.at_]; exact sameT_self _
          have HSl : Hid (S.list.length ≤ 4611686018427387904) := by
            show _ ≤ _
            rw [HI.out.list HA2.out.at_]
            show (((List.range 70).filter T).map nm).length ≤ _
            rw [List.length_map]
            have := List.length_filter_le T (List.range 70); rw [List.length_range] at this; omega
          go_wp2_with fail
          refine (at_list HA2.out.at_).mono ?_
          rintro x w12 ⟨A3, c3, rfl, ly, b9⟩
          have HA3 := Lib.hid (HA2.out.below b9); have HOt := Lib.hid (own_below HOt.out b9); have HLy := Lib.hid ly
          clear ly b9
          go_wp2_with fail
          refine (texts_any A3 A1 _ ln c3 cc1 w12.heap.size S.list (names T) w12 HLy.out (Lies.of_own HOt.out) HSl.out).mono ?_
          rw [HSm.out]
          rintro x w13 ⟨rfl, q13, hw13⟩
          have HB := Lib.hid (HA3.out.low.trans ((below_q w12 q13).mono HA3.out.low.size))
          rw [← hw13] at HB
          clear hw13
          go_wp2
          go_ret
          exact ⟨rfl, HB.out⟩

set_option maxHeartbeats 2000000 in
theorem filesNames_big (A : Option Addr) (n c : Nat) (w : World) (hn : 250 < n) (hn2 : n ≤ 140737488351232) :
    Calls Try.prog 8 #[.slice A n c] w fun e w' => e = .returned (.bool true) ∧ Below w.heap.size w w' := by
  have i2 : (250 : Int) < (n : Int) := by omega
  go_enter Try.func8, Try.ntmps8
  go_wp2_with fail
  refine (alive5_any w).mono ?_
  rintro x w1 ⟨rfl, hb1⟩
  have HB1 := Lib.hid hb1; clear hb1
  go_wp2_with fail
  refine (alive5_any w1).mono ?_
  rintro x w2 ⟨rfl, hb2⟩
  have HB := Lib.hid (HB1.out.trans (hb2.mono HB1.out.size))
  clear hb2
  go_wp2
  go_ret
  exact ⟨rfl, HB.out⟩
theorem filesNames_walk (A : Option Addr) (n c : Nat) (l : List UInt8) (w : World) (y : Lies w w.heap.size 1 A n (l.map bv)) (hnc : n ≤ c) (hc : c ≤ 140737488351232) :
    Calls Try.prog 8 #[.slice A n c] w fun e w' => e = .returned (.bool true) ∧ Below w.heap.size w w' := by
  by_cases h : 250 < n
  · exact filesNames_big A n c w h (by omega)
  · exact filesNames_small A n c l w y (by omega)
end Go.Proofs.Yteelmgmigfeabaa
