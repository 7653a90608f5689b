/-
  The walk of SortedSixteen.
-/
import Derived.Test.YtjikkdfiainjjaaLaw10P
import Derived.Test.YtjikkdfiainjjaaTwin
namespace Go.Proofs.Ytjikkdfiainjjaa
open Go.RowKit
set_option linter.unusedVariables false
set_option maxRecDepth 100000

set_option maxHeartbeats 8000000 in
theorem sortedSixteen_walk (A : Option Addr) (n c : Nat) (l : List En) (m0 : Nat) (W : World) (hl : Lies W W.heap.size 4 A n (ecs l)) (hu : Fits l) (hn : l.length = n) (hnc : n ≤ c) (hc : c ≤ 140737488351232) (hm : m0 < 256) :
    Calls Try.prog 9 #[.slice A n c, .int .u8 (m0 : Int)] W fun e W' => e = .returned (.bool true) ∧ Below W.heap.size W W' := by
  obtain ⟨i0, hi, hz0, hz1, hz2⟩ := info_parts byte_info
  have HEL := Lib.hid (el_of hl hu hnc hc)
  have HU := Lib.hid hu; have HN := Lib.hid hn
  have HSq : Hid (SQ l) := fun e he => (hu e he).1
  have HL := Lib.hid hl
  clear hl hu hn
  go_enter Try.func9, Try.ntmps9
  go_wp2_with fail
  with_reducible refine Calls.mono (alive10_any W) ?_
  rintro e w1 ⟨rfl, hb1⟩
  have H1 := Lib.hid hb1
  have HG := Lib.hid (great10_any A n c l w1 ((HL.out.below hb1).more hb1.size) HU.out (by omega))
  clear hb1
  go_wp2_with fail
  with_reducible refine Calls.mono HG.out ?_
  rintro e w2 ⟨b, rfl, hb3, hb2⟩
  have H2 := Lib.hid (H1.out.trans (hb2.mono H1.out.size))
  have H300 := Lib.hid hb3
  clear hb2 hb3 HG
  cases b with
  | true =>
    go_wp2_with fail
    with_reducible refine Calls.mono (alive10_any w2) ?_
    rintro e w3 ⟨rfl, hb3⟩
    have HF := Lib.hid (H2.out.trans (hb3.mono H2.out.size))
    clear hb3
    go_wp2
    go_ret
    exact ⟨rfl, HF.out⟩
  | false =>
    have hn300 : n ≤ 300 := H300.out rfl
    by_cases hn17 : n < 17
    · have hni : ((n : Int) < 17) := by omega
      go_wp2_with fail
      with_reducible refine Calls.mono (alive10_any w2) ?_
      rintro e w3 ⟨rfl, hb3⟩
      have HF := Lib.hid (H2.out.trans (hb3.mono H2.out.size))
      clear hb3
      go_wp2
      go_ret
      exact ⟨rfl, HF.out⟩
    · have hni : ¬ ((n : Int) < 17) := by omega
      obtain ⟨n1, hn1⟩ : ∃ n1, n - 1 = n1 := ⟨_, rfl⟩
      obtain ⟨d, hd⟩ : ∃ d, n1 / 16 = d := ⟨_, rfl⟩
      have hd0 : 0 < d := by omega
      obtain ⟨r0, hr0⟩ : ∃ r0, m0 % d = r0 := ⟨_, rfl⟩
      have hrd : r0 < d := by rw [← hr0]; exact Nat.mod_lt _ hd0
      obtain ⟨k, hk⟩ : ∃ k, 16 * (1 + r0) = k := ⟨_, rfl⟩
      have HKd : Hid (1 ≤ k ∧ k < n ∧ 16 * (1 + r0) = k) := ⟨by omega, by omega, hk⟩
      have e1 : (n : Int) - 1 = (n1 : Int) := by omega
      have e2 : (n1 : Int) / 16 = (d : Int) := by omega
      have e3 : (m0 : Int) % (d : Int) = (r0 : Int) := by rw [← hr0]; simp
      have e4 : 16 * (1 + (r0 : Int)) = (k : Int) := by omega
      have e5 : ((d : Int) == 0) = false := by rw [beq_eq_false_iff_ne]; omega
      have hdi : (0 : Int) < (d : Int) := by omega
      have hri : (r0 : Int) ≤ 255 := by have := Nat.mod_le m0 d; omega
      have hkn : k ≤ n := by omega
      have hkc : k ≤ c := by omega
      have hs1 := fun W => run_headE W A n c k hkc
      have hs2 := fun W => run_cutE W A n c k hkn
      have HP := Lib.hid (sput_any W.heap.size n c A l w2 (HEL.out.below H2.out) HSq.out)
      clear hn1 hd hr0 hrd hk
      go_wp2_with fail
      with_reducible refine Calls.mono HP.out ?_
      intro e w3 hp3
      obtain ⟨A3, n3, c3, z3, rfl, hk3, hz3, hz3b, hb3⟩ := sput_some hp3
      have H3 := Lib.hid (H2.out.trans (hb3.mono H2.out.size))
      have K3 := Lib.hid hk3; have Z3 := Lib.hid hz3
      have HQ := Lib.hid (sput_any W.heap.size k c A (l.take k) w3 ((el_take HEL.out hkn).below H3.out) (fun e he => HSq.out e ((List.take_sublist k l).mem he)))
      clear hp3 HP hk3 hz3 hb3
      go_wp2_with fail
      with_reducible refine Calls.mono HQ.out ?_
      intro e w4 hp4
      obtain ⟨A4, n4, c4, z4, rfl, hk4, _, _, hb4⟩ := sput_some hp4
      have H4 := Lib.hid (H3.out.trans (hb4.mono H3.out.size))
      have K4 := Lib.hid hk4; have HB4 := Lib.hid hb4
      have HQ2 := Lib.hid (sput_any W.heap.size (n - k) (c - k) (cutE A c k) (l.drop k) w4 ((el_drop HEL.out hkn).below H4.out) (fun e he => HSq.out e ((List.drop_sublist k l).mem he)))
      clear hp4 HQ hk4 hb4
      go_wp2_with fail
      with_reducible refine Calls.mono HQ2.out ?_
      intro e w5 hp5
      obtain ⟨A5, n5, c5, z5, rfl, hk5, _, _, hb5⟩ := sput_some hp5
      have H5 := Lib.hid (H4.out.trans (hb5.mono H4.out.size))
      have K5 := Lib.hid hk5; have HB5 := Lib.hid hb5
      clear hp5 HQ2 hk5 hb5 hs1 hs2
      by_cases hok : okF l = true
      · obtain ⟨rfl, s3, o3⟩ := K3.out hok
        obtain ⟨rfl, s4, o4⟩ := K4.out (okF_take hok HKd.out.1 (by rw [HN.out]; omega))
        obtain ⟨rfl, s5, o5⟩ := K5.out (okF_drop hok (by rw [HN.out]; exact HKd.out.2.1))
        have p3 := filB_pos l; have p4 := filB_pos (l.take k); have p5 := filB_pos (l.drop k)
        have q3 := filB_le hok
        have q4 := filB_le (okF_take hok HKd.out.1 (by rw [HN.out]; omega))
        have q5 := filB_le (okF_drop hok (k := k) (by rw [HN.out]; exact HKd.out.2.1))
        rw [← s3] at p3 q3; rw [← s4] at p4 q4; rw [← s5] at p5 q5
        have O3 := Lib.hid o3; have O4 := Lib.hid o4; have O5 := Lib.hid o5
        have B45 := HB4.out.trans (HB5.out.mono HB4.out.size)
        have T3 := Lib.hid (fun W' (hb : Below w5.heap.size w5 W') => tail_any (W := W') hok o3 (B45.trans (hb.mono B45.size)))
        have T4 := Lib.hid (fun W' (hb : Below w5.heap.size w5 W') => tail_any (W := W') (okF_take hok HKd.out.1 (by rw [HN.out]; omega)) o4 (HB5.out.trans (hb.mono HB5.out.size)))
        have T5 := Lib.hid (fun W' (hb : Below w5.heap.size w5 W') => tail_any (W := W') (okF_drop hok (k := k) (by rw [HN.out]; exact HKd.out.2.1)) o5 hb)
        have b3 : (blkB l).length ≤ n3 := by rw [s3, filB_len]; omega
        have b4 : (blkB (l.take k)).length ≤ n4 := by rw [s4, filB_len]; omega
        have b5 : (blkB (l.drop k)).length ≤ n5 := by rw [s5, filB_len]; omega
        have HBody : Hid (blkB l = blkB (l.take k) ++ blkB (l.drop k)) := by
          have := blkB_split (S := l) (j := 1 + r0) (by rw [HN.out, HKd.out.2.2]; omega)
          rw [HKd.out.2.2] at this; exact this
        obtain ⟨_, _, hv3, nc3, cc3, _⟩ := own_shape o3
        injection hv3 with x1 x2 x3
        subst x1 x3
        obtain ⟨_, _, hv4, nc4, cc4, _⟩ := own_shape o4
        injection hv4 with x1 x2 x3
        subst x1 x3
        obtain ⟨_, _, hv5, nc5, cc5, _⟩ := own_shape o5
        injection hv5 with x1 x2 x3
        subst x1 x3
        obtain ⟨Ba, hBa⟩ : ∃ q, blkB l = q := ⟨_, rfl⟩
        obtain ⟨Bb, hBb⟩ : ∃ q, blkB (l.take k) = q := ⟨_, rfl⟩
        obtain ⟨Bc, hBc⟩ : ∃ q, blkB (l.drop k) = q := ⟨_, rfl⟩
        obtain ⟨la, hla⟩ : ∃ q, Ba.length = q := ⟨_, rfl⟩
        obtain ⟨lb, hlb⟩ : ∃ q, Bb.length = q := ⟨_, rfl⟩
        obtain ⟨lc, hlc⟩ : ∃ q, Bc.length = q := ⟨_, rfl⟩
        have La : Hid (Lies w5 w5.heap.size 1 A3 la (Ba.map bv)) := by
          have h := lies_take (((Lies.of_own o3).below B45).more B45.size) (m := la) (by rw [← hla, ← hBa]; exact b3)
          rw [← hla, ← hBa] at h ⊢
          rwa [blkB_take] at h
        have Lb : Hid (Lies w5 w5.heap.size 1 A4 lb (Bb.map bv)) := by
          have h := lies_take (((Lies.of_own o4).below HB5.out).more HB5.out.size) (m := lb) (by rw [← hlb, ← hBb]; exact b4)
          rw [← hlb, ← hBb] at h ⊢
          rwa [blkB_take] at h
        have Lc : Hid (Lies w5 w5.heap.size 1 A5 lc (Bc.map bv)) := by
          have h := lies_take (Lies.of_own o5) (m := lc) (by rw [← hlc, ← hBc]; exact b5)
          rw [← hlc, ← hBc] at h ⊢
          rwa [blkB_take] at h
        rw [hBa, hla] at T3 b3
        rw [hBb, hlb] at T4 b4
        rw [hBc, hlc] at T5 b5
        rw [hBa, hBb, hBc] at HBody
        obtain ⟨t3, ht3⟩ : ∃ q, n3 - 12 = q := ⟨_, rfl⟩
        obtain ⟨t4, ht4⟩ : ∃ q, n4 - 12 = q := ⟨_, rfl⟩
        obtain ⟨t5, ht5⟩ : ∃ q, n5 - 12 = q := ⟨_, rfl⟩
        rw [ht3] at T3; rw [ht4] at T4; rw [ht5] at T5
        have f3 : (n3 : Int) - 12 = (t3 : Int) := by omega
        have f4 : (n4 : Int) - 12 = (t4 : Int) := by omega
        have f5 : (n5 : Int) - 12 = (t5 : Int) := by omega
        have c31 := fun W => run_cut W A3 n3 c3 t3 (by omega)
        have c41 := fun W => run_cut W A4 n4 c4 t4 (by omega)
        have c51 := fun W => run_cut W A5 n5 c5 t5 (by omega)
        have u3 := fun W => run_headU W A3 n3 c3 la (by omega)
        have u4 := fun W => run_headU W A4 n4 c4 lb (by omega)
        have u5 := fun W => run_headU W A5 n5 c5 lc (by omega)
        have g3 : ¬ ((n3 : Int) < 12) := by omega
        have g4 : ¬ ((n4 : Int) < 12) := by omega
        have g5 : ¬ ((n5 : Int) < 12) := by omega
        have h3 : ¬ ((la : Int) > (n3 : Int)) := by omega
        have h4 : ¬ ((lb : Int) > (n4 : Int)) := by omega
        have h5 : ¬ ((lc : Int) > (n5 : Int)) := by omega
        have HLe : Hid (la ≤ 1400000 ∧ lb ≤ 1400000 ∧ lc ≤ 1400000) := ⟨by omega, by omega, by omega⟩
        clear o3 o4 o5 O3 O4 O5 K3 K4 K5 Z3 hBa hBb hBc hla hlb hlc ht3 ht4 ht5 s3 s4 s5 B45 hok e1 e2 e3 e4 e5 hdi hri
        go_wp2_with fail
        with_reducible refine Calls.mono (T3.out _ (Below.refl _ _)) ?_
        rintro e w6 ⟨⟨y3, rfl⟩, hb6⟩
        have H6 := Lib.hid hb6
        clear hb6
        go_wp2_with fail
        with_reducible refine Calls.mono (T4.out _ H6.out) ?_
        rintro e w7 ⟨⟨y4, rfl⟩, hb7⟩
        have H7 := Lib.hid (H6.out.trans (hb7.mono H6.out.size))
        clear hb7
        go_wp2_with fail
        with_reducible refine Calls.mono (T5.out _ H7.out) ?_
        rintro e w8 ⟨⟨y5, rfl⟩, hb8⟩
        have H8 := Lib.hid (H7.out.trans (hb8.mono H7.out.size))
        clear hb8 T3 T4 T5
        have Hd : Hid (Below w5.heap.size w5 w8.drew) := H8.out.drew
        have La8 := Lib.hid ((La.out.below Hd.out).more Hd.out.size)
        have Lb8 := (Lb.out.below Hd.out).more Hd.out.size
        have Lc8 := Lib.hid ((Lc.out.below Hd.out).more Hd.out.size)
        have HTw := Lib.hid (twin_own A4 lb c4 Bb w8.drew Lb8 (by have := HLe.out; omega))
        clear Lb8
        go_wp2_with fail
        go_region_law (first
          | (go_simp; go_at_call 27; (with_reducible refine Calls.mono HTw.out ?_); rintro e w9 ⟨g9, c9, rfl, _, _, ho9, hb9⟩; have hl9 := (Lc8.out.below hb9).more hb9.size; have hz9 := hb9.size)
          | (refine step_app _ rfl (.tmp 133) (.tmp 136) 26 rfl w8.heap.size 5 i0 _ 1 1 Try.underlying26 hi hz0 hz1 hz2 rfl (by decide) (.slice (some ⟨g9, 0, none⟩) lb c9) lb (Bb.map bv) rfl ho9 w9.heap.size A5 lc c5 (Bc.map bv) rfl hl9 (bv_one _) (by have := HLe.out; unfold maxLen; omega) (by have := HLe.out; omega) hz9 ?_; intro v10 w10 ho10 hg10 _; obtain ⟨A10, c10, rfl, _⟩ := own_shape ho10; have hb10 : Below w8.drew.heap.size w8.drew w10 := hb9.grown hg10 hb9.size (fun j hj => (ho9.lt j hj).1); have ho10' : w10.ownsRow w8.heap.size 5 1 (.slice A10 (lb + lc) c10) (lb + lc) ((Bb ++ Bc).map bv) := (by rw [List.map_append]; exact ho10); have HSb := same_any A3 A10 la (lb + lc) c3 c10 w10.heap.size Ba (Bb ++ Bc) w10 ((La8.out.below hb10).more hb10.size) (Lies.of_own ho10') (by have := HLe.out; omega))
          | (go_simp; go_at_call 18; (with_reducible refine Calls.mono HSb ?_); rintro e w11 ⟨rfl, q11, rfl⟩)
          | fail)
        all_goals
          have HF := Lib.hid ((H5.out.trans (Hd.out.mono H5.out.size)).trans ((below_drewN hb10 q11).mono (by have := H5.out.size; have := Hd.out.size; omega)))
          have hsb : sameB Ba (Bb ++ Bc) = true := by rw [HBody.out]; exact sameB_self _
          rw [hsb]
          clear hb10 ho10 ho10' hg10 HSb ho9 hb9
          go_wp2
          go_ret
          exact ⟨rfl, HF.out⟩
      · have ha : okA l = false := by
          cases h : okA l with
          | false => rfl
          | true => exact absurd ((okF_iff l).2 ⟨h, by rw [HN.out]; omega⟩) hok
        obtain rfl := Z3.out ha
        clear hok ha
        go_wp2
        go_ret
        exact ⟨rfl, H5.out⟩
end Go.Proofs.Ytjikkdfiainjjaa
