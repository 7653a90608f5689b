/-
  The walk of IntsCut.
-/
import Derived.Test.YthjhoealkalfgaaLaw1
namespace Go.Proofs.Ythjhoealkalfgaa
open Go.RowKit
set_option linter.unusedVariables false

set_option maxHeartbeats 2000000 in
theorem intsCut_walk (n : Nat) (s : ByteArray) (cut : Nat) (w : World) (hn : n < 18446744073709551616) (hs : s.size ≤ 140737488351232) (hcut : cut < 65536) :
    Calls Try.prog 7 #[.int .u64 (n : Int), .string s, .int .u16 (cut : Int)] w fun e w' => e = .returned (.bool true) ∧ Below w.heap.size w w' := by
  by_cases hbig : 1048576 < s.size
  · go_enter Try.func7, Try.ntmps7
    go_wp2_with fail
    refine (alive_any w).mono ?_
    rintro e w1 ⟨rfl, hb1⟩
    go_wp2_with fail
    refine (beyond_yes s.size w1 (by omega) hbig).mono ?_
    rintro e w2 ⟨rfl, hb2⟩
    have HB := Lib.hid (hb1.trans (hb2.mono hb1.size)); clear hb1 hb2
    go_wp2_with fail
    refine (alive_any w2).mono ?_
    rintro e w3 ⟨rfl, hb3⟩
    have HB3 := Lib.hid (HB.out.trans (hb3.mono HB.out.size)); clear hb3 HB
    go_wp2
    go_ret
    exact ⟨rfl, HB3.out⟩
  · go_enter Try.func7, Try.ntmps7
    go_wp2_with fail
    refine (alive_any w).mono ?_
    rintro e w1 ⟨rfl, hb1⟩
    go_wp2_with fail
    refine (beyond_no s.size w1 (by omega)).mono ?_
    rintro e w2 ⟨rfl, hb2⟩
    have HB := Lib.hid (hb1.trans (hb2.mono hb1.size)); clear hb1 hb2
    go_wp2_with fail
    refine (put_nil n w2 hn).mono ?_
    rintro e w3 ⟨A3, c3, rfl, hnc3, hcm3, hown3, hb3⟩
    have HB3 := Lib.hid (HB.out.trans (hb3.mono HB.out.size)); clear HB hb3
    have HO3 := Lib.hid hown3; clear hown3
    go_wp2_with fail
    refine (putText_nil s w3 (by omega)).mono ?_
    rintro e w4 ⟨A4, c4, rfl, hnc4, hcm4, hown4, hb4⟩
    have HB34 := Lib.hid hb4
    have HB4 := Lib.hid (HB3.out.trans (hb4.mono HB3.out.size)); clear HB3 hb4
    have HO4 := Lib.hid hown4; clear hown4
    go_wp2_with fail
    rw [show ((n : Int) % 4294967296) = ((n % 4294967296 : Nat) : Int) from by omega]
    refine (putFour_nil (n % 4294967296) w4 (by omega)).mono ?_
    rintro e w5 ⟨A5, c5, rfl, hnc5, hcm5, hown5, hb5⟩
    have h3 := HB34.out
    have L3 := Lib.hid (got_lies HO3.out (h3.trans (hb5.mono h3.size)))
    have L4 := Lib.hid (got_lies HO4.out hb5)
    have L5 := Lib.hid (got_lies hown5 (Below.refl _ _))
    have HB5 := Lib.hid (HB4.out.trans (hb5.mono HB4.out.size)); clear HB4 hb5 h3 HB34 HO3 HO4 hown5
    have q1 := Vi.enc_pos n
    have q2 := Vi.enc_len n
    have q3 := Vi.enc_pos s.size
    have q4 := Vi.enc_len s.size
    have hg1 := fun m h => Lib.hid (Vi.get_cut n m hn h)
    have hg2 := fun m h => Lib.hid (getText_cut s m (by omega) h)
    have q5 : 1 ≤ (Vi.enc s.size).length + s.size := by omega
    have q6 : (Vi.enc s.size).length + s.size ≤ 1048586 := by omega
    clear q3 q4
    generalize (Vi.enc n).length = k1 at *
    generalize (Vi.enc s.size).length + s.size = k2 at *
    obtain ⟨m1, hm1⟩ : ∃ m, m = cut % k1 := ⟨_, rfl⟩
    obtain ⟨m2, hm2⟩ : ∃ m, m = cut % k2 := ⟨_, rfl⟩
    obtain ⟨m3, hm3⟩ : ∃ m, m = cut % 4 := ⟨_, rfl⟩
    have hk2 : 0 < k2 := q5
    have hm1l : m1 < k1 := by rw [hm1]; exact Nat.mod_lt _ (by omega)
    have hm2l : m2 < k2 := by rw [hm2]; exact Nat.mod_lt _ hk2
    have hm3l : m3 < 4 := by omega
    have he1 : (cut : Int) % (k1 : Int) = (m1 : Int) := by rw [hm1]; omega
    have he2 : (cut : Int) % (k2 : Int) = (m2 : Int) := by rw [hm2]; omega
    have he3 : (cut : Int) % 4 = (m3 : Int) := by omega
    have g1 := get_any A3 m1 c3 _ w5 (lies_take L3.out (Nat.le_of_lt hm1l)) (by omega) hcm3
    rw [(hg1 m1 hm1l).out] at g1
    have G1 := Lib.hid g1
    have G2 := Lib.hid (fun w6 (hb : Below w5.heap.size w5 w6) => getText_any A4 m2 c4 _ w6 (((lies_take L4.out (Nat.le_of_lt hm2l)).below hb).more hb.size) (by omega) hcm4)
    have G3 := Lib.hid (fun w7 => getFour_no A5 m3 c5 w7 hm3l)
    have HG2 := hg2 m2 hm2l
    clear g1 hg1 hg2
    clear hm1 hm2 hm3
    unfold maxLen at hcm3 hcm4 hcm5
    go_wp2_with fail
    refine G1.out.mono ?_
    rintro e w6 ⟨rfl, hb6⟩
    have G2' := G2.out w6 hb6
    rw [HG2.out] at G2'
    have G2 := Lib.hid G2'
    clear G2' G1
    have HB6 := Lib.hid (HB5.out.trans (hb6.mono HB5.out.size)); clear HB5 hb6
    go_wp2_with fail
    refine G2.out.mono ?_
    rintro e w7 ⟨rfl, hb7⟩
    have HB7 := Lib.hid (HB6.out.trans (hb7.mono HB6.out.size)); clear HB6 hb7 G2
    go_wp2_with fail
    refine (G3.out w7).mono ?_
    rintro e w8 ⟨rfl, hb8⟩
    have HB8 := Lib.hid (HB7.out.trans (hb8.mono HB7.out.size)); clear HB7 hb8 G3
    go_wp2
    go_ret
    exact ⟨rfl, HB8.out⟩
end Go.Proofs.Ythjhoealkalfgaa
