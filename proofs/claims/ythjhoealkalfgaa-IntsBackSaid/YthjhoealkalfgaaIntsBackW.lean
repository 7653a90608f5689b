/-
  The walk of IntsBack.
-/
import Derived.Test.YthjhoealkalfgaaLaw1
namespace Go.Proofs.Ythjhoealkalfgaa
open Go.RowKit
set_option linter.unusedVariables false

theorem half_step (n j : Nat) : n / 2 ^ (j + 1) / 2 = n / 2 ^ (j + 1 + 1) := by
  rw [Nat.div_div_eq_div_mul, ← Nat.pow_succ]

set_option maxHeartbeats 2000000 in
theorem intsBack_yes (n : Nat) (A1 : Option Addr) (n1 c1 : Nat) (A2 : Option Addr) (n2 c2 : Nat) (w : World) (x1 : c1 ≤ 140737488351232) (z1 : n1 ≤ c1) (x2 : c2 ≤ 140737488351232) (z2 : n2 ≤ c2) (hbig : 1048576 < n1 + n2) :
    Calls Try.prog 4 #[.int .u64 (n : Int), .slice A1 n1 c1, .slice A2 n2 c2] w fun e w' => e = .returned (.bool true) ∧ Below w.heap.size w w' := by
  go_enter Try.func4, Try.ntmps4
  go_wp2_with fail
  refine (alive_any w).mono ?_
  rintro e w1 ⟨rfl, hb1⟩
  go_wp2_with fail
  refine (beyond_yes (n1 + n2) w1 (by omega) hbig).mono ?_
  rintro e w2 ⟨rfl, hb2⟩
  have HB := Lib.hid (hb1.trans (hb2.mono hb1.size)); clear hb1 hb2
  go_wp2_with fail
  refine (alive_any w2).mono ?_
  rintro e w3 ⟨rfl, hb3⟩
  have HB3 := Lib.hid (HB.out.trans (hb3.mono HB.out.size)); clear hb3 HB
  go_wp2
  go_ret
  exact ⟨rfl, HB3.out⟩

set_option maxHeartbeats 4000000 in
theorem intsBack_no (n : Nat) (A1 : Option Addr) (n1 c1 : Nat) (l1 : List UInt8) (A2 : Option Addr) (n2 c2 : Nat) (l2 : List UInt8) (w : World) (hn : n < 18446744073709551616) (y1 : Lies w w.heap.size 1 A1 n1 (l1.map bv)) (y2 : Lies w w.heap.size 1 A2 n2 (l2.map bv)) (hbig : n1 + n2 ≤ 1048576) :
    Calls Try.prog 4 #[.int .u64 (n : Int), .slice A1 n1 c1, .slice A2 n2 c2] w fun e w' => e = .returned (.bool true) ∧ Below w.heap.size w w' := by
  obtain ⟨i0, hi, hz0, hz1, hz2⟩ := info_parts byte_info
  have Y1 := Lib.hid y1; have Y2 := Lib.hid y2; clear y1 y2
  go_enter Try.func4, Try.ntmps4
  go_wp2_with fail
  refine (alive_any w).mono ?_
  rintro e w1 ⟨rfl, hb1⟩
  go_wp2_with fail
  refine (beyond_no (n1 + n2) w1 hbig).mono ?_
  rintro e w2 ⟨rfl, hb2⟩
  have HB := Lib.hid (hb1.trans (hb2.mono hb1.size)); clear hb1 hb2
  go_wp2_with fail
  refine (put_some A1 n1 c1 n l1 w2 ((Y1.out.below HB.out).more HB.out.size) hn (by omega)).mono ?_
  rintro e w3 ⟨g, c, rfl, hnc, hcm, hown, hb3⟩
  have HB3 := Lib.hid (HB.out.trans (hb3.mono HB.out.size)); clear HB hb3
  have q1 := Vi.enc_pos n
  have q2 := Vi.enc_len n
  have L3 := Lib.hid (Lies.of_own hown); clear hown
  obtain ⟨k, hk⟩ : ∃ k, (Vi.enc n).length = k := ⟨_, rfl⟩
  rw [hk] at q1 q2 hnc L3
  rw [hk]
  have hl1 := Y1.out.blen
  have T1 : Lies w3 w3.heap.size 1 (some ⟨g, 0, none⟩) n1 (l1.map bv) := by
    have := L3.out.take_ (m := n1) (by omega)
    rw [List.map_append, List.take_append_of_le_length (by simp; omega), List.take_of_length_le (by simp; omega)] at this
    exact this
  have D1 : Lies w3 w3.heap.size 1 (some ⟨g, n1, none⟩) k ((Vi.enc n).map bv) := by
    have := L3.out.drop_ (m := n1) (by omega)
    rw [List.map_append, List.drop_append, List.drop_eq_nil_of_le (by simp; omega)] at this
    simp [hl1, add_lit] at this
    exact this
  have S1 := same_any (some ⟨g, 0, none⟩) A1 n1 n1 c c1 w3.heap.size l1 l1 w3 T1 ((Y1.out.below HB3.out).more HB3.out.size) (by omega)
  rw [sameB_self] at S1
  have S := Lib.hid S1
  have DD := Lib.hid D1
  have HK := Lib.hid hk
  clear S1 T1 D1 hk hl1 L3
  unfold maxLen at hcm
  go_wp2_with fail
  refine S.out.mono ?_
  rintro e w4 ⟨rfl, q, rfl⟩
  go_wp2_with fail
  refine (twin_own (some ⟨g, n1, none⟩) k (c - n1) _ (w3.drewN q) (DD.out.drewN q) (by omega)).mono ?_
  rintro e w5 ⟨g5, c5, rfl, hnc5, hcm5, hown5, hb5⟩
  have hwz : w.heap.size ≤ (w3.drewN q).heap.size := HB3.out.size
  have HB5 : Hid (Below w.heap.size w w5) := (below_drewN HB3.out q).trans (hb5.mono HB3.out.size)
  have Y5 := Lib.hid ((Y2.out.below HB5.out).more HB5.out.size)
  clear S DD hb5 HB3
  go_wp2_with (at_builtin; refine wpList_app _ rfl (.tmp 47) (.tmp 48) 22 rfl w.heap.size 5 i0 _ 1 1 Try.underlying22 hi hz0 hz1 hz2 rfl (by decide) (.slice (some ⟨g5, 0, none⟩) k c5) k ((Vi.enc n).map bv) rfl ?c0 w5.heap.size A2 n2 c2 (l2.map bv) rfl Y5.out (bv_one l2) ?c1 ?c2 ?c3 ?_)
  case c0 => exact own_base hown5 (Nat.le_trans (Nat.le_trans hwz (Nat.le_refl _)) (Nat.le_refl _))
  case c1 => unfold maxLen; omega
  case c2 => omega
  case c3 => exact HB5.out.size
  intro v6 w6 hown6 hg6 _
  have hb6 : Below w.heap.size w w6 := HB5.out.grown hg6 HB5.out.size (fun j hj => by
    have : j = g5 := by simpa [Value.ownBlock] using hj.symm
    subst this
    exact Nat.le_trans hwz (hown5.lt j rfl).1)
  have HB6 := Lib.hid hb6
  obtain ⟨A6, c6, rfl, hnc6, hcm6, _⟩ := own_shape hown6
  have L6 : Lies w6 w6.heap.size 1 A6 (k + n2) ((Vi.enc n ++ l2).map bv) := by rw [List.map_append]; exact Lies.of_own hown6
  have G := get_any A6 (k + n2) c6 (Vi.enc n ++ l2) w6 L6 hnc6 hcm6
  rw [Vi.get_enc n l2 hn, HK.out] at G
  have G6 := Lib.hid G
  clear G L6 hown6 hg6 hb6 hown5 Y5 HB5
  go_wp2_with fail
  refine G6.out.mono ?_
  rintro e w7 ⟨rfl, hb7⟩
  have HB7 := Lib.hid (HB6.out.trans (hb7.mono HB6.out.size))
  clear hb7 HB6 G6
  go_wp2
  go_loop [11, 12] (fun t x => ∃ j : Nat, j ≤ 63 ∧ t = .int .i64 ((j + 1 : Nat) : Int) ∧ x = .int .u64 ((n / 2 ^ (j + 1) : Nat) : Int) ∧ (j = 0 ∨ 2 ^ j ≤ n)) (fun _ x => (intOf x).toNat)
  case atStart => exact ⟨0, by decide, rfl, by simp, .inl rfl⟩
  case round =>
    obtain ⟨j, hj, rfl, rfl, hj2⟩ := hrel
    have HJ := Lib.hid hj2; clear hj2
    obtain ⟨d, hd⟩ : ∃ d, n / 2 ^ (j + 1) = d := ⟨_, rfl⟩
    have HD := Lib.hid hd
    rw [hd]
    clear hd
    have hdl : d < 18446744073709551616 := by rw [← HD.out]; exact Nat.lt_of_le_of_lt (Nat.div_le_self _ _) hn
    by_cases h0 : 0 < d
    · have hpow : 2 ^ (j + 1) ≤ n := by
        have h1 : 1 * 2 ^ (j + 1) ≤ n := (Nat.le_div_iff_mul_le (Nat.two_pow_pos _)).1 (by rw [HD.out]; exact h0)
        omega
      have hj63 : j + 1 ≤ 63 := by
        rcases Nat.lt_or_ge 63 (j + 1) with h | h
        · have : 2 ^ 64 ≤ 2 ^ (j + 1) := Nat.pow_le_pow_right (by decide) h
          omega
        · exact h
      have HP := Lib.hid hpow; clear hpow
      have HS := Lib.hid (half_step n j)
      rw [HD.out] at HS
      go_wp2
      go_round
      case rel => exact ⟨j + 1, hj63, by go_num, by rw [← HS.out]; go_num, .inr HP.out⟩
      case measure => simp [intOf]; omega
    · have hd0 : d = 0 := by omega
      have hlt : n < 2 ^ (j + 1) := by
        rcases Nat.lt_or_ge n (2 ^ (j + 1)) with h | h
        · exact h
        · have := (Nat.le_div_iff_mul_le (Nat.two_pow_pos (j + 1))).2 (by simpa using h : 1 * 2 ^ (j + 1) ≤ n)
          rw [HD.out] at this; omega
      have hb := enc_bits n j hj hlt HJ.out
      rw [HK.out] at hb
      have hb2 : ((k : Int) == ((j : Int) + 1 + 6) / 7) = true := by simp; omega
      have hb3 : ((k : Int) == ((n1 : Int) + (k : Int) - (n1 : Int))) = true := by simp; omega
      clear hlt hb hd0
      go_wp2
      go_ret
      exact ⟨rfl, HB7.out⟩

theorem intsBack_walk (n : Nat) (A1 : Option Addr) (n1 c1 : Nat) (l1 : List UInt8) (A2 : Option Addr) (n2 c2 : Nat) (l2 : List UInt8) (w : World) (hn : n < 18446744073709551616) (y1 : Lies w w.heap.size 1 A1 n1 (l1.map bv)) (z1 : n1 ≤ c1) (x1 : c1 ≤ 140737488351232)
    (y2 : Lies w w.heap.size 1 A2 n2 (l2.map bv)) (z2 : n2 ≤ c2) (x2 : c2 ≤ 140737488351232) :
    Calls Try.prog 4 #[.int .u64 (n : Int), .slice A1 n1 c1, .slice A2 n2 c2] w fun e w' => e = .returned (.bool true) ∧ Below w.heap.size w w' := by
  by_cases hbig : 1048576 < n1 + n2
  · exact intsBack_yes n A1 n1 c1 A2 n2 c2 w x1 z1 x2 z2 hbig
  · exact intsBack_no n A1 n1 c1 l1 A2 n2 c2 l2 w hn y1 y2 (by omega)
end Go.Proofs.Ythjhoealkalfgaa
