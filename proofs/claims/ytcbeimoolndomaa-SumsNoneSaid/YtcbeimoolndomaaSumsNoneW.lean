/-
  The walk of SumsNone.
-/
import Derived.Test.YtcbeimoolndomaaLaw2B
namespace Go.Proofs.Ytcbeimoolndomaa
open Go.RowKit
set_option linter.unusedVariables false

theorem on_noughts (s : Nat) (b : List UInt8) : Crc.on noughts s b = 4294967295 - (4294967295 - s) / 256 ^ b.length := by
  unfold Crc.on noughts
  rw [Crc.run_none]

set_option maxHeartbeats 2000000 in
set_option maxRecDepth 100000 in
theorem sumsNone_walk (A : Option Addr) (n c : Nat) (b : List UInt8) (s : Nat) (w : World) (L : Lies w w.heap.size 1 A n (b.map bv)) (hnc : n ≤ c) (hc : c ≤ 140737488351232) (hs : s < 4294967296) :
    Calls Try.prog 11 #[.slice A n c, .int .u32 (s : Int)] w fun e w' => e = .returned (.bool true) ∧ Below w.heap.size w w' := by
  have HL := Lib.hid L; clear L
  by_cases hbig : 100000 < n
  · have hg : decide ((100000 : Int) < (n : Int)) = true := by simp; omega
    go_enter Try.func11, Try.ntmps11
    go_wp2_with fail
    refine (alive2_any w).mono ?_
    rintro e w1 ⟨rfl, hb1⟩
    have H1 := Lib.hid hb1; clear hb1
    go_wp2_with fail
    refine (alive2_any w1).mono ?_
    rintro e w2 ⟨rfl, hb2⟩
    have H2 := Lib.hid (H1.out.trans (hb2.mono H1.out.size)); clear hb2
    go_wp2
    go_ret
    exact ⟨rfl, H2.out⟩
  · have hg : decide ((100000 : Int) < (n : Int)) = false := by simp; omega
    have hfl := flip_u32 s hs
    have hsg : IntKind.u32.signed = false := rfl
    have hmx : IntKind.u32.max = 4294967295 := by decide
    obtain ⟨s0, hs0⟩ : ∃ s0, s0 = 4294967295 - s := ⟨_, rfl⟩
    have hs0l : s0 < 4294967296 := by omega
    have HO := Lib.hid (on_noughts s b)
    rw [← hs0] at hfl HO
    clear hs0
    have hlen := HL.out.blen
    rw [hlen] at HO
    go_enter Try.func11, Try.ntmps11
    go_wp2_with fail
    refine (alive2_any w).mono ?_
    rintro e w1 ⟨rfl, hb1⟩
    have HN := Lib.hid (lay_tab w1 noughts)
    have HB := Lib.hid (lay_below hb1 hb1.size noughts)
    have HL1 := Lib.hid (((HL.out.below hb1).more hb1.size).lay (Nat.le_refl _) noughts)
    clear hb1 HL
    go_wp2_with (first
      | refine wpList_lay rfl rfl ?_
      | refine wpList_laid rfl _ _ rfl noughts noughts rfl rfl noughts_len noughts_len ?_
      | refine wpList_buildNone rfl rfl ?_)
    go_loopw [6, 7] (fun v i wr => ∃ k : Nat, k ≤ n ∧ k ≤ 4 ∧ i = .int .i64 (k : Int) ∧ v = .int .u32 ((s0 / 256 ^ k : Nat) : Int) ∧ wr = lay w1 noughts) (fun _ i _ => 4 - (intOf i).toNat)
    case atStart => exact ⟨0, Nat.zero_le _, Nat.zero_le _, rfl, by first | simp | (rw [hfl]; simp), rfl⟩
    case round =>
      obtain ⟨k, hk, hk4, rfl, rfl, rfl⟩ := hrel
      have hv : s0 / 256 ^ k < 4294967296 := Nat.lt_of_le_of_lt (Nat.div_le_self _ _) hs0l
      by_cases hlt : k < n
      · by_cases h4 : k < 4
        · have hnext : s0 / 256 ^ (k + 1) = s0 / 256 ^ k / 256 := by rw [Nat.pow_succ, Nat.div_div_eq_div_mul]
          generalize s0 / 256 ^ k = m at hnext hv ⊢
          obtain ⟨d, hd0⟩ : ∃ d, d = m / 256 := ⟨_, rfl⟩
          have hd : (m : Int) / 256 = (d : Int) := by omega
          rw [← hd0] at hnext
          have HX := Lib.hid hnext
          clear hnext hk hk4 hd0
          go_wp2
          go_roundw
          case rel => exact ⟨k + 1, hlt, h4, by go_num, by rw [HX.out], by first | rfl | trivial⟩
          case measure => simp [intOf]; omega
        · obtain rfl : k = 4 := by omega
          have h0 : s0 / 256 ^ n = 0 := by
            apply Nat.div_eq_of_lt
            exact Nat.lt_of_lt_of_le hs0l (Nat.le_trans (by decide : 4294967296 ≤ 256 ^ 4) (Nat.pow_le_pow_right (by omega) (by omega)))
          rw [h0] at HO
          have f0 := flip_u32 0 (by omega)
          have f1 : bits .xor .u32 4294967295 0 = 4294967295 := f0
          have hge : decide ((4 : Int) ≤ (n : Int)) = true := by simp; omega
          have HC := Lib.hid (on_any w1.heap.size s n c _ A b noughts (lay w1 noughts) HN.out noughts_len small_noughts hs HL1.out (by omega))
          rw [HO.out] at HC
          clear f0 HO
          go_wp2_with fail
          refine HC.out.mono ?_
          rintro e w2 ⟨rfl, rfl⟩
          go_wp2
          go_ret
          exact ⟨rfl, HB.out⟩
      · obtain rfl : k = n := by omega
        have HC := Lib.hid (on_any w1.heap.size s k c _ A b noughts (lay w1 noughts) HN.out noughts_len small_noughts hs HL1.out (by omega))
        rw [HO.out] at HC
        by_cases h4 : k = 4
        · subst h4
          have h0 : s0 / 256 ^ 4 = 0 := Nat.div_eq_of_lt (by omega)
          rw [h0] at HC
          have f0 := flip_u32 0 (by omega)
          have f1 : bits .xor .u32 4294967295 0 = 4294967295 := f0
          clear f0 HO
          go_wp2_with fail
          refine HC.out.mono ?_
          rintro e w2 ⟨rfl, rfl⟩
          go_wp2
          go_ret
          exact ⟨rfl, HB.out⟩
        · have f2 := flip_u32 _ hv
          generalize s0 / 256 ^ k = m at *
          have hge : decide ((4 : Int) ≤ (k : Int)) = false := by simp; omega
          have hge2 : ¬ (4 ≤ k) := by omega
          clear HO
          go_wp2_with fail
          refine HC.out.mono ?_
          rintro e w2 ⟨rfl, rfl⟩
          go_wp2
          go_ret
          exact ⟨by simp, HB.out⟩
end Go.Proofs.Ytcbeimoolndomaa
