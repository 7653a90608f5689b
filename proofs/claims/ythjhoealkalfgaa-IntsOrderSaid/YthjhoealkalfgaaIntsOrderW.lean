/-
  The walk of IntsOrder.
-/
import Derived.Test.YthjhoealkalfgaaIntsJoinW
namespace Go.Proofs.Ythjhoealkalfgaa
open Go.RowKit
set_option linter.unusedVariables false

theorem enc_inj {a b : Nat} (ha : a < 18446744073709551616) (hb : b < 18446744073709551616) (h : Vi.enc a = Vi.enc b) : a = b := by
  have h1 := Vi.get_enc a [] ha
  have h2 := Vi.get_enc b [] hb
  rw [h, h2] at h1
  exact (congrArg Prod.fst h1).symm
theorem less_four (u v : Nat) (hu : u < 4294967296) (hv : v < 4294967296) : Op.bytesLess (four u) (four v) = decide (u < v) := by
  have a1 := Vi.toNat_ofNat (u / 16777216) (by omega)
  have a2 := Vi.toNat_ofNat (u / 65536 % 256) (by omega)
  have a3 := Vi.toNat_ofNat (u / 256 % 256) (by omega)
  have a4 := Vi.toNat_ofNat (u % 256) (by omega)
  have b1 := Vi.toNat_ofNat (v / 16777216) (by omega)
  have b2 := Vi.toNat_ofNat (v / 65536 % 256) (by omega)
  have b3 := Vi.toNat_ofNat (v / 256 % 256) (by omega)
  have b4 := Vi.toNat_ofNat (v % 256) (by omega)
  unfold four
  simp only [Op.bytesLess]
  rw [Bool.eq_iff_iff]
  simp only [Bool.or_eq_true, Bool.and_eq_true, decide_eq_true_eq, beq_iff_eq, UInt8.lt_iff_toNat_lt, ← UInt8.toNat_inj, a1, a2, a3, a4, b1, b2, b3, b4, Bool.false_eq_true, and_false, or_false]
  omega
/-- four bytes, and the string that they make -/
theorem putFour_str (k : Nat) (w : World) (hk : k < 4294967296) :
    Calls Try.prog 25 #[.slice none 0 0, .int .u32 (k : Int)] w fun e w' => ∃ A c, e = .returned (.slice A 4 c) ∧ (convert 22 9 (.slice A 4 c)).run Try.prog w' = .ok (.string ⟨(four k).toArray⟩) w' ∧ Below w.heap.size w w' :=
  (putFour_nil k w hk).mono fun e w' ⟨A, c, he, _, _, ho, hb⟩ => ⟨A, c, he, run_str w' _ _ 5 Try.underlying22 Try.underlying5 Try.underlying9 c (Lies.of_own ho), hb⟩

set_option maxHeartbeats 4000000 in
theorem intsOrder_core (a b : Nat) (w : World) (ha : a < 18446744073709551616) (hb : b < 18446744073709551616) :
    Calls Try.prog 9 #[.int .u64 (a : Int), .int .u64 (b : Int)] w fun e w' => e = .returned (.bool true) ∧ Below w.heap.size w w' := by
  obtain ⟨u, hu⟩ : ∃ u, u = a % 4294967296 := ⟨_, rfl⟩
  obtain ⟨v, hv⟩ : ∃ v, v = b % 4294967296 := ⟨_, rfl⟩
  have hul : u < 4294967296 := by omega
  have hvl : v < 4294967296 := by omega
  have hu2 : (a : Int) % 4294967296 = (u : Int) := by omega
  have hv2 : (b : Int) % 4294967296 = (v : Int) := by omega
  clear hu hv
  go_enter Try.func9, Try.ntmps9
  go_wp2_with fail
  refine (put_one a w ha).mono ?_
  rintro e w1 ⟨g1, c1, rfl, _, _, hown1, hb1⟩
  have L1 := Lib.hid (Lies.of_own hown1); clear hown1
  go_wp2_with fail
  refine (put_one b w1 hb).mono ?_
  rintro e w2 ⟨g2, c2, rfl, _, _, hown2, hb2⟩
  have L2 := Lib.hid (Lies.of_own hown2); clear hown2
  have L12 := Lib.hid ((L1.out.below hb2).more hb2.size); clear L1
  have HB2 := Lib.hid (hb1.trans (hb2.mono hb1.size)); clear hb1 hb2
  go_wp2_with fail
  refine (putFour_str u w2 hul).mono ?_
  rintro e w3 ⟨A3, c3, rfl, hs3, hb3⟩
  have HB3 := Lib.hid (HB2.out.trans (hb3.mono HB2.out.size))
  have L13 := Lib.hid ((L12.out.below hb3).more hb3.size); have L23 := Lib.hid ((L2.out.below hb3).more hb3.size)
  clear hb3 HB2 L12 L2
  go_wp2_with fail
  refine (putFour_str v w3 hvl).mono ?_
  rintro e w4 ⟨A4, c4, rfl, hs4, hb4⟩
  have HB4 := Lib.hid (HB3.out.trans (hb4.mono HB3.out.size))
  have L14 := Lib.hid ((L13.out.below hb4).more hb4.size); have L24 := Lib.hid ((L23.out.below hb4).more hb4.size)
  clear hb4 HB3 L13 L23 hs3
  have q1 := Vi.enc_len a
  have q2 := Vi.enc_len b
  have S := same_any (some ⟨g1, 0, none⟩) (some ⟨g2, 0, none⟩) _ _ c1 c2 w4.heap.size (Vi.enc a) (Vi.enc b) w4 L14.out L24.out (by omega)
  have HS := Lib.hid S; clear S L14 L24
  have hm : a ≤ b → (Vi.enc a).length ≤ (Vi.enc b).length := fun h => enc_mono h hb
  have hsame : sameB (Vi.enc a) (Vi.enc b) = ((a : Int) == (b : Int)) := by
    by_cases h : a = b
    · subst h; rw [sameB_self]; simp
    · have : Vi.enc a ≠ Vi.enc b := fun h2 => h (enc_inj ha hb h2)
      have h3 : ((a : Int) == (b : Int)) = false := by simp; omega
      rw [h3]; simp [sameB, this]
  rw [hsame] at HS
  clear hsame
  generalize (Vi.enc a).length = ka at *
  generalize (Vi.enc b).length = kb at *
  have hless : (Op.bytesLess (four u) (four v) == decide (u < v)) = true := by rw [less_four u v hul hvl]; simp
  rcases Nat.lt_trichotomy a b with hab | hab | hab
  · have hle : decide (a ≤ b) = true := by simp; omega
    have hgt : decide (kb < ka) = false := by have := hm (by omega); simp; omega
    have hle' : decide ((a : Int) ≤ (b : Int)) = true := by simp; omega
    have hgt' : decide ((kb : Int) < (ka : Int)) = false := by have := hm (by omega); simp; omega
    have heq : ((a : Int) == (b : Int)) = false := by simp; omega
    rw [heq] at HS
    clear hm
    go_wp2_with fail
    refine HS.out.mono ?_
    rintro e w5 ⟨rfl, q, rfl⟩
    have HB5 : Hid (Below w.heap.size w (w4.drewN q)) := below_drewN HB4.out q
    clear HB4
    go_wp2_with fail
    refine (alive_any _).mono ?_
    rintro e w6 ⟨rfl, hb6⟩
    have HB6 := Lib.hid (HB5.out.trans (hb6.mono HB5.out.size)); clear hb6 HB5
    go_wp2
    go_ret
    exact ⟨rfl, HB6.out⟩
  · have hle : decide (a ≤ b) = true := by simp; omega
    have hgt : decide (kb < ka) = false := by have := hm (by omega); simp; omega
    have hle' : decide ((a : Int) ≤ (b : Int)) = true := by simp; omega
    have hgt' : decide ((kb : Int) < (ka : Int)) = false := by have := hm (by omega); simp; omega
    have heq : ((a : Int) == (b : Int)) = true := by simp; omega
    rw [heq] at HS
    clear hab
    clear hm
    go_wp2_with fail
    refine HS.out.mono ?_
    rintro e w5 ⟨rfl, q, rfl⟩
    have HB5 : Hid (Below w.heap.size w (w4.drewN q)) := below_drewN HB4.out q
    clear HB4
    go_wp2_with fail
    refine (alive_any _).mono ?_
    rintro e w6 ⟨rfl, hb6⟩
    have HB6 := Lib.hid (HB5.out.trans (hb6.mono HB5.out.size)); clear hb6 HB5
    go_wp2
    go_ret
    exact ⟨rfl, HB6.out⟩
  · have hle : decide (a ≤ b) = false := by simp; omega
    have hle' : decide ((a : Int) ≤ (b : Int)) = false := by simp; omega
    have heq : ((a : Int) == (b : Int)) = false := by simp; omega
    rw [heq] at HS
    clear hm
    go_wp2_with fail
    refine HS.out.mono ?_
    rintro e w5 ⟨rfl, q, rfl⟩
    have HB5 : Hid (Below w.heap.size w (w4.drewN q)) := below_drewN HB4.out q
    clear HB4
    go_wp2_with fail
    refine (alive_any _).mono ?_
    rintro e w6 ⟨rfl, hb6⟩
    have HB6 := Lib.hid (HB5.out.trans (hb6.mono HB5.out.size)); clear hb6 HB5
    go_wp2
    go_ret
    exact ⟨rfl, HB6.out⟩

theorem intsOrder_walk (a b : Nat) (w : World) (ha : a < 18446744073709551616) (hb : b < 18446744073709551616) :
    Calls Try.prog 9 #[.int .u64 (a : Int), .int .u64 (b : Int)] w fun e w' => e = .returned (.bool true) ∧ Below w.heap.size w w' :=
  intsOrder_core a b w ha hb
end Go.Proofs.Ythjhoealkalfgaa
