/-
  The walk of BloomsThere.
-/
import Derived.Test.YtjnmckchicmmgaaLaw9
namespace Go.Proofs.Ytjnmckchicmmgaa
open Go.RowKit
set_option linter.unusedVariables false
set_option maxRecDepth 100000

set_option maxHeartbeats 4000000 in
theorem bloomsThere_walk (A : Option Addr) (n c : Nat) (T : List ByteArray) (w : World) (y : Lies w w.heap.size 1 A n (T.map Value.string)) (u : ∀ s ∈ T, s.size ≤ 140737488351232) (z : n ≤ c) (x : c ≤ 140737488351232) :
    Calls Try.prog 4 #[.slice A n c] w fun e w' => e = .returned (.bool true) ∧ Below w.heap.size w w' := by
  by_cases h1 : 500 < n
  · have d1 : decide ((500 : Int) < (n : Int)) = true := by simp; omega
    clear y u
    go_enter Try.func4, Try.ntmps4
    go_wp2_with fail
    refine (alive9_any w).mono ?_
    rintro e w1 ⟨rfl, hb1⟩
    have HB1 := Lib.hid hb1; clear hb1
    go_wp2_with fail
    refine (alive9_any w1).mono ?_
    rintro e w2 ⟨rfl, hb2⟩
    have HB2 := Lib.hid (HB1.out.trans (hb2.mono HB1.out.size)); clear hb2
    go_wp2
    go_ret
    exact ⟨rfl, HB2.out⟩
  have d1 : decide ((500 : Int) < (n : Int)) = false := by simp; omega
  rcases texts_cases A n c T w y u (by omega) with ht | ⟨hsum, ht⟩
  · have HT := Lib.hid ht; clear ht y u
    go_enter Try.func4, Try.ntmps4
    go_wp2_with fail
    refine (alive9_any w).mono ?_
    rintro e w1 ⟨rfl, hb1⟩
    have HB1 := Lib.hid hb1; clear hb1
    go_wp2_with fail
    refine (HT.out w1 HB1.out).mono ?_
    rintro e w1' ⟨v, rfl, hv, hv2, rfl⟩
    have d3 : decide ((20000 : Int) < (v : Int)) = true := by simp; omega
    go_wp2_with fail
    refine (alive9_any _).mono ?_
    rintro e w2 ⟨rfl, hb2⟩
    have HB2 := Lib.hid (HB1.out.trans (hb2.mono HB1.out.size)); clear hb2
    go_wp2
    go_ret
    exact ⟨rfl, HB2.out⟩
  have HT := Lib.hid ht; clear ht
  have HY := Lib.hid y; clear y u
  have HS := Lib.hid hsum; clear hsum
  obtain ⟨N, hN⟩ : ∃ N, Blm.size n = N := ⟨_, rfl⟩
  obtain ⟨M, hM⟩ : ∃ M, max 64 (10 * n) = M := ⟨_, rfl⟩
  have hNq : N = max ((n * 10 + 7) / 8) 8 := by rw [← hN]; rfl
  have hMN : (M + 7) / 8 = N := by omega
  have hMl : M ≤ 5064 := by omega
  have hNl : N ≤ 1000 := by omega
  have hN8 : 8 ≤ N := by omega
  have hmax : ∀ ts t W, (Builtin.max_ ts t #[.int .i64 64, .int .i64 (10 * (n : Int))]).run Try.prog W = .ok (.int .i64 (M : Int)) W := fun ts t W => by
    rw [run_max_int2]
    congr 2
    split <;> omega
  have hq : ((M : Int) + 7) / 8 = (N : Int) := by omega
  have hne : ((N : Int) + 1 != 1 + (N : Int)) = false := by simp; omega
  have hne2 : (((N + 1 : Nat) : Int) != 1 + (N : Int)) = false := by simp; omega
  have HNN := Lib.hid hN
  clear hN hM hNq hMN
  go_enter Try.func4, Try.ntmps4
  go_wp2_with fail
  refine (alive9_any w).mono ?_
  rintro e w1 ⟨rfl, hb1⟩
  have HB1 := Lib.hid hb1; clear hb1
  go_wp2_with fail
  refine (HT.out w1 HB1.out).mono ?_
  rintro e w1' ⟨v, rfl, hv, rfl⟩
  have d3 : decide ((20000 : Int) < (v : Int)) = false := by simp; omega
  have HP := Lib.hid (blPut_any A n c w.heap.size T w1' (HY.out.below HB1.out) HB1.out.size (small_of (by have := HS.out; omega)) (by omega))
  rw [HNN.out] at HP
  clear HT
  go_wp2_with fail
  refine HP.out.mono ?_
  rintro e w2 ⟨A2, c2, rfl, hc2, hc3, ho2, hb2⟩
  have HB2 := Lib.hid (HB1.out.trans (hb2.mono HB1.out.size))
  have HL2 := Lib.hid (Lies.of_own ho2)
  have HFL : Hid ((Blm.filt (kys T)).length = N + 1) := HL2.out.blen
  have hc6 : ∃ b o, A2 = some ⟨b, o, none⟩ ∧ w2.cell? ⟨b, o + N, none⟩ = some (.int .u8 6) := by
    obtain ⟨b, o, xx, rfl, _, hx, hc⟩ := HL2.out.byte (k := N) (by omega)
    have h6 := Blm.last_filt (kys T)
    rw [HFL.out, Nat.add_sub_cancel, List.getD_eq_getElem?_getD, hx, Option.getD_some] at h6
    subst h6
    exact ⟨b, o, rfl, hc⟩
  obtain ⟨b2, o2, rfl, hc6⟩ := hc6
  unfold maxLen at hc3
  clear hb2 ho2 HP HB1
  have R0 : Hid (∃ k : Nat, k ≤ n ∧ (Value.int .i64 0) = .int .i64 (k : Int) ∧ Below w2.heap.size w2 w2) := ⟨0, Nat.zero_le _, rfl, Below.refl _ _⟩
  go_wp2
  clear hmax hq hne hne2 hc6
  go_loopw [4] (fun i wr => ∃ k : Nat, k ≤ n ∧ i = .int .i64 (k : Int) ∧ Below w2.heap.size w2 wr) (fun i _ => n - (intOf i).toNat)
  case atStart => exact R0.out
  case round =>
    clear R0
    obtain ⟨k, hk, rfl, hb⟩ := hrel
    have HB := Lib.hid hb
    have HBW := Lib.hid (HB2.out.trans (hb.mono HB2.out.size))
    clear hb
    by_cases hlt : k < n
    · obtain ⟨b, o, xx, rfl, hbB, hx, hc0⟩ := HY.out.str hlt
      have hcell : wr.cell? ⟨b, o + k, none⟩ = some (.string xx) := (HBW.out.cell (p := ⟨b, o + k, none⟩) hbB).trans hc0
      have hxs := size_few (by have := HS.out; omega) xx (List.mem_of_getElem? hx)
      have hm := may9_any (some ⟨b2, o2, none⟩) (N + 1) c2 _ (Blm.filt (kys T)) xx wr (HL2.out.below HB.out) HB.out.size hc2 (by omega) (by omega)
      rw [Blm.may_there (l := kys T) (s := xx.data.toList) (List.mem_map.2 ⟨xx, List.mem_of_getElem? hx, rfl⟩)] at hm
      have HM := Lib.hid hm
      clear hc0 hx hxs hm
      go_wp2_with fail
      refine HM.out.mono ?_
      rintro e w3 ⟨rfl, hb3⟩
      have R : Hid (∃ k' : Nat, k' ≤ n ∧ (Value.int .i64 ((k : Int) + 1)) = .int .i64 (k' : Int) ∧ Below w2.heap.size w2 w3) := ⟨k + 1, hlt, by simp, HB.out.trans (hb3.mono HB.out.size)⟩
      clear hb3 HM hcell
      go_wp2
      go_roundw
      case rel => exact R.out
      case measure => simp [intOf]; omega
    · obtain rfl : k = n := by omega
      go_wp2
      go_ret
      exact ⟨rfl, HBW.out⟩
end Go.Proofs.Ytjnmckchicmmgaa
