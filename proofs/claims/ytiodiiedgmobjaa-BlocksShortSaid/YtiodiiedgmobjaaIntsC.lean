/-
  Contracts of package ints: the reader of varints, Get.
-/
import Derived.Test.YtiodiiedgmobjaaIntsA
import Derived.RegionTactic
import Derived.ChangeAlike
namespace Go.Proofs.Ytiodiiedgmobjaa
open Go.RowKit
set_option linter.unusedVariables false

theorem and127b (n : Nat) (hn : n < 256) : bits .and .u8 (n : Int) 127 = ((n % 128 : Nat) : Int) := by
  have h := u8_and_nat n 127 hn (by omega)
  have e : n &&& 127 = n % 128 := Nat.and_two_pow_sub_one_eq_mod n 7
  rw [e] at h
  exact h

theorem or_low (sh s p : Nat) (hs : s < 2 ^ sh) (h : s + p * 2 ^ sh < 18446744073709551616) : bits .or .u64 (s : Int) ((p * 2 ^ sh : Nat) : Int) = ((s + p * 2 ^ sh : Nat) : Int) := by
  rw [u64_or_nat s (p * 2 ^ sh) (by omega) (by omega)]
  have e := Nat.two_pow_add_eq_or_of_lt (i := sh) (b := s) hs p
  rw [Nat.mul_comm (2 ^ sh) p] at e
  rw [Nat.or_comm, ← e, Nat.add_comm]
theorem wrap_u64_nat (q : Nat) (h : q < 18446744073709551616) : IntKind.u64.wrap (q : Int) = (q : Int) := by
  rw [IntKind.wrap_u64]; omega
theorem Box.ne {w : World} {g g' : Nat} {t t' : TypeId} {v v' : Value} (h : Box w g t v) (h' : Box w g' t' v') (hne : t ≠ t') : g ≠ g' := by
  rintro rfl
  unfold Box at h h'
  rw [h] at h'
  injection h' with h'
  injection h' with _ h'
  exact hne h'

set_option maxHeartbeats 1000000 in
theorem reader_more (gs gm c p sh s q : Nat) (w : World) (hp : p = c % 128) (hc : 128 ≤ c) (hc2 : c < 256) (hsh : sh ≤ 63) (hs : s < 2 ^ sh) (hq : q = p * 2 ^ sh) (hfit : s + q < 18446744073709551616)
    (h1 : Box w gs 3 (.int .i64 (sh : Int))) (h2 : Box w gm 35 (.int .u64 (s : Int))) :
    Calls Try.prog 64 #[.int .u8 (c : Int), .pointer (some ⟨gs, 0, none⟩), .pointer (some ⟨gm, 0, none⟩)] w fun e w' =>
      e = .returned (.tuple #[.int .u64 ((s + q : Nat) : Int), .bool false, .bool true]) ∧ ∃ n, w' = ((w.setCell ⟨gm, 0, none⟩ (.int .u64 ((s + q : Nat) : Int))).setCell ⟨gs, 0, none⟩ (.int .i64 ((sh : Int) + 7))).drewN n := by
  have hc1 := h1.cell
  have hf1 := h1.frozen
  have hcm := h2.cell
  have hfm := h2.frozen
  have hne := h1.ne h2 (by decide)
  have hne2 := h2.ne h1 (by decide)
  have hb : bits .and .u8 (c : Int) 127 = (p : Int) := by rw [hp]; exact and127b c hc2
  have hp2 : p < 128 := by omega
  have hlt : decide ((c : Int) < 128) = false := by simp; omega
  have hz : ((c : Int) == 0) = false := by simp; omega
  have hwr : IntKind.u64.wrap ((p : Int) * 2 ^ sh) = (q : Int) := by
    have := wrap_u64_nat q (by omega)
    rw [← this, hq]; simp
  have hdv : (q : Int) / 2 ^ sh = (p : Int) := by
    have h : q / 2 ^ sh = p := by rw [hq]; exact Nat.mul_div_cancel _ (Nat.two_pow_pos sh)
    rw [← h]; simp
  have hor : bits .or .u64 (s : Int) (q : Int) = ((s + q : Nat) : Int) := by rw [hq]; exact or_low sh s p hs (by omega)
  clear hp hq hs
  go_enter Try.func64, Try.ntmps64
  go_wp2
  go_quiet (fail)
  go_wp2
  go_region
  all_goals go_wp2
  all_goals go_ret3
  all_goals exact ⟨rfl, nq + 1, rfl⟩

/-- a byte that ends the number -/
theorem reader_end (gs gm c sh s q : Nat) (w : World) (hc2 : c < 128) (hsh : sh ≤ 63) (hs : s < 2 ^ sh) (hq : q = c * 2 ^ sh) (hfit : s + q < 18446744073709551616) (hnz : 0 < c ∨ sh = 0)
    (h1 : Box w gs 3 (.int .i64 (sh : Int))) (h2 : Box w gm 35 (.int .u64 (s : Int))) :
    Calls Try.prog 64 #[.int .u8 (c : Int), .pointer (some ⟨gs, 0, none⟩), .pointer (some ⟨gm, 0, none⟩)] w fun e w' =>
      e = .returned (.tuple #[.int .u64 ((s + q : Nat) : Int), .bool true, .bool true]) ∧ ∃ n x y, w' = ((w.setCell ⟨gm, 0, none⟩ x).setCell ⟨gs, 0, none⟩ y).drewN n := by
  have hc1 := h1.cell
  have hf1 := h1.frozen
  have hcm := h2.cell
  have hfm := h2.frozen
  have hne := h1.ne h2 (by decide)
  have hne2 := h2.ne h1 (by decide)
  have hb : bits .and .u8 (c : Int) 127 = (c : Int) := by rw [and127b c (by omega), Nat.mod_eq_of_lt hc2]
  have hlt : decide ((c : Int) < 128) = true := by simp; omega
  have hwr : IntKind.u64.wrap ((c : Int) * 2 ^ sh) = (q : Int) := by
    have := wrap_u64_nat q (by omega)
    rw [← this, hq]; simp
  have hdv : (q : Int) / 2 ^ sh = (c : Int) := by
    have h : q / 2 ^ sh = c := by rw [hq]; exact Nat.mul_div_cancel _ (Nat.two_pow_pos sh)
    rw [← h]; simp
  have hor : bits .or .u64 (s : Int) (q : Int) = ((s + q : Nat) : Int) := by rw [hq]; exact or_low sh s c hs (by omega)
  clear hq hs
  by_cases h0 : 0 < c
  · have hz : ((c : Int) == 0) = false := by simp; omega
    clear hnz h0
    go_enter Try.func64, Try.ntmps64
    go_wp2
    go_quiet (fail)
    go_wp2
    go_region
    all_goals go_wp2
    all_goals go_ret3
    all_goals exact ⟨rfl, nq + 1, _, _, rfl⟩
  · have hz : ((c : Int) == 0) = true := by simp; omega
    have hg : decide ((0 : Int) < (sh : Int)) = false := by simp; omega
    have hg2 : decide (0 < sh) = false := by simp; omega
    clear hnz h0
    go_enter Try.func64, Try.ntmps64
    go_wp2
    go_quiet (fail)
    go_wp2
    go_region
    all_goals go_wp2
    all_goals go_ret3
    all_goals exact ⟨rfl, nq + 1, _, _, rfl⟩

/-- a byte that is refused -/
theorem reader_bad (gs gm c sh s : Nat) (w : World) (hc2 : c < 256) (hsh : sh ≤ 63) (hbad : 18446744073709551616 ≤ c % 128 * 2 ^ sh ∨ c = 0 ∧ 0 < sh)
    (h1 : Box w gs 3 (.int .i64 (sh : Int))) (h2 : Box w gm 35 (.int .u64 (s : Int))) :
    Calls Try.prog 64 #[.int .u8 (c : Int), .pointer (some ⟨gs, 0, none⟩), .pointer (some ⟨gm, 0, none⟩)] w fun e w' =>
      ∃ z b, e = .returned (.tuple #[.int .u64 z, .bool b, .bool false]) ∧ ∃ n x y, w' = ((w.setCell ⟨gm, 0, none⟩ x).setCell ⟨gs, 0, none⟩ y).drewN n := by
  have hc1 := h1.cell
  have hf1 := h1.frozen
  have hcm := h2.cell
  have hfm := h2.frozen
  have hne := h1.ne h2 (by decide)
  have hne2 := h2.ne h1 (by decide)
  obtain ⟨p, hp⟩ : ∃ p, p = c % 128 := ⟨_, rfl⟩
  have hb : bits .and .u8 (c : Int) 127 = (p : Int) := by rw [hp]; exact and127b c hc2
  have hp2 : p < 128 := by omega
  obtain ⟨r, hr⟩ : ∃ r, r = p * 2 ^ sh % 18446744073709551616 := ⟨_, rfl⟩
  have hwr : IntKind.u64.wrap ((p : Int) * 2 ^ sh) = (r : Int) := by
    rw [IntKind.wrap_u64, hr]; simp
  have hrl : r < 18446744073709551616 := by rw [hr]; exact Nat.mod_lt _ (by decide)
  obtain ⟨o, hor⟩ : ∃ o, bits .or .u64 (s : Int) (r : Int) = o := ⟨_, rfl⟩
  have hpow : 0 < 2 ^ sh := Nat.two_pow_pos sh
  rcases hbad with hbig | ⟨hc0, hs0⟩
  · rw [← hp] at hbig
    have hdv : ((r : Int) / 2 ^ sh == (p : Int)) = false := by
      have h : r / 2 ^ sh ≠ p := by
        intro h
        have h3 : p * 2 ^ sh ≤ r := by rw [← h]; exact Nat.div_mul_le_self _ _
        omega
      have h4 : ((r / 2 ^ sh : Nat) : Int) ≠ (p : Int) := by omega
      simp at h4 ⊢
      exact h4
    have hz : ((c : Int) == 0) = false := by
      have : c ≠ 0 := by
        rintro rfl
        simp at hp; subst hp; simp at hbig
      simp; omega
    clear hp hr hpow hbig
    by_cases hlt : c < 128
    · have hlt2 : decide ((c : Int) < 128) = true := by simp; omega
      go_enter Try.func64, Try.ntmps64
      go_wp2
      go_quiet (fail)
      go_wp2
      go_region
      all_goals go_wp2
      all_goals go_ret3
      all_goals exact ⟨_, _, rfl, nq + 1, _, _, rfl⟩
    · have hlt2 : decide ((c : Int) < 128) = false := by simp; omega
      go_enter Try.func64, Try.ntmps64
      go_wp2
      go_quiet (fail)
      go_wp2
      go_region
      all_goals go_wp2
      all_goals go_ret3
      all_goals exact ⟨_, _, rfl, nq + 1, _, _, rfl⟩
  · have hp0 : p = 0 := by omega
    have hr0 : r = 0 := by rw [hr, hp0]; simp
    have hz : ((c : Int) == 0) = true := by simp; omega
    have hlt2 : decide ((c : Int) < 128) = true := by simp; omega
    have hg : decide ((0 : Int) < (sh : Int)) = true := by simp; omega
    have hdv : ((r : Int) / 2 ^ sh == (p : Int)) = true := by rw [hr0, hp0]; simp
    clear hp hr hpow hp0 hr0 hc0
    go_enter Try.func64, Try.ntmps64
    go_wp2
    go_quiet (fail)
    go_wp2
    go_region
    all_goals go_wp2
    all_goals go_ret3
    all_goals exact ⟨_, _, rfl, nq + 1, _, _, rfl⟩
theorem reader_new (w : World) :
    Calls Try.prog 62 #[] w fun e w' => e = .returned (.func (.func 64) #[] #[.pointer (some ⟨w.heap.size + 1, 0, none⟩), .pointer (some ⟨w.heap.size, 0, none⟩)]) ∧
      w' = (w.alloc (.cells #[.int .u64 0] 35)).alloc (.cells #[.int .i64 0] 3) := by
  have hmf : ∀ (fn : Fn) (first cap : Array Value) (w : World), (Instr.makeFunc fn first cap).run Try.prog w = .ok (.func fn first cap) w := fun _ _ _ _ => rfl
  go_enter Try.func62, Try.ntmps62
  go_wp2
  go_ret
  exact ⟨rfl, rfl⟩
end Go.Proofs.Ytiodiiedgmobjaa
