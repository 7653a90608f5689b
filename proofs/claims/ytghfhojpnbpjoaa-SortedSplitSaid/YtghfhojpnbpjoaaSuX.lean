/-
  Plain facts about checksums, over natural numbers and lists of bytes: one step of the shift register ('st'), the table ('tab'), a run over bytes ('run', 'on'); with the table a run is as many steps as there are bits, of the start and the bytes as one number ('run_le'). No program.
  Contracts of package sums: entry; arrays of numbers in blocks of their own.
  Contracts of package sums: Table. An array that is made, filled, and handed back by value.
  Contracts of package sums: On, Of.
  copy onto a part of a row of the call's own.
  A table in a variable of its own.
  Three-index slices of bytes.
-/
import Derived.Test.YtghfhojpnbpjoaaMem
import Derived.Deep.WholeRow
import Derived.Laws.BitsAllLaws
import Derived.Outline
import Derived.Laws.IdiomCopy
import Derived.OwnWalk
namespace Go.Proofs.Ytghfhojpnbpjoaa.Crc
set_option linter.unusedVariables false

/-- one bit -/
def st (n : Nat) : Nat := if n % 2 = 1 then n / 2 ^^^ 2197175160 else n / 2
/-- so many bits -/
def sts : Nat → Nat → Nat
  | 0, n => n
  | k + 1, n => sts k (st n)
def ent (n : Nat) : Nat := sts 8 n
def tab : List Nat := (List.range 256).map ent
def upd (t : List Nat) (s c : Nat) : Nat := s / 256 ^^^ t.getD (s % 256 ^^^ c) 0
def run (t : List Nat) (s : Nat) : List UInt8 → Nat
  | [] => s
  | c :: cs => run t (upd t s c.toNat) cs
def on (t : List Nat) (sum : Nat) (b : List UInt8) : Nat := 4294967295 - run t (4294967295 - sum) b
/-- bytes as one number, the lowest byte first -/
def le : List UInt8 → Nat
  | [] => 0
  | c :: cs => c.toNat + 256 * le cs

theorem xor4 (a b p : Nat) : (a ^^^ p) ^^^ (b ^^^ p) = a ^^^ b := by
  apply Nat.eq_of_testBit_eq; intro i
  simp only [Nat.testBit_xor]
  cases a.testBit i <;> cases b.testBit i <;> cases p.testBit i <;> rfl
theorem xor_cancel (a b : Nat) : a ^^^ (a ^^^ b) = b := by rw [← Nat.xor_assoc, Nat.xor_self, Nat.zero_xor]
theorem eq_of_xor {a b : Nat} (h : a ^^^ b = 0) : a = b := by
  have := xor_cancel a b
  rw [h, Nat.xor_zero] at this
  exact this

theorem st_xor (a b : Nat) : st (a ^^^ b) = st a ^^^ st b := by
  have h1 : (a ^^^ b) / 2 = a / 2 ^^^ b / 2 := Nat.xor_div_two
  have h2 : (a ^^^ b) % 2 = 1 ↔ ¬(a % 2 = 1 ↔ b % 2 = 1) := Nat.xor_mod_two_eq_one
  unfold st
  by_cases ha : a % 2 = 1 <;> by_cases hb : b % 2 = 1
  · rw [if_neg (by simp [h2, ha, hb]), if_pos ha, if_pos hb, h1, xor4]
  · rw [if_pos (by simp [h2, ha, hb]), if_pos ha, if_neg hb, h1]
    rw [Nat.xor_assoc, Nat.xor_comm (b / 2), ← Nat.xor_assoc]
  · rw [if_pos (by simp [h2, ha, hb]), if_neg ha, if_pos hb, h1, Nat.xor_assoc]
  · rw [if_neg (by simp [h2, ha, hb]), if_neg ha, if_neg hb, h1]
theorem st_zero : st 0 = 0 := by decide
theorem st_lt {n : Nat} (h : n < 4294967296) : st n < 4294967296 := by
  unfold st
  split
  · exact Nat.xor_lt_two_pow (n := 32) (by omega) (by decide)
  · omega
theorem st_ne {n : Nat} (h : n < 4294967296) (h0 : n ≠ 0) : st n ≠ 0 := by
  unfold st
  split
  · intro he
    have := eq_of_xor he
    omega
  · omega
theorem st_two (x : Nat) : st (2 * x) = x := by
  unfold st
  rw [if_neg (by omega)]
  omega

theorem sts_xor (k a b : Nat) : sts k (a ^^^ b) = sts k a ^^^ sts k b := by
  induction k generalizing a b with
  | zero => rfl
  | succ k ih => simp only [sts]; rw [st_xor, ih]
theorem sts_zero (k : Nat) : sts k 0 = 0 := by
  induction k with
  | zero => rfl
  | succ k ih => simp only [sts]; rw [st_zero, ih]
theorem sts_lt (k : Nat) {n : Nat} (h : n < 4294967296) : sts k n < 4294967296 := by
  induction k generalizing n with
  | zero => exact h
  | succ k ih => exact ih (st_lt h)
theorem sts_ne (k : Nat) {n : Nat} (h : n < 4294967296) (h0 : n ≠ 0) : sts k n ≠ 0 := by
  induction k generalizing n with
  | zero => exact h0
  | succ k ih => exact ih (st_lt h) (st_ne h h0)
theorem sts_inj (k : Nat) {a b : Nat} (ha : a < 4294967296) (hb : b < 4294967296) (h : sts k a = sts k b) : a = b := by
  have h1 : sts k (a ^^^ b) = 0 := by rw [sts_xor, h, Nat.xor_self]
  have h2 : a ^^^ b < 4294967296 := Nat.xor_lt_two_pow (n := 32) ha hb
  by_cases h3 : a ^^^ b = 0
  · exact eq_of_xor h3
  · exact absurd h1 (sts_ne k h2 h3)
theorem sts_add (j k n : Nat) : sts (j + k) n = sts k (sts j n) := by
  induction j generalizing n with
  | zero => simp [sts]
  | succ j ih => rw [Nat.succ_add]; simp only [sts]; exact ih _
theorem sts_succ (k n : Nat) : sts (k + 1) n = st (sts k n) := by rw [sts_add k 1]; rfl
theorem sts_pow (k x : Nat) : sts k (2 ^ k * x) = x := by
  induction k with
  | zero => simp [sts]
  | succ k ih =>
    simp only [sts]
    rw [Nat.pow_succ, Nat.mul_comm (2 ^ k) 2, Nat.mul_assoc, st_two, ih]

/-- a number is its parts, by exclusive or -/
theorem parts (k : Nat) (x y : Nat) (hx : x < 2 ^ k) : x + 2 ^ k * y = x ^^^ 2 ^ k * y := by
  have h := Nat.two_pow_add_eq_or_of_lt (i := k) (b := x) hx y
  rw [Nat.add_comm, h]
  apply Nat.eq_of_testBit_eq; intro i
  rw [Nat.testBit_or, Nat.testBit_xor]
  by_cases hi : i < k
  · have : (2 ^ k * y).testBit i = false := by rw [Nat.testBit_two_pow_mul]; simp; omega
    rw [this]; simp
  · have : x.testBit i = false := Nat.testBit_lt_two_pow (Nat.lt_of_lt_of_le hx (Nat.pow_le_pow_right (by omega) (by omega)))
    rw [this]; simp
theorem parts256 (s : Nat) : s = s % 256 ^^^ 256 * (s / 256) := by
  have := parts 8 (s % 256) (s / 256) (by omega)
  have h2 := Nat.mod_add_div s 256
  have e : (2 : Nat) ^ 8 = 256 := by decide
  rw [e] at this
  omega

theorem ent_lt {n : Nat} (h : n < 256) : ent n < 4294967296 := sts_lt 8 (by omega)
theorem tab_len : tab.length = 256 := by simp [tab]
theorem tab_at {n : Nat} (h : n < 256) : tab.getD n 0 = ent n := by
  unfold tab
  rw [List.getD_eq_getElem?_getD, List.getElem?_map, List.getElem?_range h]
  rfl
theorem upd_tab (s c : Nat) (hc : c < 256) : upd tab s c = sts 8 (s ^^^ c) := by
  have hx : s % 256 ^^^ c < 256 := Nat.xor_lt_two_pow (n := 8) (by omega) hc
  unfold upd
  rw [tab_at hx]
  have e : s ^^^ c = (s % 256 ^^^ c) ^^^ 2 ^ 8 * (s / 256) := by
    conv => lhs; rw [parts256 s]
    have e8 : (2 : Nat) ^ 8 = 256 := by decide
    rw [e8, Nat.xor_assoc, Nat.xor_comm (256 * (s / 256)), ← Nat.xor_assoc]
  rw [e, sts_xor, sts_pow, Nat.xor_comm]
  rfl

theorem run_append (t : List Nat) (s : Nat) (a b : List UInt8) : run t s (a ++ b) = run t (run t s a) b := by
  induction a generalizing s with
  | nil => rfl
  | cons c cs ih => exact ih _
theorem run_snoc (t : List Nat) (s : Nat) (a : List UInt8) (c : UInt8) : run t s (a ++ [c]) = upd t (run t s a) c.toNat := run_append t s a [c]
theorem le_cons (c : UInt8) (cs : List UInt8) : le (c :: cs) = c.toNat ^^^ 2 ^ 8 * le cs := parts 8 c.toNat (le cs) c.toNat_lt
theorem le_lt (b : List UInt8) : le b < 2 ^ (8 * b.length) := by
  induction b with
  | nil => decide
  | cons c cs ih =>
    have := c.toNat_lt
    simp only [le, List.length_cons]
    have e : 2 ^ (8 * (cs.length + 1)) = 256 * 2 ^ (8 * cs.length) := by rw [Nat.mul_add, Nat.pow_add, Nat.mul_comm]
    rw [e]; omega
/-- by the table a run is as many steps as there are bits -/
theorem run_le (s : Nat) (b : List UInt8) : run tab s b = sts (8 * b.length) (s ^^^ le b) := by
  induction b generalizing s with
  | nil => simp [run, le, sts]
  | cons c cs ih =>
    have hc := c.toNat_lt
    simp only [run, List.length_cons]
    rw [ih, upd_tab s c.toNat hc, le_cons, Nat.mul_add, Nat.add_comm (8 * cs.length), sts_add, ← Nat.xor_assoc, sts_xor 8 _ (2 ^ 8 * le cs), sts_pow]

/-- a list of numbers of 32 bits -/
def Small (t : List Nat) : Prop := ∀ x ∈ t, x < 4294967296
theorem small_getD {t : List Nat} (h : Small t) (i : Nat) : t.getD i 0 < 4294967296 := by
  rw [List.getD_eq_getElem?_getD]
  cases he : t[i]? with
  | none => simp
  | some x => exact h x (List.mem_of_getElem? he)
theorem small_tab : Small tab := by
  intro x hx
  unfold tab at hx
  obtain ⟨i, hi, rfl⟩ := List.mem_map.1 hx
  exact ent_lt (List.mem_range.1 hi)
theorem upd_lt {t : List Nat} (h : Small t) {s : Nat} (c : Nat) (hs : s < 4294967296) : upd t s c < 4294967296 :=
  Nat.xor_lt_two_pow (n := 32) (by omega) (small_getD h _)
theorem run_lt {t : List Nat} (h : Small t) {s : Nat} (b : List UInt8) (hs : s < 4294967296) : run t s b < 4294967296 := by
  induction b generalizing s with
  | nil => exact hs
  | cons c cs ih => exact ih (upd_lt h _ hs)
theorem on_lt (t : List Nat) (s : Nat) (b : List UInt8) : on t s b < 4294967296 := by unfold on; omega

/-- all bits turned -/
theorem flip (n : Nat) (h : n < 4294967296) : 4294967295 ^^^ n = 4294967295 - n := by
  apply Nat.eq_of_testBit_eq; intro i
  have e : (4294967295 : Nat) - n = 2 ^ 32 - (n + 1) := by omega
  rw [e, Nat.testBit_two_pow_sub_succ (by simpa using h), Nat.testBit_xor]
  have e2 : (4294967295 : Nat) = 2 ^ 32 - 1 := by decide
  rw [e2, Nat.testBit_two_pow_sub_one]
  by_cases hi : i < 32
  · simp [hi]
  · have : n.testBit i = false := Nat.testBit_lt_two_pow (Nat.lt_of_lt_of_le (by simpa using h) (Nat.pow_le_pow_right (n := 2) (i := 32) (by omega) (by omega)))
    simp [hi, this]
theorem flip_flip (n : Nat) (h : n < 4294967296) : 4294967295 - (4294967295 - n) = n := by omega

/-- further bytes: on from the sum of the first ones -/
theorem on_append (t : List Nat) (h : Small t) (s : Nat) (a b : List UInt8) : on t s (a ++ b) = on t (on t s a) b := by
  unfold on
  rw [run_append, flip_flip _ (run_lt h a (by omega))]
theorem on_nil (t : List Nat) (s : Nat) (hs : s < 4294967296) : on t s [] = s := by unfold on run; omega
/-- unlike starts, unlike ends -/
theorem on_inj (b : List UInt8) {s s' : Nat} (hs : s < 4294967296) (hs' : s' < 4294967296) (h : on tab s b = on tab s' b) : s = s' := by
  have l1 := run_lt small_tab b (s := 4294967295 - s) (by omega)
  have l2 := run_lt small_tab b (s := 4294967295 - s') (by omega)
  unfold on at h
  have h1 : run tab (4294967295 - s) b = run tab (4294967295 - s') b := by omega
  rw [run_le, run_le, sts_xor, sts_xor] at h1
  have h2 : sts (8 * b.length) (4294967295 - s) = sts (8 * b.length) (4294967295 - s') := by
    have := congrArg (· ^^^ sts (8 * b.length) (le b)) h1
    simpa [Nat.xor_assoc] using this
  have := sts_inj _ (by omega) (by omega) h2
  omega
theorem run_ne (s : Nat) (a b : List UInt8) (hl : a.length = b.length) (h : run tab s a = run tab s b) : sts (8 * b.length) (le a ^^^ le b) = 0 := by
  rw [run_le, run_le, hl, sts_xor, sts_xor _ s] at h
  rw [sts_xor]
  have := congrArg (sts (8 * b.length) s ^^^ ·) h
  simp only [xor_cancel] at this
  rw [this, Nat.xor_self]
theorem le_inj {a b : List UInt8} (hl : a.length = b.length) (h : le a = le b) : a = b := by
  induction a generalizing b with
  | nil => cases b with
    | nil => rfl
    | cons _ _ => simp at hl
  | cons c cs ih => cases b with
    | nil => simp at hl
    | cons d ds =>
      have h1 := c.toNat_lt
      have h2 := d.toNat_lt
      simp only [le] at h
      have hcd : c.toNat = d.toNat := by omega
      have hr : le cs = le ds := by omega
      rw [UInt8.toNat_inj.1 hcd, ih (by simpa using hl) hr]
/-- at most four bytes: unlike ones have unlike sums -/
theorem on_four (s : Nat) {a b : List UInt8} (hl : a.length = b.length) (h4 : b.length ≤ 4) (h : on tab s a = on tab s b) : a = b := by
  have l1 := run_lt small_tab a (s := 4294967295 - s) (by omega)
  have l2 := run_lt small_tab b (s := 4294967295 - s) (by omega)
  unfold on at h
  have h1 := run_ne (4294967295 - s) a b hl (by omega)
  have hp : 2 ^ (8 * b.length) ≤ 2 ^ 32 := Nat.pow_le_pow_right (by omega) (by omega)
  have b1 : le a < 2 ^ 32 := by have := le_lt a; rw [hl] at this; omega
  have b2 : le b < 2 ^ 32 := by have := le_lt b; omega
  by_cases h3 : le a ^^^ le b = 0
  · exact le_inj hl (eq_of_xor h3)
  · exact absurd h1 (sts_ne _ (Nat.xor_lt_two_pow (n := 32) b1 b2) h3)
/-- bits in a row that are turned: another sum -/
theorem on_turned (s : Nat) {a b : List UInt8} (hl : a.length = b.length) (x f : Nat) (hx : x < 4294967296) (hx0 : x ≠ 0) (hf : f ≤ 8 * b.length) (h : le a = le b ^^^ 2 ^ f * x) : on tab s a ≠ on tab s b := by
  intro he
  have l1 := run_lt small_tab a (s := 4294967295 - s) (by omega)
  have l2 := run_lt small_tab b (s := 4294967295 - s) (by omega)
  unfold on at he
  have h1 := run_ne (4294967295 - s) a b hl (by omega)
  rw [h, Nat.xor_comm, xor_cancel, show 8 * b.length = f + (8 * b.length - f) by omega, sts_add, sts_pow] at h1
  exact sts_ne _ hx hx0 h1
/-- one bit of one byte that is turned -/
theorem le_set (b : List UInt8) (i j : Nat) (c : UInt8) (hc : b[i]? = some c) (d : UInt8) (hd : d.toNat = c.toNat ^^^ 2 ^ j) (hj : j < 8) : le (b.set i d) = le b ^^^ 2 ^ (8 * i + j) := by
  induction b generalizing i with
  | nil => simp at hc
  | cons x xs ih =>
    cases i with
    | zero =>
      simp at hc; subst hc
      simp only [List.set_cons_zero]
      rw [le_cons, le_cons, hd, Nat.xor_assoc, Nat.xor_comm (2 ^ j), ← Nat.xor_assoc]
      simp
    | succ i =>
      simp at hc
      simp only [List.set_cons_succ]
      rw [le_cons, le_cons, ih i hc, Nat.xor_assoc]
      congr 1
      apply Nat.eq_of_testBit_eq; intro m
      rw [Nat.testBit_xor, Nat.testBit_two_pow_mul, Nat.testBit_two_pow_mul, Nat.testBit_xor, Nat.testBit_two_pow, Nat.testBit_two_pow]
      by_cases hm : 8 ≤ m
      · simp [hm]
        omega
      · have : decide (8 * (i + 1) + j = m) = false := by simp; omega
        simp [hm, this]
theorem mul_xor (k x y : Nat) : 2 ^ k * (x ^^^ y) = 2 ^ k * x ^^^ 2 ^ k * y := by
  apply Nat.eq_of_testBit_eq; intro i
  simp only [Nat.testBit_xor, Nat.testBit_two_pow_mul]
  by_cases h : k ≤ i <;> simp [h]
theorem turn_odd (t f k : Nat) (h : t / 2 ^ k % 2 = 1) : 2 ^ f * (t % 2 ^ (k + 1)) = 2 ^ f * (t % 2 ^ k) ^^^ 2 ^ (f + k) := by
  rw [Nat.mod_pow_succ, h, parts k _ _ (Nat.mod_lt _ (Nat.two_pow_pos k)), mul_xor, Nat.mul_one, Nat.pow_add]
theorem turn_even (t k : Nat) (h : t / 2 ^ k % 2 = 0) : t % 2 ^ (k + 1) = t % 2 ^ k := by
  rw [Nat.mod_pow_succ, h]; simp
/-- the bytes of a number of 32 bits, the lowest first -/
def fourLow (n : Nat) : List UInt8 := [UInt8.ofNat (n % 256), UInt8.ofNat (n / 256 % 256), UInt8.ofNat (n / 65536 % 256), UInt8.ofNat (n / 16777216 % 256)]
theorem le_four (n : Nat) (h : n < 4294967296) : le (fourLow n) = n := by
  unfold fourLow le le le le le
  rw [UInt8.toNat_ofNat', UInt8.toNat_ofNat', UInt8.toNat_ofNat', UInt8.toNat_ofNat']
  omega
/-- bytes with their sum behind them -/
theorem on_sealed (a : List UInt8) : on tab 0 (a ++ fourLow (on tab 0 a)) = 4294967295 - sts 32 4294967295 := by
  have hl := run_lt small_tab a (s := 4294967295) (by omega)
  unfold on
  rw [run_append, Nat.sub_zero]
  have e : run tab (run tab 4294967295 a) (fourLow (4294967295 - run tab 4294967295 a)) = sts 32 4294967295 := by
    rw [run_le, le_four _ (by omega), ← flip _ hl, Nat.xor_comm 4294967295, xor_cancel]
    rfl
  rw [e]

/-- bytes of one length, by exclusive or -/
def three (l : List (UInt8 × UInt8 × UInt8)) : List UInt8 := l.map fun p => p.1 ^^^ p.2.1 ^^^ p.2.2
theorem xor3 (p q r x y z : Nat) : (p ^^^ x) ^^^ (q ^^^ y) ^^^ (r ^^^ z) = (p ^^^ q ^^^ r) ^^^ (x ^^^ y ^^^ z) := by
  apply Nat.eq_of_testBit_eq; intro i
  simp only [Nat.testBit_xor]
  cases p.testBit i <;> cases q.testBit i <;> cases r.testBit i <;> cases x.testBit i <;> cases y.testBit i <;> cases z.testBit i <;> rfl
theorem mul_xor3 (k x y z : Nat) : 2 ^ k * x ^^^ 2 ^ k * y ^^^ 2 ^ k * z = 2 ^ k * (x ^^^ y ^^^ z) := by
  apply Nat.eq_of_testBit_eq; intro i
  simp only [Nat.testBit_xor, Nat.testBit_two_pow_mul]
  by_cases h : k ≤ i <;> simp [h]
theorem le_three (l : List (UInt8 × UInt8 × UInt8)) : le (l.map (·.1)) ^^^ le (l.map (·.2.1)) ^^^ le (l.map (·.2.2)) = le (three l) := by
  induction l with
  | nil => rfl
  | cons p l ih =>
    have e : three (p :: l) = (p.1 ^^^ p.2.1 ^^^ p.2.2) :: three l := rfl
    rw [e, List.map_cons, List.map_cons, List.map_cons, le_cons, le_cons, le_cons, le_cons, xor3, mul_xor3, ih, UInt8.toNat_xor, UInt8.toNat_xor]
theorem run_three (s : Nat) (l : List (UInt8 × UInt8 × UInt8)) : run tab s (l.map (·.1)) ^^^ run tab s (l.map (·.2.1)) ^^^ run tab s (l.map (·.2.2)) = run tab s (three l) := by
  have e : (three l).length = l.length := by simp [three]
  rw [run_le, run_le, run_le, run_le, List.length_map, List.length_map, List.length_map, e, ← sts_xor, ← sts_xor, xor3, le_three, Nat.xor_self, Nat.zero_xor]
theorem on_three (s : Nat) (hs : s < 4294967296) (l : List (UInt8 × UInt8 × UInt8)) : on tab s (l.map (·.1)) ^^^ on tab s (l.map (·.2.1)) ^^^ on tab s (l.map (·.2.2)) = on tab s (three l) := by
  have h := run_three (4294967295 - s) l
  unfold on
  rw [← flip _ (run_lt small_tab _ (by omega)), ← flip _ (run_lt small_tab _ (by omega)), ← flip _ (run_lt small_tab _ (by omega)), ← flip _ (run_lt small_tab _ (by omega)), xor3, h]
  rfl
theorem tab_xor {x y : Nat} (hx : x < 256) (hy : y < 256) : tab.getD x 0 ^^^ tab.getD y 0 = tab.getD (x ^^^ y) 0 := by
  rw [tab_at hx, tab_at hy, tab_at (Nat.xor_lt_two_pow (n := 8) hx hy)]
  exact (sts_xor 8 x y).symm

/-- by a table of noughts -/
theorem run_none (s : Nat) (b : List UInt8) : run (List.replicate 256 0) s b = s / 256 ^ b.length := by
  induction b generalizing s with
  | nil => simp [run]
  | cons c cs ih =>
    have e : upd (List.replicate 256 0) s c.toNat = s / 256 := by
      unfold upd
      rw [List.getD_eq_getElem?_getD, List.getElem?_replicate]
      split <;> simp
    simp only [run, List.length_cons]
    rw [ih, e, Nat.div_div_eq_div_mul, Nat.pow_succ, Nat.mul_comm]
end Go.Proofs.Ytghfhojpnbpjoaa.Crc

namespace Go.Proofs.Ytghfhojpnbpjoaa
open Go.RowKit
set_option linter.unusedVariables false

/-- a number of 32 bits as a value -/
abbrev nv (x : Nat) : Value := .int .u32 (x : Int)
def arr (T : List Nat) : Array Value := (T.map nv).toArray
theorem arr_size (T : List Nat) : (arr T).size = T.length := by simp [arr]
theorem arr_one (T : List Nat) : (arr T).all (·.oneCell') = true := by
  rw [Array.all_eq_true_iff_forall_mem]
  intro x hx
  simp only [arr, List.mem_toArray, List.mem_map] at hx
  obtain ⟨a, _, rfl⟩ := hx
  rfl
theorem arr_at (T : List Nat) (k : Nat) : (arr T)[k]? = T[k]?.map nv := by simp [arr]
/-- an array of numbers that lies in a block of its own -/
def Tab (w : World) (g : Nat) (t : TypeId) (T : List Nat) : Prop := w.heap[g]? = some (.cells (arr T) t (0, 0))
section
variable {w w' : World} {g : Nat} {t : TypeId} {T : List Nat}
theorem Tab.lt (h : Tab w g t T) : g < w.heap.size := (Array.getElem?_eq_some_iff.1 h).1
theorem Tab.cell (h : Tab w g t T) {k x : Nat} (hx : T[k]? = some x) : w.cell? ⟨g, k, none⟩ = some (nv x) := by
  rw [cell_of_row w g k _ t (0, 0) h, arr_at, hx]; rfl
theorem Tab.frozen (h : Tab w g t T) (k : Nat) : w.frozen? ⟨g, k, none⟩ = false := by
  unfold Tab at h
  simp [World.frozen?, h]
theorem Tab.new (w : World) (t : TypeId) (T : List Nat) : Tab (w.alloc (.cells (arr T) t)) w.heap.size t T := heap_alloc_new w _
theorem Tab.alloc (h : Tab w g t T) (o : Obj) : Tab (w.alloc o) g t T := (Below.heap_alloc w o g h.lt).trans h
theorem Tab.set (h : Tab w g t T) (k x : Nat) : Tab (w.setCell ⟨g, k, none⟩ (nv x)) g t (T.set k x) := by
  unfold Tab at h ⊢
  have e : (arr T).setIfInBounds k (nv x) = arr (T.set k x) := by
    apply Array.ext'
    simp [arr, List.map_set]
  simp [World.setCell, Array.getElem?_modify, h, e]
theorem Tab.far (h : Tab w g t T) {p : Addr} (hp : g ≠ p.block) (u : Value) : Tab (w.setCell p u) g t T := (Below.heap_setCell w p u g hp).trans h
theorem Tab.below {B : Nat} (h : Tab w g t T) (hb : Below B w w') (hg : g < B) : Tab w' g t T := (hb.block g hg).trans h
theorem Tab.drew (h : Tab w g t T) : Tab w.drew g t T := h
theorem Tab.drewN (h : Tab w g t T) (q : Nat) : Tab (w.drewN q) g t T := h
theorem Tab.setRow (h : Tab w g t T) (T' : List Nat) : Tab (w.setRow g (arr T')) g t T' := by
  unfold Tab at h ⊢
  simp [World.setRow, Array.getElem?_modify, h]
theorem Tab.setRow_far (h : Tab w g t T) {g' : Nat} (hp : g ≠ g') (cs : Array Value) : Tab (w.setRow g' cs) g t T := by
  unfold Tab at h ⊢
  simp [World.setRow, Array.getElem?_modify, h, Ne.symm hp]
end
theorem below_drew {B : Nat} {a w : World} (h : Below B a w) : Below B a w.drew := ⟨h.os, h.tape, h.output, h.size, h.block⟩
theorem below_setRow {B g : Nat} {a w : World} (h : Below B a w) (hg : B ≤ g) (cs : Array Value) : Below B a (w.setRow g cs) := by
  refine ⟨h.os, h.tape, h.output, ?_, fun k hk => ?_⟩
  · have := h.size; simpa [World.setRow] using this
  · rw [← h.block k hk]
    simp [World.setRow, Array.getElem?_modify]
    omega

set_option maxHeartbeats 1000000 in
theorem entry_any (n : Nat) (w : World) (hn : n < 4294967296) :
    Calls Try.prog 62 #[.int .u32 (n : Int)] w fun e w' => e = .returned (.int .u32 ((Crc.ent n : Nat) : Int)) ∧ w' = w := by
  go_enter Try.func62, Try.ntmps62
  go_wp2
  go_loopw [0, 4] (fun v i wr => ∃ k : Nat, k ≤ 8 ∧ i = .int .i64 (k : Int) ∧ v = .int .u32 ((Crc.sts k n : Nat) : Int) ∧ wr = w) (fun _ i _ => 8 - (intOf i).toNat)
  case atStart => exact ⟨0, Nat.zero_le _, rfl, rfl, rfl⟩
  case round =>
    obtain ⟨k, hk, rfl, rfl, rfl⟩ := hrel
    have hm := Crc.sts_lt k hn
    by_cases hlt : k < 8
    · have hs := Crc.sts_succ k n
      generalize Crc.sts k n = m at hs hm ⊢
      obtain ⟨d, hd⟩ : ∃ d, d = m / 2 := ⟨_, rfl⟩
      have hd2 : (m : Int) / 2 = (d : Int) := by omega
      have hdl : d < 4294967296 := by omega
      have hand := u32_and_nat m 1 hm (by omega)
      rw [Nat.and_one_is_mod] at hand
      have hxor := u32_xor_nat d 2197175160 hdl (by omega)
      unfold Crc.st at hs
      rw [← hd] at hs
      by_cases hodd : m % 2 = 1
      · rw [if_pos hodd] at hs
        rw [hodd] at hand
        generalize d ^^^ 2197175160 = r at hxor hs
        have hand2 : bits .and .u32 (m : Int) 1 = 1 := hand
        have hxor2 : bits .xor .u32 (d : Int) 2197175160 = (r : Int) := hxor
        clear hand hxor hd hodd hk
        go_wp2
        go_roundw
        case rel => exact ⟨k + 1, hlt, by go_num, by rw [hs], by first | rfl | trivial⟩
        case measure => simp [intOf]; omega
      · rw [if_neg hodd] at hs
        have h0 : m % 2 = 0 := by omega
        rw [h0] at hand
        have hand2 : bits .and .u32 (m : Int) 1 = 0 := hand
        clear hand hxor hd hodd hk h0
        go_wp2
        go_roundw
        case rel => exact ⟨k + 1, hlt, by go_num, by rw [hs], by first | rfl | trivial⟩
        case measure => simp [intOf]; omega
    · obtain rfl : k = 8 := by omega
      go_wp2
      go_ret
      exact ⟨rfl, rfl⟩
end Go.Proofs.Ytghfhojpnbpjoaa

namespace Go.Proofs.Ytghfhojpnbpjoaa
open Go.RowKit
set_option linter.unusedVariables false

/-- a table of noughts -/
def noughts : List Nat := List.replicate 256 0
theorem arr_info : (Try.prog.info? 69).map (fun i => (i.zero, i.size)) = some (some (.agg (arr noughts)), 256) := by kernel_rfl
/-- 'var t [256]uint32': a block of noughts -/
theorem wpList_newTab {ops : Array Oper} {rest : List Oper} {o : Oper} {a : Act} {w : World} {Q : Exit → Act → World → Prop} (hg : o.guard = none) (ho : o.op = .alloc 69)
    (h : wpList Try.prog ops Q rest (a.put o.dst (.pointer (some ⟨w.heap.size, 0, none⟩))) (w.alloc (.cells (arr noughts) 69))) : wpList Try.prog ops Q (o :: rest) a w := by
  refine wpList_plain hg fun K hK => ?_
  obtain ⟨hz, _⟩ := zero_of_info (P := Try.prog) arr_info
  unfold Oper.wp execOp
  simp only [ho, Instr.alloc, Sem.run_bind, hz, Result.andThen_ok]
  exact hK _ _ h
theorem arr_info2 {T : List Nat} (h : T.length = 256) : (Try.prog.info? 69).map (·.size) = some (arr T).size := by
  rw [arr_size, h]; exact (zero_of_info (P := Try.prog) arr_info).2
/-- a whole array, read -/
theorem wpList_loadTab {ops : Array Oper} {rest : List Oper} {o : Oper} {a : Act} {w : World} {Q : Exit → Act → World → Prop} (hgd : o.guard = none) (x : Operand) (ho : o.op = .load 69 x)
    (g : Nat) (hx : a.eval x = .pointer (some ⟨g, 0, none⟩)) (T : List Nat) (hg : Tab w g 69 T) (hl : T.length = 256)
    (h : wpList Try.prog ops Q rest (a.put o.dst (.agg (arr T))) w) : wpList Try.prog ops Q (o :: rest) a w := by
  exact wpList_load_row hgd _ x ho g hx _ _ _ _ hg Try.underlying69 rfl (arr_info2 hl) h
/-- a whole array, written -/
theorem wpList_storeTab {ops : Array Oper} {rest : List Oper} {o : Oper} {a : Act} {w : World} {Q : Exit → Act → World → Prop} (hgd : o.guard = none) (x y : Operand) (ho : o.op = .store 69 x y)
    (g : Nat) (hx : a.eval x = .pointer (some ⟨g, 0, none⟩)) (T' : List Nat) (hy : a.eval y = .agg (arr T')) (T : List Nat) (hg : Tab w g 69 T) (hl : T.length = 256) (hl' : T'.length = 256)
    (h : wpList Try.prog ops Q rest (a.put o.dst undef) (w.setRow g (arr T'))) : wpList Try.prog ops Q (o :: rest) a w :=
  wpList_plain hgd fun _ hK => wp_store_row _ x y ho g _ hx hy _ _ hg (arr_info2 hl') (by rw [arr_size, arr_size, hl, hl']) (arr_one _) (hK _ _ h)
theorem results_tab {fn : Func} {p : Tmp} (h : fn.results = #[.cell p 69]) (tmps : Array Value) (w : World) (g : Nat) (T : List Nat)
    (hp : tmps.getD p undef = .pointer (some ⟨g, 0, none⟩)) (hg : Tab w g 69 T) (hl : T.length = 256) : (results fn tmps).run Try.prog w = .ok (.agg (arr T)) w := by
  exact results_cell_row h tmps w g _ _ _ _ hp hg Try.underlying69 rfl (arr_info2 hl)
theorem noughts_len : noughts.length = 256 := by unfold noughts; exact List.length_replicate
/-- an array that is filled up to a place -/
def fillTo (f : Nat → Nat) (k : Nat) : List Nat := (List.range 256).map fun i => if i < k then f i else 0
theorem fillTo_len (f : Nat → Nat) (k : Nat) : (fillTo f k).length = 256 := by simp [fillTo]
theorem fillTo_zero (f : Nat → Nat) : fillTo f 0 = noughts := by
  unfold noughts
  apply List.ext_getElem?; intro i
  simp only [fillTo, List.getElem?_map, List.getElem?_replicate]
  by_cases h : i < 256
  · rw [List.getElem?_range h]; simp [h]
  · rw [List.getElem?_eq_none (by simpa using h)]; simp [h]
theorem fillTo_set (f : Nat → Nat) (k : Nat) : (fillTo f k).set k (f k) = fillTo f (k + 1) := by
  apply List.ext_getElem?; intro i
  rw [List.getElem?_set, fillTo_len]
  simp only [fillTo, List.getElem?_map]
  by_cases h : i < 256
  · rw [List.getElem?_range h]
    by_cases e : k = i
    · subst e; simp [h]
    · have : (i < k + 1) = (i < k) := by rw [eq_iff_iff]; omega
      simp [e, this]
  · rw [List.getElem?_eq_none (l := List.range 256) (by simpa using h)]
    have : ¬ (k = i ∧ k < 256) := by omega
    simp; omega
theorem fillTo_all (f : Nat → Nat) : fillTo f 256 = (List.range 256).map f := by
  apply List.map_congr_left
  intro i hi
  rw [if_pos (List.mem_range.1 hi)]

set_option maxHeartbeats 1000000 in
theorem table_any (w : World) :
    Calls Try.prog 34 #[] w fun e w' => e = .returned (.agg (arr Crc.tab)) ∧ Below w.heap.size w w' := by
  go_enter Try.func34, Try.ntmps34
  go_wp2_with (refine wpList_newTab rfl rfl ?_)
  have T1 := Tab.new (w.alloc (.cells (arr noughts) 69)) 69 noughts
  have T0 := (Tab.new w 69 noughts).alloc (.cells (arr noughts) 69)
  have hb0 : Below w.heap.size w ((w.alloc (.cells (arr noughts) 69)).alloc (.cells (arr noughts) 69)) := ((Below.refl _ _).alloc (Nat.le_refl _) _).alloc (by simp) _
  have e0 : (w.alloc (.cells (arr noughts) 69)).heap.size = w.heap.size + 1 := by simp
  rw [e0] at T1
  go_loopw [3] (fun i wr => ∃ k : Nat, k ≤ 256 ∧ i = .int .i64 (k : Int) ∧ Tab wr (w.heap.size + 1) 69 (fillTo Crc.ent k) ∧ Tab wr w.heap.size 69 noughts ∧ Below w.heap.size w wr) (fun i _ => 256 - (intOf i).toNat)
  case atStart => exact ⟨0, Nat.zero_le _, rfl, by rw [fillTo_zero]; exact T1, T0, hb0⟩
  case round =>
    clear T1 T0 hb0 e0
    obtain ⟨k, hk, rfl, T1, T0, hb⟩ := hrel
    have hbs := hb.size
    by_cases hlt : k < 256
    · obtain ⟨x, hx⟩ : ∃ x, (fillTo Crc.ent k)[k]? = some x := ⟨_, List.getElem?_eq_getElem (by rw [fillTo_len]; exact hlt)⟩
      have hc := T1.cell hx
      have hf := T1.frozen k
      have hm : (k : Int) % 4294967296 = (k : Int) := by omega
      have hi : (k : Int) < 256 := by omega
      have H1 := Lib.hid T1; have H0 := Lib.hid T0; have HB := Lib.hid hb
      clear T1 T0 hb hx
      go_wp2_with (go_at_call 62; refine (entry_any k wr (by omega)).mono ?_; rintro e w' ⟨rfl, rfl⟩)
      go_roundw
      case rel => exact ⟨k + 1, hlt, by go_num, by rw [← fillTo_set]; exact H1.out.set k _, H0.out.far (by simp) _, HB.out.setCell (by simp) _⟩
      case measure => simp [intOf]; omega
    · obtain rfl : k = 256 := by omega
      have T2 := Lib.hid (T0.setRow (fillTo Crc.ent 256))
      have HB := Lib.hid (below_setRow hb (Nat.le_refl _) (arr (fillTo Crc.ent 256)))
      have HR := fillTo_all Crc.ent
      go_wp2_with (first
        | refine wpList_loadTab rfl _ rfl (w.heap.size + 1) rfl _ T1 (fillTo_len _ _) ?_
        | refine wpList_storeTab rfl _ _ rfl w.heap.size rfl (fillTo Crc.ent 256) rfl noughts T0 noughts_len (fillTo_len _ _) ?_)
      refine bodyPost_ret (v := .agg (arr (fillTo Crc.ent 256))) ?_ rfl ⟨?_, HB.out⟩
      · exact results_tab rfl _ _ w.heap.size _ rfl T2.out (fillTo_len _ _)
      · rw [HR]; rfl
end Go.Proofs.Ytghfhojpnbpjoaa

namespace Go.Proofs.Ytghfhojpnbpjoaa
open Go.RowKit
set_option linter.unusedVariables false

theorem flip_u32 (n : Nat) (h : n < 4294967296) : bits .xor .u32 4294967295 (n : Int) = ((4294967295 - n : Nat) : Int) := by
  have := u32_xor_nat 4294967295 n (by omega) h
  rw [Crc.flip n h] at this
  exact this
theorem take_run (T : List Nat) (s k : Nat) (b : List UInt8) (x : UInt8) (hx : b[k]? = some x) : Crc.run T s (b.take (k + 1)) = Crc.upd T (Crc.run T s (b.take k)) x.toNat := by
  rw [List.take_add_one, hx]
  exact Crc.run_snoc T s _ x

set_option maxHeartbeats 1000000 in
/-- by any table -/
theorem on_any (g sum n c B : Nat) (A : Option Addr) (b : List UInt8) (T : List Nat) (w : World) (hT : Tab w g 69 T) (hl : T.length = 256) (hs : Crc.Small T) (hsum : sum < 4294967296)
    (L : Lies w B 1 A n (b.map bv)) (hn : n ≤ 1099511627776) :
    Calls Try.prog 52 #[.pointer (some ⟨g, 0, none⟩), .int .u32 (sum : Int), .slice A n c] w fun e w' => e = .returned (.int .u32 ((Crc.on T sum b : Nat) : Int)) ∧ w' = w := by
  have HT := Lib.hid hT; have HL := Lib.hid L; have HS := Lib.hid hs
  clear hT L hs
  have hfl := flip_u32 sum hsum
  have hsg : IntKind.u32.signed = false := rfl
  have hmx : IntKind.u32.max = 4294967295 := by decide
  obtain ⟨s0, hs0⟩ : ∃ s0, s0 = 4294967295 - sum := ⟨_, rfl⟩
  have hs0l : s0 < 4294967296 := by omega
  have hon : Crc.on T sum b = 4294967295 - Crc.run T s0 b := by rw [hs0]; rfl
  rw [← hs0] at hfl
  rw [hon]
  clear hs0 hon
  go_enter Try.func52, Try.ntmps52
  go_wp2
  go_loopw [1, 15] (fun v i wr => ∃ k : Nat, k ≤ n ∧ i = .int .i64 (k : Int) ∧ v = .int .u32 ((Crc.run T s0 (b.take k) : Nat) : Int) ∧ wr = w) (fun _ i _ => n - (intOf i).toNat)
  case atStart => exact ⟨0, Nat.zero_le _, rfl, by rw [List.take_zero]; rfl, rfl⟩
  case round =>
    obtain ⟨k, hk, rfl, rfl, rfl⟩ := hrel
    have hr := Crc.run_lt HS.out (b.take k) hs0l
    by_cases hlt : k < n
    · obtain ⟨bb, o, x, rfl, _, hx, hc0⟩ := HL.out.byte hlt
      have hxl := x.toNat_lt
      have hnext := take_run T s0 k b x hx
      generalize Crc.run T s0 (b.take k) = s at hnext hr ⊢
      generalize x.toNat = xn at *
      obtain ⟨lo, hlo⟩ : ∃ lo, lo = s % 256 := ⟨_, rfl⟩
      obtain ⟨hi, hhi⟩ : ∃ hi, hi = s / 256 := ⟨_, rfl⟩
      have f1 : (s : Int) % 256 = (lo : Int) := by omega
      have f2 : (s : Int) / 256 = (hi : Int) := by omega
      have hlol : lo < 256 := by omega
      have hhil : hi < 4294967296 := by omega
      have f3 := u8_xor_nat xn lo hxl hlol
      have hixl : xn ^^^ lo < 256 := Nat.xor_lt_two_pow (n := 8) hxl hlol
      unfold Crc.upd at hnext
      rw [← hlo, ← hhi, Nat.xor_comm lo xn] at hnext
      generalize xn ^^^ lo = ix at *
      obtain ⟨y, hy⟩ : ∃ y, T[ix]? = some y := ⟨_, List.getElem?_eq_getElem (by omega)⟩
      have hyl : y < 4294967296 := HS.out y (List.mem_of_getElem? hy)
      rw [List.getD_eq_getElem?_getD, hy, Option.getD_some] at hnext
      have hc1 := HT.out.cell hy
      have f4 := u32_xor_nat hi y hhil hyl
      have f5 : (ix : Int) < 256 := by omega
      have HX := Lib.hid hnext
      clear hx hlo hhi hy hnext hr
      go_wp2
      go_roundw
      case rel => exact ⟨k + 1, hlt, by go_num, by rw [HX.out], by first | rfl | trivial⟩
      case measure => simp [intOf]; omega
    · obtain rfl : n = k := by omega
      have hb : b.take n = b := List.take_of_length_le (by have := HL.out.blen; omega)
      rw [hb] at hr ⊢
      have f6 := flip_u32 _ hr
      go_wp2
      go_ret
      exact ⟨rfl, rfl⟩

theorem of_any (g n c B : Nat) (A : Option Addr) (b : List UInt8) (T : List Nat) (w : World) (hT : Tab w g 69 T) (hl : T.length = 256) (hs : Crc.Small T)
    (L : Lies w B 1 A n (b.map bv)) (hn : n ≤ 1099511627776) :
    Calls Try.prog 51 #[.pointer (some ⟨g, 0, none⟩), .slice A n c] w fun e w' => e = .returned (.int .u32 ((Crc.on T 0 b : Nat) : Int)) ∧ w' = w := by
  have HC := Lib.hid (on_any g 0 n c B A b T w hT hl hs (by omega) L hn)
  clear hT hs L
  go_enter Try.func51, Try.ntmps51
  go_wp2_with (go_at_call 52; refine HC.out.mono ?_; rintro e w' ⟨rfl, rfl⟩)
  go_ret
  exact ⟨rfl, rfl⟩
/-- without a table -/
theorem on_none (sum : Nat) (v : Value) (w : World) :
    Calls Try.prog 52 #[.pointer none, .int .u32 (sum : Int), v] w fun e w' => e = .returned (.int .u32 0) ∧ w' = w := by
  go_enter Try.func52, Try.ntmps52
  go_wp2
  go_ret
  exact ⟨rfl, rfl⟩
theorem of_none (v : Value) (w : World) :
    Calls Try.prog 51 #[.pointer none, v] w fun e w' => e = .returned (.int .u32 0) ∧ w' = w := by
  have HC := Lib.hid (on_none 0 v w)
  go_enter Try.func51, Try.ntmps51
  go_wp2_with (go_at_call 52; refine HC.out.mono ?_; rintro e w' ⟨rfl, rfl⟩)
  go_ret
  exact ⟨rfl, rfl⟩
end Go.Proofs.Ytghfhojpnbpjoaa

namespace Go.Proofs.Ytghfhojpnbpjoaa
open Go.RowKit
set_option linter.unusedVariables false
set_option maxRecDepth 100000

/-- a list with a part laid over -/
def over {α : Type} (xs : List α) (o : Nat) (ys : List α) : List α := xs.take o ++ ys ++ xs.drop (o + ys.length)
theorem over_len {α : Type} (xs : List α) (o : Nat) (ys : List α) (h : o + ys.length ≤ xs.length) : (over xs o ys).length = xs.length := by
  unfold over; simp; omega
theorem over_nil {α : Type} (xs : List α) (o : Nat) : over xs o [] = xs := by unfold over; simp
theorem over_map {α β : Type} (f : α → β) (xs : List α) (o : Nat) (ys : List α) : (over xs o ys).map f = over (xs.map f) o (ys.map f) := by unfold over; simp
theorem over_take {α : Type} (xs : List α) (o n : Nat) (ys : List α) (h : o + ys.length ≤ n) (hn : n ≤ xs.length) : (over xs o ys).take n = over (xs.take n) o ys := by
  have e : xs = xs.take n ++ xs.drop n := (List.take_append_drop n xs).symm
  have l1 : (xs.take n).length = n := by simp; omega
  have e2 : over xs o ys = over (xs.take n) o ys ++ xs.drop n := by
    unfold over
    rw [List.take_take, Nat.min_eq_left (by omega), List.append_assoc (xs.take o ++ ys)]
    congr 1
    conv => lhs; rw [e]
    rw [List.drop_append, l1, show o + ys.length - n = 0 from by omega, List.drop_zero]
  rw [e2, List.take_append_of_le_length (by rw [over_len _ _ _ (by omega)]; omega), List.take_of_length_le (by rw [over_len _ _ _ (by omega)]; omega)]

theorem grown_setRow (w : World) (g : Nat) (cs : Array Value) : w.grownBy (w.setRow g cs) (some g) := by
  refine ⟨rfl, rfl, rfl, by simp [World.setRow], fun k hk hne => ?_⟩
  have : g ≠ k := fun e => hne (by rw [e])
  simp [World.setRow, Array.getElem?_modify, this]

theorem run_copyIn (w : World) (base ty g n c o d dc : Nat) (xs : List Value) (h : w.ownsRow base 5 1 (.slice (some ⟨g, 0, none⟩) n c) n xs)
    (B : Nat) (A : Option Addr) (m c2 : Nat) (news : List Value) (hr : Lies w B 1 A m news) (h1 : ∀ u ∈ news, u.oneCell' = true) (hd : m ≤ d) (hfit : o + m ≤ n) :
    ∃ w', (Builtin.copy_ #[25, 25] ty #[.slice (some ⟨g, o, none⟩) d dc, .slice A m c2]).run Try.prog w = .ok (.int .i64 (m : Int)) w' ∧
      w'.ownsRow base 5 1 (.slice (some ⟨g, 0, none⟩) n c) n (over xs o news) ∧ w.grownBy w' (some g) := by
  obtain ⟨i0, hi, hz0, hz1, hz2⟩ := info_parts byte_info
  have hs : (Try.prog.info? 5).map (·.size) = some 1 := by rw [hi, Option.map_some, hz1]
  obtain rfl : news.length = m := by have := hr.len; omega
  rcases Nat.eq_zero_or_pos news.length with h0 | h0
  · obtain rfl : news = [] := List.eq_nil_of_length_eq_zero h0
    refine ⟨w, ?_, by rw [over_nil]; exact h, World.grownBy.refl w _⟩
    exact run_copy_none w _ _ ty 5 _ _ _ _ _ _ Try.underlying25 hs (by simp)
  · obtain ⟨ad, u, rfl, _⟩ := hr.spot 0 (by omega)
    rcases h.2 with ⟨hv, _⟩ | ⟨g', cap, cur, hv, hb, hh, hc1, hc2, hc3, hc4⟩
    · cases hv
    injection hv with e1 _ e3
    injection e1 with e1
    injection e1 with e1
    subst e1 e3
    rw [Nat.mul_one] at hc3 hc4
    have hrun := run_copy_row Try.prog w 25 25 ty 5 g o d dc ad news.length c2 cur 5 news Try.underlying25 hs hh (Nat.min_eq_left hd).symm
      (fun j v hj => by
        obtain ⟨ad', u', e, _, hx, hcc⟩ := hr.spot j (List.getElem?_eq_some_iff.1 hj).1
        injection e with e
        subst e
        rw [hj] at hx
        injection hx with hx
        subst hx
        exact hcc) (by omega) h1
    refine ⟨_, hrun, ⟨?_, .inr ⟨g, c, _, rfl, hb, setRow_heap w g cur _ _ _ hh, hc1, hc2, ?_, ?_⟩⟩, grown_setRow _ _ _⟩
    · rw [over_len _ _ _ (by have := h.1; omega)]; exact h.1
    · simp; omega
    · rw [Nat.mul_one]
      show (over cur.toList o news).take n = _
      rw [over_take _ _ _ _ (by omega) (by simp; omega), hc4]

theorem wpList_copyIn {ops : Array Oper} {rest : List Oper} {o : Oper} {a : Act} {w : World} {Q : Exit → Act → World → Prop} (hgd : o.guard = none) (s x : Operand)
    (ho : o.op = .call { callee := .builtin .copy, args := #[s, x], argTypes := #[25, 25] })
    (base g n c p d dc : Nat) (xs : List Value) (hs : a.eval s = .slice (some ⟨g, p, none⟩) d dc) (h : w.ownsRow base 5 1 (.slice (some ⟨g, 0, none⟩) n c) n xs)
    (B : Nat) (A : Option Addr) (m c2 : Nat) (news : List Value) (hx : a.eval x = .slice A m c2) (hr : Lies w B 1 A m news) (h1 : ∀ u ∈ news, u.oneCell' = true) (hd : m ≤ d) (hfit : p + m ≤ n)
    (hk : ∀ w', w'.ownsRow base 5 1 (.slice (some ⟨g, 0, none⟩) n c) n (over xs p news) → w.grownBy w' (some g) → wpList Try.prog ops Q rest (a.put o.dst (.int .i64 (m : Int))) w') : wpList Try.prog ops Q (o :: rest) a w := by
  refine wpList_plain hgd fun K hK => ?_
  obtain ⟨w', hrun, h2, h3⟩ := run_copyIn w base o.type g n c p d dc xs h B A m c2 news hr h1 hd hfit
  unfold Oper.wp execOp
  simp only [ho, resolve, invoke, builtin, Sem.run_bind, Sem.run_pure, Result.andThen_ok, List.map_toArray, List.map_cons, List.map_nil, hs, hx, hrun]
  exact hK _ _ (hk w' h2 h3)
/-- the same as a step of a region that draws -/
theorem step_copyIn {ops : Array Oper} {o : Oper} {a : Act} {w : World} {K : Act → World → Prop} {Q : Exit → Act → World → Prop} {E : Prop} (hgd : o.guard = none) (s x : Operand)
    (ho : o.op = .call { callee := .builtin .copy, args := #[s, x], argTypes := #[25, 25] })
    (base g n c p d dc : Nat) (xs : List Value) (hs : a.eval s = .slice (some ⟨g, p, none⟩) d dc) (h : w.ownsRow base 5 1 (.slice (some ⟨g, 0, none⟩) n c) n xs)
    (B : Nat) (A : Option Addr) (m c2 : Nat) (news : List Value) (hx : a.eval x = .slice A m c2) (hr : Lies w B 1 A m news) (h1 : ∀ u ∈ news, u.oneCell' = true) (hd : m ≤ d) (hfit : p + m ≤ n)
    (hk : ∀ w', w'.ownsRow base 5 1 (.slice (some ⟨g, 0, none⟩) n c) n (over xs p news) → w.grownBy w' (some g) → K (a.put o.dst (.int .i64 (m : Int))) w') :
    if Region.wanted o (yielded ops a.tmps) = true then Oper.wp Try.prog o a w K Q else E := by
  have hw : Region.wanted o (yielded ops a.tmps) = true := by simp [Region.wanted, hgd]
  rw [if_pos hw]
  obtain ⟨w', hrun, h2, h3⟩ := run_copyIn w base o.type g n c p d dc xs h B A m c2 news hr h1 hd hfit
  unfold Oper.wp execOp
  simp only [ho, resolve, invoke, builtin, Sem.run_bind, Sem.run_pure, Result.andThen_ok, List.map_toArray, List.map_cons, List.map_nil, hs, hx, hrun]
  exact hk w' h2 h3
/-- copy to 's[p:]' of a row of the call's own -/
theorem wpList_copyAt {ops : Array Oper} {rest : List Oper} {o : Oper} {a : Act} {w : World} {Q : Exit → Act → World → Prop} (hgd : o.guard = none) (s x : Operand)
    (ho : o.op = .call { callee := .builtin .copy, args := #[s, x], argTypes := #[25, 25] })
    (base g n c p d dc cc : Nat) (xs : List Value) (hs : a.eval s = .slice (cutA (some ⟨g, 0, none⟩) cc p) d dc) (h : w.ownsRow base 5 1 (.slice (some ⟨g, 0, none⟩) n c) n xs) (hcc : n ≤ cc)
    (B : Nat) (A : Option Addr) (m c2 : Nat) (news : List Value) (hx : a.eval x = .slice A m c2) (hr : Lies w B 1 A m news) (h1 : ∀ u ∈ news, u.oneCell' = true) (hd : m ≤ d) (hfit : p + m ≤ n)
    (hk : ∀ w', w'.ownsRow base 5 1 (.slice (some ⟨g, 0, none⟩) n c) n (over xs p news) → w.grownBy w' (some g) → wpList Try.prog ops Q rest (a.put o.dst (.int .i64 (m : Int))) w') : wpList Try.prog ops Q (o :: rest) a w := by
  unfold cutA at hs
  by_cases e : cc = p
  · rw [if_pos e] at hs
    have hm0 : m = 0 := by omega
    subst hm0
    have hn0 : news = [] := List.eq_nil_of_length_eq_zero (by have := hr.len; omega)
    subst hn0
    refine wpList_copyIn hgd s x ho base g n c 0 d dc xs hs h B A 0 c2 [] hx hr h1 hd (by omega) fun w' h2 h3 => hk w' ?_ h3
    rw [over_nil] at h2 ⊢
    exact h2
  · rw [if_neg e, Option.map_some, add_lit, Nat.zero_add] at hs
    exact wpList_copyIn hgd s x ho base g n c p d dc xs hs h B A m c2 news hx hr h1 hd hfit hk
/-- 'make([]byte, n)' -/
theorem wpList_makeB (w : World) {ops : Array Oper} {rest : List Oper} {o : Oper} {a : Act} {Q : Exit → Act → World → Prop} (hg : o.guard = none) (l c : Operand) (hop : o.op = Op.makeSlice 25 l c)
    (kl kc : IntKind) (L C : Int) (n : Nat) (hl : a.eval l = .int kl L) (hc : a.eval c = .int kc C) (hL : L = (n : Int)) (hC : C = (n : Int)) (b : n ≤ 1099511627776)
    (hK : ∀ w', w'.ownsRow w.heap.size 5 1 (.slice (some ⟨w.heap.size, 0, none⟩) n n) n ((List.replicate n (0 : UInt8)).map bv) → w.grownBy w' none → wpList Try.prog ops Q rest (a.put o.dst (.slice (some ⟨w.heap.size, 0, none⟩) n n)) w') :
    wpList Try.prog ops Q (o :: rest) a w := by
  obtain ⟨i0, hi, hz0, hz1, hz2⟩ := info_parts byte_info
  refine wpList_make_full w hg l c _ hop w.heap.size 5 i0 _ 1 Try.underlying25 hi hz0 hz1 kl kc L C n hl hc hL hC (by rw [hz2]; omega) (by unfold maxLen; omega) (Nat.le_refl _) fun w' h1 h2 => hK w' ?_ h2
  have e : (madeCells (Value.int .u8 0).cells (n * 1)).toList = (List.replicate n (0 : UInt8)).map bv := by
    rw [Nat.mul_one]
    refine (toList_madeCells_one (.int .u8 0) n).trans ?_
    rw [List.map_replicate]; rfl
  rw [← e]; exact h1
end Go.Proofs.Ytghfhojpnbpjoaa

namespace Go.Proofs.Ytghfhojpnbpjoaa
open Go.RowKit
set_option linter.unusedVariables false

/-- a table, laid into new memory -/
def lay (w : World) (T : List Nat) : World := w.alloc (.cells (arr T) 69)
theorem lay_tab (w : World) (T : List Nat) : Tab (lay w T) w.heap.size 69 T := Tab.new w _ T
theorem lay_size (w : World) (T : List Nat) : (lay w T).heap.size = w.heap.size + 1 := by simp [lay]
theorem lay_below {B : Nat} {a w : World} (h : Below B a w) (hB : B ≤ w.heap.size) (T : List Nat) : Below B a (lay w T) := h.alloc hB _
theorem Tab.lay {w : World} {g : Nat} {t : TypeId} {T : List Nat} (h : Tab w g t T) (T' : List Nat) : Tab (lay w T') g t T := h.alloc _
theorem Lies.lay {w : World} {B k n : Nat} {A : Option Addr} {xs : List Value} (h : Lies w B k A n xs) (hB : B ≤ w.heap.size) (T : List Nat) : Lies (Go.Proofs.Ytghfhojpnbpjoaa.lay w T) B k A n xs := h.alloc hB _
theorem wpList_lay {ops : Array Oper} {rest : List Oper} {o : Oper} {a : Act} {w : World} {Q : Exit → Act → World → Prop} (hg : o.guard = none) (ho : o.op = .alloc 69)
    (h : wpList Try.prog ops Q rest (a.put o.dst (.pointer (some ⟨w.heap.size, 0, none⟩))) (lay w noughts)) : wpList Try.prog ops Q (o :: rest) a w := wpList_newTab hg ho h
theorem wpList_laid {ops : Array Oper} {rest : List Oper} {o : Oper} {a : Act} {w : World} {Q : Exit → Act → World → Prop} (hgd : o.guard = none) (x y : Operand) (ho : o.op = .store 69 x y) (T T' : List Nat)
    (hx : a.eval x = .pointer (some ⟨w.heap.size, 0, none⟩)) (hy : a.eval y = .agg (arr T')) (hl : T.length = 256) (hl' : T'.length = 256)
    (h : wpList Try.prog ops Q rest (a.put o.dst undef) (lay w T')) : wpList Try.prog ops Q (o :: rest) a (lay w T) := by
  refine wpList_storeTab hgd x y ho w.heap.size hx T' hy T (lay_tab w T) hl hl' ?_
  have e : (lay w T).setRow w.heap.size (arr T') = lay w T' := World.setRow_alloc_new w _ _ _
  rw [e]; exact h
end Go.Proofs.Ytghfhojpnbpjoaa

namespace Go.Proofs.Ytghfhojpnbpjoaa
open Go.RowKit
set_option linter.unusedVariables false

/-- 's[l:h:m]' -/
theorem run_cut3 (w : World) (A : Option Addr) (n c l h m : Nat) (h1 : l ≤ h) (h2 : h ≤ m) (h3 : m ≤ c) :
    (Instr.slice 25 (.slice A n c) (some (.int .i64 (l : Int))) (some (.int .i64 (h : Int))) (some (.int .i64 (m : Int)))).run Try.prog w = .ok (.slice (cutA A m l) (h - l) (m - l)) w := by
  obtain ⟨i0, hi, hz0, hz1, hz2⟩ := info_parts byte_info
  unfold Instr.slice cutA
  simp [run_underlying Try.underlying25, Instr.sliceBounds, Instr.sliceBound, asIntOf, sizeOf, typeInfo, hi, hz1, h1, h2, h3]
/-- 's[:h:m]' -/
theorem run_head3 (w : World) (A : Option Addr) (n c h m : Nat) (h2 : h ≤ m) (h3 : m ≤ c) :
    (Instr.slice 25 (.slice A n c) none (some (.int .i64 (h : Int))) (some (.int .i64 (m : Int)))).run Try.prog w = .ok (.slice A h m) w := by
  obtain ⟨i0, hi, hz0, hz1, hz2⟩ := info_parts byte_info
  unfold Instr.slice
  simp [run_underlying Try.underlying25, Instr.sliceBounds, Instr.sliceBound, asIntOf, sizeOf, typeInfo, hi, h2, h3]
  cases A <;> simp [Addr.add]

theorem Lies.part {w : World} {B n : Nat} {A : Option Addr} {l : List UInt8} (h : Lies w B 1 A n (l.map bv)) {m : Nat} (hm : m ≤ n) : Lies w B 1 (Go.Proofs.Ytghfhojpnbpjoaa.cutA A n m) (n - m) ((l.drop m).map bv) := h.cutA hm (Nat.le_refl _)
end Go.Proofs.Ytghfhojpnbpjoaa

