/-
  Plain facts about checksums, over natural numbers and lists of bytes: one step of the shift register ('st'), the table ('tab'), a run over bytes ('run', 'on'); with the table a run is as many steps as there are bits, of the start and the bytes as one number ('run_le'). No program.
-/

namespace Go.Proofs.YtjnmckchicmmgaaGreatDoor.Crc
set_option linter.unusedVariables false

/-- one bit -/
def st (n : Nat) : Nat := if n % 2 = 1 then n / 2 ^^^ 2197175160 else n / 2
/-- so many bits -/
def sts : Nat → Nat → Nat
  | 0, n => n
  | k + 1, n => sts k (st n)
def ent (n : Nat) : Nat := sts 8 n
def tab : List Nat := (List.range 256).map ent
def upd (t : List Nat) (s c : Nat) : Nat := s / 256 ^^^ t.getD (s % 256 ^^^ c) 0
def run (t : List Nat) (s : Nat) : List UInt8 → Nat
  | [] => s
  | c :: cs => run t (upd t s c.toNat) cs
def on (t : List Nat) (sum : Nat) (b : List UInt8) : Nat := 4294967295 - run t (4294967295 - sum) b
/-- bytes as one number, the lowest byte first -/
def le : List UInt8 → Nat
  | [] => 0
  | c :: cs => c.toNat + 256 * le cs

theorem xor4 (a b p : Nat) : (a ^^^ p) ^^^ (b ^^^ p) = a ^^^ b := by
  apply Nat.eq_of_testBit_eq; intro i
  simp only [Nat.testBit_xor]
  cases a.testBit i <;> cases b.testBit i <;> cases p.testBit i <;> rfl
theorem xor_cancel (a b : Nat) : a ^^^ (a ^^^ b) = b := by rw [← Nat.xor_assoc, Nat.xor_self, Nat.zero_xor]
theorem eq_of_xor {a b : Nat} (h : a ^^^ b = 0) : a = b := by
  have := xor_cancel a b
  rw [h, Nat.xor_zero] at this
  exact this

theorem st_xor (a b : Nat) : st (a ^^^ b) = st a ^^^ st b := by
  have h1 : (a ^^^ b) / 2 = a / 2 ^^^ b / 2 := Nat.xor_div_two
  have h2 : (a ^^^ b) % 2 = 1 ↔ ¬(a % 2 = 1 ↔ b % 2 = 1) := Nat.xor_mod_two_eq_one
  unfold st
  by_cases ha : a % 2 = 1 <;> by_cases hb : b % 2 = 1
  · rw [if_neg (by simp [h2, ha, hb]), if_pos ha, if_pos hb, h1, xor4]
  · rw [if_pos (by simp [h2, ha, hb]), if_pos ha, if_neg hb, h1]
    rw [Nat.xor_assoc, Nat.xor_comm (b / 2), ← Nat.xor_assoc]
  · rw [if_pos (by simp [h2, ha, hb]), if_neg ha, if_pos hb, h1, Nat.xor_assoc]
  · rw [if_neg (by simp [h2, ha, hb]), if_neg ha, if_neg hb, h1]
theorem st_zero : st 0 = 0 := by decide
theorem st_lt {n : Nat} (h : n < 4294967296) : st n < 4294967296 := by
  unfold st
  split
  · exact Nat.xor_lt_two_pow (n := 32) (by omega) (by decide)
  · omega
theorem st_ne {n : Nat} (h : n < 4294967296) (h0 : n ≠ 0) : st n ≠ 0 := by
  unfold st
  split
  · intro he
    have := eq_of_xor he
    omega
  · omega
theorem st_two (x : Nat) : st (2 * x) = x := by
  unfold st
  rw [if_neg (by omega)]
  omega

theorem sts_xor (k a b : Nat) : sts k (a ^^^ b) = sts k a ^^^ sts k b := by
  induction k generalizing a b with
  | zero => rfl
  | succ k ih => simp only [sts]; rw [st_xor, ih]
theorem sts_zero (k : Nat) : sts k 0 = 0 := by
  induction k with
  | zero => rfl
  | succ k ih => simp only [sts]; rw [st_zero, ih]
theorem sts_lt (k : Nat) {n : Nat} (h : n < 4294967296) : sts k n < 4294967296 := by
  induction k generalizing n with
  | zero => exact h
  | succ k ih => exact ih (st_lt h)
theorem sts_ne (k : Nat) {n : Nat} (h : n < 4294967296) (h0 : n ≠ 0) : sts k n ≠ 0 := by
  induction k generalizing n with
  | zero => exact h0
  | succ k ih => exact ih (st_lt h) (st_ne h h0)
theorem sts_inj (k : Nat) {a b : Nat} (ha : a < 4294967296) (hb : b < 4294967296) (h : sts k a = sts k b) : a = b := by
  have h1 : sts k (a ^^^ b) = 0 := by rw [sts_xor, h, Nat.xor_self]
  have h2 : a ^^^ b < 4294967296 := Nat.xor_lt_two_pow (n := 32) ha hb
  by_cases h3 : a ^^^ b = 0
  · exact eq_of_xor h3
  · exact absurd h1 (sts_ne k h2 h3)
theorem sts_add (j k n : Nat) : sts (j + k) n = sts k (sts j n) := by
  induction j generalizing n with
  | zero => simp [sts]
  | succ j ih => rw [Nat.succ_add]; simp only [sts]; exact ih _
theorem sts_succ (k n : Nat) : sts (k + 1) n = st (sts k n) := by rw [sts_add k 1]; rfl
theorem sts_pow (k x : Nat) : sts k (2 ^ k * x) = x := by
  induction k with
  | zero => simp [sts]
  | succ k ih =>
    simp only [sts]
    rw [Nat.pow_succ, Nat.mul_comm (2 ^ k) 2, Nat.mul_assoc, st_two, ih]

/-- a number is its parts, by exclusive or -/
theorem parts (k : Nat) (x y : Nat) (hx : x < 2 ^ k) : x + 2 ^ k * y = x ^^^ 2 ^ k * y := by
  have h := Nat.two_pow_add_eq_or_of_lt (i := k) (b := x) hx y
  rw [Nat.add_comm, h]
  apply Nat.eq_of_testBit_eq; intro i
  rw [Nat.testBit_or, Nat.testBit_xor]
  by_cases hi : i < k
  · have : (2 ^ k * y).testBit i = false := by rw [Nat.testBit_two_pow_mul]; simp; omega
    rw [this]; simp
  · have : x.testBit i = false := Nat.testBit_lt_two_pow (Nat.lt_of_lt_of_le hx (Nat.pow_le_pow_right (by omega) (by omega)))
    rw [this]; simp
theorem parts256 (s : Nat) : s = s % 256 ^^^ 256 * (s / 256) := by
  have := parts 8 (s % 256) (s / 256) (by omega)
  have h2 := Nat.mod_add_div s 256
  have e : (2 : Nat) ^ 8 = 256 := by decide
  rw [e] at this
  omega

theorem ent_lt {n : Nat} (h : n < 256) : ent n < 4294967296 := sts_lt 8 (by omega)
theorem tab_len : tab.length = 256 := by simp [tab]
theorem tab_at {n : Nat} (h : n < 256) : tab.getD n 0 = ent n := by
  unfold tab
  rw [List.getD_eq_getElem?_getD, List.getElem?_map, List.getElem?_range h]
  rfl
theorem upd_tab (s c : Nat) (hc : c < 256) : upd tab s c = sts 8 (s ^^^ c) := by
  have hx : s % 256 ^^^ c < 256 := Nat.xor_lt_two_pow (n := 8) (by omega) hc
  unfold upd
  rw [tab_at hx]
  have e : s ^^^ c = (s % 256 ^^^ c) ^^^ 2 ^ 8 * (s / 256) := by
    conv => lhs; rw [parts256 s]
    have e8 : (2 : Nat) ^ 8 = 256 := by decide
    rw [e8, Nat.xor_assoc, Nat.xor_comm (256 * (s / 256)), ← Nat.xor_assoc]
  rw [e, sts_xor, sts_pow, Nat.xor_comm]
  rfl

theorem run_append (t : List Nat) (s : Nat) (a b : List UInt8) : run t s (a ++ b) = run t (run t s a) b := by
  induction a generalizing s with
  | nil => rfl
  | cons c cs ih => exact ih _
theorem run_snoc (t : List Nat) (s : Nat) (a : List UInt8) (c : UInt8) : run t s (a ++ [c]) = upd t (run t s a) c.toNat := run_append t s a [c]
theorem le_cons (c : UInt8) (cs : List UInt8) : le (c :: cs) = c.toNat ^^^ 2 ^ 8 * le cs := parts 8 c.toNat (le cs) c.toNat_lt
theorem le_lt (b : List UInt8) : le b < 2 ^ (8 * b.length) := by
  induction b with
  | nil => decide
  | cons c cs ih =>
    have := c.toNat_lt
    simp only [le, List.length_cons]
    have e : 2 ^ (8 * (cs.length + 1)) = 256 * 2 ^ (8 * cs.length) := by rw [Nat.mul_add, Nat.pow_add, Nat.mul_comm]
    rw [e]; omega
/-- by the table a run is as many steps as there are bits -/
theorem run_le (s : Nat) (b : List UInt8) : run tab s b = sts (8 * b.length) (s ^^^ le b) := by
  induction b generalizing s with
  | nil => simp [run, le, sts]
  | cons c cs ih =>
    have hc := c.toNat_lt
    simp only [run, List.length_cons]
    rw [ih, upd_tab s c.toNat hc, le_cons, Nat.mul_add, Nat.add_comm (8 * cs.length), sts_add, ← Nat.xor_assoc, sts_xor 8 _ (2 ^ 8 * le cs), sts_pow]

/-- a list of numbers of 32 bits -/
def Small (t : List Nat) : Prop := ∀ x ∈ t, x < 4294967296
theorem small_getD {t : List Nat} (h : Small t) (i : Nat) : t.getD i 0 < 4294967296 := by
  rw [List.getD_eq_getElem?_getD]
  cases he : t[i]? with
  | none => simp
  | some x => exact h x (List.mem_of_getElem? he)
theorem small_tab : Small tab := by
  intro x hx
  unfold tab at hx
  obtain ⟨i, hi, rfl⟩ := List.mem_map.1 hx
  exact ent_lt (List.mem_range.1 hi)
theorem upd_lt {t : List Nat} (h : Small t) {s : Nat} (c : Nat) (hs : s < 4294967296) : upd t s c < 4294967296 :=
  Nat.xor_lt_two_pow (n := 32) (by omega) (small_getD h _)
theorem run_lt {t : List Nat} (h : Small t) {s : Nat} (b : List UInt8) (hs : s < 4294967296) : run t s b < 4294967296 := by
  induction b generalizing s with
  | nil => exact hs
  | cons c cs ih => exact ih (upd_lt h _ hs)
theorem on_lt (t : List Nat) (s : Nat) (b : List UInt8) : on t s b < 4294967296 := by unfold on; omega

/-- all bits turned -/
theorem flip (n : Nat) (h : n < 4294967296) : 4294967295 ^^^ n = 4294967295 - n := by
  apply Nat.eq_of_testBit_eq; intro i
  have e : (4294967295 : Nat) - n = 2 ^ 32 - (n + 1) := by omega
  rw [e, Nat.testBit_two_pow_sub_succ (by simpa using h), Nat.testBit_xor]
  have e2 : (4294967295 : Nat) = 2 ^ 32 - 1 := by decide
  rw [e2, Nat.testBit_two_pow_sub_one]
  by_cases hi : i < 32
  · simp [hi]
  · have : n.testBit i = false := Nat.testBit_lt_two_pow (Nat.lt_of_lt_of_le (by simpa using h) (Nat.pow_le_pow_right (n := 2) (i := 32) (by omega) (by omega)))
    simp [hi, this]
theorem flip_flip (n : Nat) (h : n < 4294967296) : 4294967295 - (4294967295 - n) = n := by omega

/-- further bytes: on from the sum of the first ones -/
theorem on_append (t : List Nat) (h : Small t) (s : Nat) (a b : List UInt8) : on t s (a ++ b) = on t (on t s a) b := by
  unfold on
  rw [run_append, flip_flip _ (run_lt h a (by omega))]
theorem on_nil (t : List Nat) (s : Nat) (hs : s < 4294967296) : on t s [] = s := by unfold on run; omega
/-- unlike starts, unlike ends -/
theorem on_inj (b : List UInt8) {s s' : Nat} (hs : s < 4294967296) (hs' : s' < 4294967296) (h : on tab s b = on tab s' b) : s = s' := by
  have l1 := run_lt small_tab b (s := 4294967295 - s) (by omega)
  have l2 := run_lt small_tab b (s := 4294967295 - s') (by omega)
  unfold on at h
  have h1 : run tab (4294967295 - s) b = run tab (4294967295 - s') b := by omega
  rw [run_le, run_le, sts_xor, sts_xor] at h1
  have h2 : sts (8 * b.length) (4294967295 - s) = sts (8 * b.length) (4294967295 - s') := by
    have := congrArg (· ^^^ sts (8 * b.length) (le b)) h1
    simpa [Nat.xor_assoc] using this
  have := sts_inj _ (by omega) (by omega) h2
  omega
theorem run_ne (s : Nat) (a b : List UInt8) (hl : a.length = b.length) (h : run tab s a = run tab s b) : sts (8 * b.length) (le a ^^^ le b) = 0 := by
  rw [run_le, run_le, hl, sts_xor, sts_xor _ s] at h
  rw [sts_xor]
  have := congrArg (sts (8 * b.length) s ^^^ ·) h
  simp only [xor_cancel] at this
  rw [this, Nat.xor_self]
theorem le_inj {a b : List UInt8} (hl : a.length = b.length) (h : le a = le b) : a = b := by
  induction a generalizing b with
  | nil => cases b with
    | nil => rfl
    | cons _ _ => simp at hl
  | cons c cs ih => cases b with
    | nil => simp at hl
    | cons d ds =>
      have h1 := c.toNat_lt
      have h2 := d.toNat_lt
      simp only [le] at h
      have hcd : c.toNat = d.toNat := by omega
      have hr : le cs = le ds := by omega
      rw [UInt8.toNat_inj.1 hcd, ih (by simpa using hl) hr]
/-- at most four bytes: unlike ones have unlike sums -/
theorem on_four (s : Nat) {a b : List UInt8} (hl : a.length = b.length) (h4 : b.length ≤ 4) (h : on tab s a = on tab s b) : a = b := by
  have l1 := run_lt small_tab a (s := 4294967295 - s) (by omega)
  have l2 := run_lt small_tab b (s := 4294967295 - s) (by omega)
  unfold on at h
  have h1 := run_ne (4294967295 - s) a b hl (by omega)
  have hp : 2 ^ (8 * b.length) ≤ 2 ^ 32 := Nat.pow_le_pow_right (by omega) (by omega)
  have b1 : le a < 2 ^ 32 := by have := le_lt a; rw [hl] at this; omega
  have b2 : le b < 2 ^ 32 := by have := le_lt b; omega
  by_cases h3 : le a ^^^ le b = 0
  · exact le_inj hl (eq_of_xor h3)
  · exact absurd h1 (sts_ne _ (Nat.xor_lt_two_pow (n := 32) b1 b2) h3)
/-- bits in a row that are turned: another sum -/
theorem on_turned (s : Nat) {a b : List UInt8} (hl : a.length = b.length) (x f : Nat) (hx : x < 4294967296) (hx0 : x ≠ 0) (hf : f ≤ 8 * b.length) (h : le a = le b ^^^ 2 ^ f * x) : on tab s a ≠ on tab s b := by
  intro he
  have l1 := run_lt small_tab a (s := 4294967295 - s) (by omega)
  have l2 := run_lt small_tab b (s := 4294967295 - s) (by omega)
  unfold on at he
  have h1 := run_ne (4294967295 - s) a b hl (by omega)
  rw [h, Nat.xor_comm, xor_cancel, show 8 * b.length = f + (8 * b.length - f) by omega, sts_add, sts_pow] at h1
  exact sts_ne _ hx hx0 h1
/-- one bit of one byte that is turned -/
theorem le_set (b : List UInt8) (i j : Nat) (c : UInt8) (hc : b[i]? = some c) (d : UInt8) (hd : d.toNat = c.toNat ^^^ 2 ^ j) (hj : j < 8) : le (b.set i d) = le b ^^^ 2 ^ (8 * i + j) := by
  induction b generalizing i with
  | nil => simp at hc
  | cons x xs ih =>
    cases i with
    | zero =>
      simp at hc; subst hc
      simp only [List.set_cons_zero]
      rw [le_cons, le_cons, hd, Nat.xor_assoc, Nat.xor_comm (2 ^ j), ← Nat.xor_assoc]
      simp
    | succ i =>
      simp at hc
      simp only [List.set_cons_succ]
      rw [le_cons, le_cons, ih i hc, Nat.xor_assoc]
      congr 1
      apply Nat.eq_of_testBit_eq; intro m
      rw [Nat.testBit_xor, Nat.testBit_two_pow_mul, Nat.testBit_two_pow_mul, Nat.testBit_xor, Nat.testBit_two_pow, Nat.testBit_two_pow]
      by_cases hm : 8 ≤ m
      · simp [hm]
        omega
      · have : decide (8 * (i + 1) + j = m) = false := by simp; omega
        simp [hm, this]
theorem mul_xor (k x y : Nat) : 2 ^ k * (x ^^^ y) = 2 ^ k * x ^^^ 2 ^ k * y := by
  apply Nat.eq_of_testBit_eq; intro i
  simp only [Nat.testBit_xor, Nat.testBit_two_pow_mul]
  by_cases h : k ≤ i <;> simp [h]
theorem turn_odd (t f k : Nat) (h : t / 2 ^ k % 2 = 1) : 2 ^ f * (t % 2 ^ (k + 1)) = 2 ^ f * (t % 2 ^ k) ^^^ 2 ^ (f + k) := by
  rw [Nat.mod_pow_succ, h, parts k _ _ (Nat.mod_lt _ (Nat.two_pow_pos k)), mul_xor, Nat.mul_one, Nat.pow_add]
theorem turn_even (t k : Nat) (h : t / 2 ^ k % 2 = 0) : t % 2 ^ (k + 1) = t % 2 ^ k := by
  rw [Nat.mod_pow_succ, h]; simp
/-- the bytes of a number of 32 bits, the lowest first -/
def fourLow (n : Nat) : List UInt8 := [UInt8.ofNat (n % 256), UInt8.ofNat (n / 256 % 256), UInt8.ofNat (n / 65536 % 256), UInt8.ofNat (n / 16777216 % 256)]
theorem le_four (n : Nat) (h : n < 4294967296) : le (fourLow n) = n := by
  unfold fourLow le le le le le
  rw [UInt8.toNat_ofNat', UInt8.toNat_ofNat', UInt8.toNat_ofNat', UInt8.toNat_ofNat']
  omega
/-- bytes with their sum behind them -/
theorem on_sealed (a : List UInt8) : on tab 0 (a ++ fourLow (on tab 0 a)) = 4294967295 - sts 32 4294967295 := by
  have hl := run_lt small_tab a (s := 4294967295) (by omega)
  unfold on
  rw [run_append, Nat.sub_zero]
  have e : run tab (run tab 4294967295 a) (fourLow (4294967295 - run tab 4294967295 a)) = sts 32 4294967295 := by
    rw [run_le, le_four _ (by omega), ← flip _ hl, Nat.xor_comm 4294967295, xor_cancel]
    rfl
  rw [e]

/-- bytes of one length, by exclusive or -/
def three (l : List (UInt8 × UInt8 × UInt8)) : List UInt8 := l.map fun p => p.1 ^^^ p.2.1 ^^^ p.2.2
theorem xor3 (p q r x y z : Nat) : (p ^^^ x) ^^^ (q ^^^ y) ^^^ (r ^^^ z) = (p ^^^ q ^^^ r) ^^^ (x ^^^ y ^^^ z) := by
  apply Nat.eq_of_testBit_eq; intro i
  simp only [Nat.testBit_xor]
  cases p.testBit i <;> cases q.testBit i <;> cases r.testBit i <;> cases x.testBit i <;> cases y.testBit i <;> cases z.testBit i <;> rfl
theorem mul_xor3 (k x y z : Nat) : 2 ^ k * x ^^^ 2 ^ k * y ^^^ 2 ^ k * z = 2 ^ k * (x ^^^ y ^^^ z) := by
  apply Nat.eq_of_testBit_eq; intro i
  simp only [Nat.testBit_xor, Nat.testBit_two_pow_mul]
  by_cases h : k ≤ i <;> simp [h]
theorem le_three (l : List (UInt8 × UInt8 × UInt8)) : le (l.map (·.1)) ^^^ le (l.map (·.2.1)) ^^^ le (l.map (·.2.2)) = le (three l) := by
  induction l with
  | nil => rfl
  | cons p l ih =>
    have e : three (p :: l) = (p.1 ^^^ p.2.1 ^^^ p.2.2) :: three l := rfl
    rw [e, List.map_cons, List.map_cons, List.map_cons, le_cons, le_cons, le_cons, le_cons, xor3, mul_xor3, ih, UInt8.toNat_xor, UInt8.toNat_xor]
theorem run_three (s : Nat) (l : List (UInt8 × UInt8 × UInt8)) : run tab s (l.map (·.1)) ^^^ run tab s (l.map (·.2.1)) ^^^ run tab s (l.map (·.2.2)) = run tab s (three l) := by
  have e : (three l).length = l.length := by simp [three]
  rw [run_le, run_le, run_le, run_le, List.length_map, List.length_map, List.length_map, e, ← sts_xor, ← sts_xor, xor3, le_three, Nat.xor_self, Nat.zero_xor]
theorem on_three (s : Nat) (hs : s < 4294967296) (l : List (UInt8 × UInt8 × UInt8)) : on tab s (l.map (·.1)) ^^^ on tab s (l.map (·.2.1)) ^^^ on tab s (l.map (·.2.2)) = on tab s (three l) := by
  have h := run_three (4294967295 - s) l
  unfold on
  rw [← flip _ (run_lt small_tab _ (by omega)), ← flip _ (run_lt small_tab _ (by omega)), ← flip _ (run_lt small_tab _ (by omega)), ← flip _ (run_lt small_tab _ (by omega)), xor3, h]
  rfl
theorem tab_xor {x y : Nat} (hx : x < 256) (hy : y < 256) : tab.getD x 0 ^^^ tab.getD y 0 = tab.getD (x ^^^ y) 0 := by
  rw [tab_at hx, tab_at hy, tab_at (Nat.xor_lt_two_pow (n := 8) hx hy)]
  exact (sts_xor 8 x y).symm

/-- by a table of noughts -/
theorem run_none (s : Nat) (b : List UInt8) : run (List.replicate 256 0) s b = s / 256 ^ b.length := by
  induction b generalizing s with
  | nil => simp [run]
  | cons c cs ih =>
    have e : upd (List.replicate 256 0) s c.toNat = s / 256 := by
      unfold upd
      rw [List.getD_eq_getElem?_getD, List.getElem?_replicate]
      split <;> simp
    simp only [run, List.length_cons]
    rw [ih, e, Nat.div_div_eq_div_mul, Nat.pow_succ, Nat.mul_comm]
end Go.Proofs.YtjnmckchicmmgaaGreatDoor.Crc
