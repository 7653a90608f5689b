/-
  Plain facts about varints, over lists of bytes and natural numbers: what Put writes ('enc') and what Get answers ('getGo'), without any program.
  Contracts of package ints: the writer of varints.
  Contracts of package ints: collect.
  Contracts of package ints: Put, PutText.
  A string that is made of bytes that lie in memory.
-/
import Derived.Test.YtoljldokehfokaaMem
import Derived.Lib.AppendStr
import Derived.Test.YtoljldokehfokaaBase
namespace Go.Proofs.Ytoljldokehfokaa.Vi
set_option linter.unusedVariables false

/-- the bytes of a number, seven bits each, the lowest first -/
def encF : Nat → Nat → List UInt8
  | 0, _ => []
  | f + 1, n => if n < 128 then [UInt8.ofNat n] else UInt8.ofNat (n % 128 + 128) :: encF f (n / 128)
def enc (n : Nat) : List UInt8 := encF 10 n

/-- what Get answers: the number, how many bytes it took, the error (0, 4: form, 5: short); i bytes were read, s is the sum so far -/
def getGo : Nat → Nat → List UInt8 → Nat × Nat × Nat
  | i, _, [] => (0, 0, if i < 10 then 5 else 4)
  | i, s, c :: cs =>
    if 10 ≤ i then (0, 0, 4)
    else if 2 ^ 64 ≤ c.toNat % 128 * 2 ^ (7 * i) ∨ c.toNat = 0 ∧ 0 < i then (0, 0, 4)
    else if c.toNat < 128 then (s + c.toNat % 128 * 2 ^ (7 * i), i + 1, 0)
    else getGo (i + 1) (s + c.toNat % 128 * 2 ^ (7 * i)) cs
def get (l : List UInt8) : Nat × Nat × Nat := getGo 0 0 l

theorem toNat_ofNat (n : Nat) (h : n < 256) : (UInt8.ofNat n).toNat = n := by
  rw [UInt8.toNat_ofNat']; omega

theorem encF_len (f n : Nat) : (encF f n).length ≤ f := by
  induction f generalizing n with
  | zero => simp [encF]
  | succ f ih =>
    unfold encF
    split
    · simp
    · have := ih (n / 128); simp; omega
theorem enc_len (n : Nat) : (enc n).length ≤ 10 := encF_len 10 n
theorem encF_pos (f n : Nat) : 1 ≤ (encF (f + 1) n).length := by unfold encF; split <;> simp
theorem enc_pos (n : Nat) : 1 ≤ (enc n).length := encF_pos 9 n

/-- the length is told by powers -/
theorem encF_le (f n k : Nat) (hk : 1 ≤ k) (h : n < 2 ^ (7 * k)) : (encF f n).length ≤ k := by
  induction f generalizing n k with
  | zero => simp [encF]
  | succ f ih =>
    unfold encF
    split
    · simpa using hk
    · rename_i hge
      have h2 : 2 ≤ k := by
        rcases Nat.lt_or_ge k 2 with hk2 | hk2
        · have : k = 1 := by omega
          subst this; simp at h; omega
        · exact hk2
      have h3 : n / 128 < 2 ^ (7 * (k - 1)) := by
        have e : 2 ^ (7 * k) = 2 ^ (7 * (k - 1)) * 128 := by
          have : 7 * k = 7 * (k - 1) + 7 := by omega
          rw [this, Nat.pow_add]
        rw [Nat.div_lt_iff_lt_mul (by omega), ← e]; exact h
      have := ih (n / 128) (k - 1) (by omega) h3
      simp; omega
theorem encF_ge (f n k : Nat) (h : 2 ^ (7 * k) ≤ n) (hf : k < f) : k + 1 ≤ (encF f n).length := by
  induction f generalizing n k with
  | zero => omega
  | succ f ih =>
    rcases Nat.eq_zero_or_pos k with h0 | h0
    · subst h0; exact encF_pos f n
    · unfold encF
      have h128 : ¬ n < 128 := by
        have : 2 ^ 7 ≤ 2 ^ (7 * k) := Nat.pow_le_pow_right (by omega) (by omega)
        omega
      rw [if_neg h128]
      have e : 2 ^ (7 * k) = 2 ^ (7 * (k - 1)) * 128 := by
        have : 7 * k = 7 * (k - 1) + 7 := by omega
        rw [this, Nat.pow_add]
      have h3 : 2 ^ (7 * (k - 1)) ≤ n / 128 := by
        rw [Nat.le_div_iff_mul_le (by omega), ← e]; exact h
      have := ih (n / 128) (k - 1) h3 (by omega)
      simp; omega

theorem pow7 (i : Nat) : 2 ^ (7 * (i + 1)) = 2 ^ (7 * i) * 128 := by
  have : 7 * (i + 1) = 7 * i + 7 := by omega
  rw [this, Nat.pow_add]

/-- a number that is put is got, whatever stands behind -/
theorem getGo_encF (f n i s : Nat) (rest : List UInt8) (hf : i + f = 10) (hn : n * 2 ^ (7 * i) < 2 ^ 64) (hi : 0 < i → 0 < n) (hl : n < 2 ^ (7 * f)) (hf0 : 0 < f) :
    getGo i s (encF f n ++ rest) = (s + n * 2 ^ (7 * i), i + (encF f n).length, 0) := by
  induction f generalizing n i s with
  | zero => omega
  | succ f ih =>
    unfold encF
    split
    · rename_i hlt
      simp only [List.singleton_append, getGo]
      rw [toNat_ofNat n (by omega), Nat.mod_eq_of_lt hlt]
      have hc : ¬ (10 ≤ i) := by omega
      have hc2 : ¬ (2 ^ 64 ≤ n * 2 ^ (7 * i) ∨ n = 0 ∧ 0 < i) := by
        rintro (h | ⟨h1, h2⟩)
        · omega
        · have := hi h2; omega
      rw [if_neg hc, if_neg hc2, if_pos hlt]
      simp
    · rename_i hge
      have hm : n % 128 < 128 := Nat.mod_lt _ (by omega)
      have hdiv : n % 128 + 128 * (n / 128) = n := Nat.mod_add_div n 128
      simp only [List.cons_append, getGo]
      rw [toNat_ofNat (n % 128 + 128) (by omega)]
      have e1 : (n % 128 + 128) % 128 = n % 128 := by omega
      rw [e1]
      have hc : ¬ (10 ≤ i) := by omega
      have hle : n % 128 * 2 ^ (7 * i) ≤ n * 2 ^ (7 * i) := Nat.mul_le_mul_right _ (by omega)
      have hc2 : ¬ (2 ^ 64 ≤ n % 128 * 2 ^ (7 * i) ∨ n % 128 + 128 = 0 ∧ 0 < i) := by
        rintro (h | ⟨h1, h2⟩) <;> omega
      rw [if_neg hc, if_neg hc2, if_neg (by omega)]
      have hmul : n * 2 ^ (7 * i) = n % 128 * 2 ^ (7 * i) + n / 128 * 2 ^ (7 * (i + 1)) := by
        rw [pow7, ← Nat.mul_assoc, Nat.mul_right_comm (n / 128), ← Nat.add_mul]
        congr 1
        omega
      have hf1 : 0 < f := by
        rcases Nat.eq_zero_or_pos f with h0 | h0
        · subst h0; simp at hl; omega
        · exact h0
      rw [ih (n / 128) (i + 1) _ (by omega) (by omega) (fun _ => by omega) (by rw [Nat.div_lt_iff_lt_mul (by omega), ← pow7]; exact hl) hf1]
      simp only [List.length_cons, Prod.mk.injEq, and_true]
      exact ⟨by rw [hmul]; omega, by omega⟩
theorem get_enc (n : Nat) (rest : List UInt8) (hn : n < 2 ^ 64) : get (enc n ++ rest) = (n, (enc n).length, 0) := by
  have h := getGo_encF 10 n 0 0 rest rfl (by simpa using hn) (fun h => by omega) (Nat.lt_trans hn (by decide)) (by decide)
  simpa [get, enc] using h

/-- the first bytes of a number, not all, are short -/
theorem getGo_cut (f n i s k : Nat) (hf : i + f = 10) (hk : k < (encF f n).length) (hn : n * 2 ^ (7 * i) < 2 ^ 64) :
    getGo i s ((encF f n).take k) = (0, 0, 5) := by
  induction f generalizing n i s k with
  | zero => simp [encF] at hk
  | succ f ih =>
    rcases Nat.eq_zero_or_pos k with h0 | h0
    · subst h0; simp only [List.take_zero, getGo]; rw [if_pos (by omega)]
    · obtain ⟨k, rfl⟩ : ∃ j, k = j + 1 := ⟨k - 1, by omega⟩
      unfold encF at hk ⊢
      split at hk
      · simp at hk
      · rename_i hge
        rw [if_neg hge]
        simp only [List.length_cons] at hk
        have hm : n % 128 < 128 := Nat.mod_lt _ (by omega)
        simp only [List.take_succ_cons, getGo]
        rw [toNat_ofNat (n % 128 + 128) (by omega)]
        have e1 : (n % 128 + 128) % 128 = n % 128 := by omega
        rw [e1]
        have hle : n % 128 * 2 ^ (7 * i) ≤ n * 2 ^ (7 * i) := Nat.mul_le_mul_right _ (by omega)
        have hc2 : ¬ (2 ^ 64 ≤ n % 128 * 2 ^ (7 * i) ∨ n % 128 + 128 = 0 ∧ 0 < i) := by
          rintro (h | ⟨h1, h2⟩) <;> omega
        have hmul : n * 2 ^ (7 * i) = n % 128 * 2 ^ (7 * i) + n / 128 * 2 ^ (7 * (i + 1)) := by
          rw [pow7, ← Nat.mul_assoc, Nat.mul_right_comm (n / 128), ← Nat.add_mul]
          congr 1
          omega
        rw [if_neg (by omega), if_neg hc2, if_neg (by omega)]
        exact ih (n / 128) (i + 1) _ k (by omega) (by omega) (by omega)
theorem get_cut (n k : Nat) (hn : n < 2 ^ 64) (hk : k < (enc n).length) : get ((enc n).take k) = (0, 0, 5) :=
  getGo_cut 10 n 0 0 k rfl hk (by simpa using hn)

/-- one byte of a number read: the sum stays below 64 bits -/
theorem sum_lt (i s c : Nat) (hi : i < 10) (hs : s < 2 ^ (7 * i)) (hc : c * 2 ^ (7 * i) < 2 ^ 64) : s + c * 2 ^ (7 * i) < 2 ^ 64 := by
  have hd : 2 ^ (7 * i) ∣ 2 ^ 64 := Nat.pow_dvd_pow 2 (by omega)
  obtain ⟨q, hq⟩ := hd
  rw [hq, Nat.mul_comm] at hc
  have h1 : c < q := Nat.lt_of_mul_lt_mul_left hc
  have h2 : 2 ^ (7 * i) * (c + 1) ≤ 2 ^ (7 * i) * q := Nat.mul_le_mul_left _ h1
  rw [hq]
  rw [Nat.mul_add, Nat.mul_one, Nat.mul_comm (2 ^ (7 * i)) c] at h2
  omega

/-- what is got is what was put -/
theorem getGo_back (l : List UInt8) (i s n t : Nat) (hs : s < 2 ^ (7 * i)) (h : getGo i s l = (n, t, 0)) :
    ∃ m, n = s + m * 2 ^ (7 * i) ∧ n < 2 ^ 64 ∧ (0 < i → 0 < m) ∧ i < t ∧ t ≤ 10 ∧ t - i ≤ l.length ∧ l.take (t - i) = encF (10 - i) m := by
  induction l generalizing i s with
  | nil => simp only [getGo, Prod.mk.injEq] at h; obtain ⟨_, _, h⟩ := h; split at h <;> omega
  | cons c cs ih =>
    unfold getGo at h
    by_cases h1 : 10 ≤ i
    · rw [if_pos h1] at h; simp at h
    rw [if_neg h1] at h
    by_cases h2 : 2 ^ 64 ≤ c.toNat % 128 * 2 ^ (7 * i) ∨ c.toNat = 0 ∧ 0 < i
    · rw [if_pos h2] at h; simp at h
    rw [if_neg h2] at h
    have hf : 10 - i = (9 - i) + 1 := by omega
    have hb : c.toNat < 256 := c.toNat_lt
    by_cases h3 : c.toNat < 128
    · rw [if_pos h3] at h
      simp only [Prod.mk.injEq, and_true] at h
      obtain ⟨rfl, rfl⟩ := h
      have e : c.toNat % 128 = c.toNat := Nat.mod_eq_of_lt h3
      refine ⟨c.toNat, by rw [e], ?_, ?_, by omega, by omega, by simp, ?_⟩
      · rw [e] at h2 ⊢; exact sum_lt i s _ (by omega) hs (by omega)
      · intro h0; rcases Nat.eq_zero_or_pos c.toNat with h4 | h4
        · exact absurd (Or.inr ⟨h4, h0⟩) h2
        · exact h4
      · have e2 : i + 1 - i = 1 := by omega
        rw [e2, hf]
        unfold encF
        rw [if_pos h3]
        simp
    · rw [if_neg h3] at h
      have hs2 : s + c.toNat % 128 * 2 ^ (7 * i) < 2 ^ (7 * (i + 1)) := by
        rw [pow7]
        have h4 : c.toNat % 128 * 2 ^ (7 * i) ≤ 127 * 2 ^ (7 * i) := Nat.mul_le_mul_right _ (by omega)
        omega
      obtain ⟨m, hn, hlt, hm, ht1, ht2, ht3, htake⟩ := ih (i + 1) _ hs2 h
      have hm0 := hm (by omega)
      have hdiv : (c.toNat % 128 + 128 * m) % 128 = c.toNat % 128 := by omega
      have hdiv2 : (c.toNat % 128 + 128 * m) / 128 = m := by omega
      refine ⟨c.toNat % 128 + 128 * m, ?_, hlt, fun _ => by omega, by omega, ht2, by simp; omega, ?_⟩
      · rw [hn, pow7, Nat.add_mul, ← Nat.mul_assoc, Nat.mul_right_comm m, Nat.mul_comm m 128]; omega
      · have e3 : t - i = (t - (i + 1)) + 1 := by omega
        rw [e3, List.take_succ_cons, htake, hf]
        conv => rhs; unfold encF
        rw [if_neg (by omega), hdiv, hdiv2]
        have e4 : 10 - (i + 1) = 9 - i := by omega
        rw [e4]
        congr 1
        have e5 : c.toNat % 128 + 128 = c.toNat := by omega
        rw [e5]
        simp
theorem get_back (l : List UInt8) (n t : Nat) (h : get l = (n, t, 0)) : n < 2 ^ 64 ∧ 1 ≤ t ∧ t ≤ 10 ∧ t ≤ l.length ∧ l.take t = enc n := by
  obtain ⟨m, hn, hlt, _, h1, h2, h3, h4⟩ := getGo_back l 0 0 n t (by simp) h
  have : n = m := by rw [hn]; simp
  subst this
  exact ⟨hlt, by omega, h2, by simpa using h3, by simpa [enc] using h4⟩

/-- what is refused -/
theorem getGo_bad (l : List UInt8) (i s n t e : Nat) (h : getGo i s l = (n, t, e)) (he : e ≠ 0) :
    n = 0 ∧ t = 0 ∧ (e = 5 ∧ i + l.length < 10 ∨ e = 4 ∧ (1 < i + l.length)) := by
  induction l generalizing i s with
  | nil =>
    simp only [getGo, Prod.mk.injEq] at h
    obtain ⟨rfl, rfl, rfl⟩ := h
    refine ⟨rfl, rfl, ?_⟩
    by_cases hi : i < 10
    · left; simp [hi]
    · right; simp [hi]; omega
  | cons c cs ih =>
    unfold getGo at h
    have hb : c.toNat < 256 := c.toNat_lt
    by_cases h1 : 10 ≤ i
    · rw [if_pos h1] at h; simp only [Prod.mk.injEq] at h; obtain ⟨rfl, rfl, rfl⟩ := h
      exact ⟨rfl, rfl, .inr ⟨rfl, by simp; omega⟩⟩
    rw [if_neg h1] at h
    by_cases h2 : 2 ^ 64 ≤ c.toNat % 128 * 2 ^ (7 * i) ∨ c.toNat = 0 ∧ 0 < i
    · rw [if_pos h2] at h; simp only [Prod.mk.injEq] at h; obtain ⟨rfl, rfl, rfl⟩ := h
      refine ⟨rfl, rfl, .inr ⟨rfl, ?_⟩⟩
      rcases h2 with h2 | ⟨_, h2⟩
      · rcases Nat.eq_zero_or_pos i with h0 | h0
        · subst h0; simp at h2; omega
        · simp; omega
      · simp; omega
    rw [if_neg h2] at h
    by_cases h3 : c.toNat < 128
    · rw [if_pos h3] at h; simp only [Prod.mk.injEq] at h; omega
    · rw [if_neg h3] at h
      have := ih (i + 1) _ h
      simp only [List.length_cons]
      omega
theorem get_bad (l : List UInt8) (n t e : Nat) (h : get l = (n, t, e)) (he : e ≠ 0) : n = 0 ∧ t = 0 ∧ (e = 5 ∧ l.length < 10 ∨ e = 4 ∧ 1 < l.length) := by
  simpa using getGo_bad l 0 0 n t e h he
theorem getGo_lt (l : List UInt8) (i s n t e : Nat) (hs : s < 2 ^ (7 * i)) (h : getGo i s l = (n, t, e)) : n < 2 ^ 64 ∧ t ≤ 10 ∧ e ≤ 5 := by
  by_cases he : e = 0
  · subst he
    obtain ⟨m, _, h1, _, _, h2, _, _⟩ := getGo_back l i s n t hs h
    exact ⟨h1, h2, by omega⟩
  · obtain ⟨h1, h2, h3⟩ := getGo_bad l i s n t e h he
    subst h1 h2
    exact ⟨by decide, by omega, by omega⟩
theorem get_lt (l : List UInt8) : (get l).1 < 2 ^ 64 ∧ (get l).2.1 ≤ 10 ∧ (get l).2.2 ≤ 5 := getGo_lt l 0 0 _ _ _ (by simp) rfl
/-- Get does not look behind the tenth byte -/
theorem getGo_take (l : List UInt8) (i s : Nat) (hi : i ≤ 10) (hl : 10 ≤ i + l.length) : getGo i s (l.take (10 - i)) = getGo i s l := by
  induction l generalizing i s with
  | nil => simp
  | cons c cs ih =>
    by_cases h : i = 10
    · subst h; simp [getGo]
    · have e : 10 - i = (10 - (i + 1)) + 1 := by omega
      rw [e, List.take_succ_cons]
      simp only [getGo]
      rw [ih (i + 1) _ (by omega) (by simp at hl; omega)]

/-- bytes that all go on, then one that is refused -/
theorem getGo_on (l r : List UInt8) (i s : Nat) (hl : ∀ c ∈ l, 128 ≤ c.toNat) (hi : i + l.length ≤ 9) :
    ∃ s', getGo i s (l ++ r) = getGo (i + l.length) s' r ∧ s ≤ s' := by
  induction l generalizing i s with
  | nil => exact ⟨s, by simp, Nat.le_refl _⟩
  | cons c cs ih =>
    have hc := hl c (by simp)
    have hb : c.toNat < 256 := c.toNat_lt
    have hi2 : i + cs.length + 1 ≤ 9 := by simpa [Nat.add_assoc] using hi
    have hp : c.toNat % 128 * 2 ^ (7 * i) < 2 ^ 64 := by
      have h1 : c.toNat % 128 * 2 ^ (7 * i) ≤ 127 * 2 ^ (7 * i) := Nat.mul_le_mul_right _ (by omega)
      have h2 : 2 ^ (7 * i) ≤ 2 ^ 56 := Nat.pow_le_pow_right (by omega) (by omega)
      omega
    obtain ⟨s', h1, h2⟩ := ih (i + 1) (s + c.toNat % 128 * 2 ^ (7 * i)) (fun x hx => hl x (by simp [hx])) (by omega)
    refine ⟨s', ?_, by omega⟩
    simp only [List.cons_append, getGo]
    rw [if_neg (by omega), if_neg (by omega), if_neg (by omega), h1]
    simp only [List.length_cons]
    congr 1
    omega
theorem get_needless (l : List UInt8) (hl : ∀ c ∈ l, 128 ≤ c.toNat) (h0 : 0 < l.length) (r : List UInt8) : (get (l ++ 0 :: r)).2.2 = 4 := by
  by_cases h9 : l.length ≤ 9
  · obtain ⟨s', h1, _⟩ := getGo_on l (0 :: r) 0 0 hl (by omega)
    unfold get
    rw [h1]
    simp only [getGo]
    rw [if_neg (by omega), if_pos (.inr ⟨rfl, by omega⟩)]
  · have hsplit : l = l.take 9 ++ l.drop 9 := (List.take_append_drop 9 l).symm
    obtain ⟨s', h1, _⟩ := getGo_on (l.take 9) (l.drop 9 ++ 0 :: r) 0 0 (fun c hc => hl c (List.mem_of_mem_take hc)) (by simp; omega)
    unfold get
    rw [hsplit, List.append_assoc, h1]
    have e : 0 + (l.take 9).length = 9 := by simp; omega
    rw [e]
    match hd : l.drop 9 with
    | [] => have := congrArg List.length hd; simp at this; omega
    | c :: cs =>
      have hc : 128 ≤ c.toNat := hl c (List.mem_of_mem_drop (i := 9) (by rw [hd]; simp))
      simp only [List.cons_append, getGo]
      rw [if_neg (by omega)]
      by_cases h : 2 ^ 64 ≤ c.toNat % 128 * 2 ^ (7 * 9) ∨ c.toNat = 0 ∧ 0 < 9
      · rw [if_pos h]
      · rw [if_neg h, if_neg (by omega)]
        match cs with
        | [] => simp [getGo]
        | x :: xs => simp [getGo]
theorem get_endless (l : List UInt8) (hl : ∀ c ∈ l, 128 ≤ c.toNat) (h0 : l.length = 10) : (get l).2.2 = 4 := by
  obtain ⟨s', h1, _⟩ := getGo_on (l.take 9) (l.drop 9) 0 0 (fun c hc => hl c (List.mem_of_mem_take hc)) (by simp; omega)
  unfold get
  rw [← List.take_append_drop 9 l, h1]
  have e : 0 + (l.take 9).length = 9 := by simp; omega
  rw [e]
  match hd : l.drop 9 with
  | [] => have := congrArg List.length hd; simp at this; omega
  | c :: cs =>
    have hc : 128 ≤ c.toNat := hl c (List.mem_of_mem_drop (i := 9) (by rw [hd]; simp))
    have hcs : cs = [] := by have := congrArg List.length hd; simp at this; exact List.eq_nil_of_length_eq_zero (by omega)
    subst hcs
    simp only [getGo]
    rw [if_neg (by omega)]
    by_cases h : 2 ^ 64 ≤ c.toNat % 128 * 2 ^ (7 * 9) ∨ c.toNat = 0 ∧ 0 < 9
    · rw [if_pos h]
    · rw [if_neg h, if_neg (by omega)]; simp
theorem get_ten_two (l : List UInt8) (hl : ∀ c ∈ l, 128 ≤ c.toNat) (h0 : l.length = 9) : (get (l ++ [2])).2.2 = 4 := by
  obtain ⟨s', h1, _⟩ := getGo_on l [2] 0 0 hl (by omega)
  unfold get
  rw [h1]
  simp only [getGo, h0]
  rw [if_neg (by omega), if_pos (.inl (by decide))]
theorem get_ten_one (l : List UInt8) (hl : ∀ c ∈ l, 128 ≤ c.toNat) (h0 : l.length = 9) : (get (l ++ [1])).2 = (10, 0) ∧ 2 ^ 63 ≤ (get (l ++ [1])).1 := by
  obtain ⟨s', h1, _⟩ := getGo_on l [1] 0 0 hl (by omega)
  unfold get
  rw [h1]
  simp only [getGo, h0]
  rw [if_neg (by omega), if_neg (by decide), if_pos (by decide)]
  refine ⟨rfl, ?_⟩
  have : (1 : UInt8).toNat % 128 * 2 ^ (7 * (0 + 9)) = 2 ^ 63 := by decide
  show 2 ^ 63 ≤ s' + (1 : UInt8).toNat % 128 * 2 ^ (7 * (0 + 9))
  rw [this]; omega

end Go.Proofs.Ytoljldokehfokaa.Vi

namespace Go.Proofs.Ytoljldokehfokaa
open Go.RowKit
set_option linter.unusedVariables false

theorem and127 (n : Nat) (hn : n < 18446744073709551616) : bits .and .u64 (n : Int) 127 = ((n % 128 : Nat) : Int) := by
  have h := u64_and_nat n 127 hn (by omega)
  have e : n &&& 127 = n % 128 := Nat.and_two_pow_sub_one_eq_mod n 7
  rw [e] at h
  exact h
theorem or128 (a : Nat) (ha : a < 128) : bits .or .u8 (a : Int) 128 = ((a + 128 : Nat) : Int) := by
  have h := u8_or_nat a 128 (by omega) (by omega)
  have e : a ||| 128 = a + 128 := by
    have := Nat.two_pow_add_eq_or_of_lt (i := 7) (b := a) (by simpa using ha) 1
    simp at this
    rw [Nat.or_comm, ← this]; omega
  rw [e] at h
  exact h

/-- what the loop of varint keeps -/
def VRel (w : World) (n : Nat) (v : Value) (wr : World) : Prop :=
  ∃ (m : Nat) (pre : List UInt8), wr.ownsRow w.heap.size 5 1 v pre.length (pre.map bv) ∧ Box wr w.heap.size 27 (.int .u64 (m : Int)) ∧ m < 18446744073709551616 ∧ pre.length < 10 ∧
    m < 2 ^ (7 * (10 - pre.length)) ∧ pre ++ Vi.encF (10 - pre.length) m = Vi.enc n ∧ Below w.heap.size w wr

/-- the round of varint: the last byte -/
theorem VRel.last {w wr w1 : World} {n m : Nat} {pre : List UInt8} {v v1 : Value} (hm : m < 128) (hlen : pre.length < 10) (henc : pre ++ Vi.encF (10 - pre.length) m = Vi.enc n)
    (hb : Below w.heap.size w wr) (hown : wr.ownsRow w.heap.size 5 1 v pre.length (pre.map bv)) (hbox : Box wr w.heap.size 27 (.int .u64 (m : Int)))
    {o : Obj} (hown1 : w1.ownsRow w.heap.size 5 1 v1 (pre.length + 1) (pre.map bv ++ [.int .u8 (m : Int)]))
    (hg : ((wr.setCell ⟨w.heap.size, 0, none⟩ (.int .u64 0)).alloc o).grownBy w1 v.ownBlock) :
    w1.ownsRow w.heap.size 5 1 v1 (Vi.enc n).length ((Vi.enc n).map bv) ∧ Below w.heap.size w w1 := by
  have he : Vi.encF (10 - pre.length) m = [UInt8.ofNat m] := by
    obtain ⟨f, hf⟩ : ∃ f, 10 - pre.length = f + 1 := ⟨9 - pre.length, by omega⟩
    rw [hf]; unfold Vi.encF; rw [if_pos hm]
  rw [he] at henc
  rw [← henc]
  refine ⟨by simpa [bv, Vi.toNat_ofNat m (by omega)] using hown1, ?_⟩
  have h1 : Below w.heap.size w ((wr.setCell ⟨w.heap.size, 0, none⟩ (.int .u64 0)).alloc o) := (hb.setCell (p := ⟨w.heap.size, 0, none⟩) (Nat.le_refl _) _).alloc (by simpa [World.setCell] using hb.size) o
  exact h1.grown hg (by simpa [World.setCell] using Nat.le_succ_of_le hb.size) (fun k hk => (hown.lt k hk).1)
/-- the round of varint: another byte -/
theorem VRel.more {w wr w1 : World} {n m : Nat} {pre : List UInt8} {v v1 : Value} (hm : 128 ≤ m) (hm2 : m < 18446744073709551616) (hlen : pre.length < 10) (henc : pre ++ Vi.encF (10 - pre.length) m = Vi.enc n)
    (hpow : m < 2 ^ (7 * (10 - pre.length)))
    (hb : Below w.heap.size w wr) (hown : wr.ownsRow w.heap.size 5 1 v pre.length (pre.map bv)) (hbox : Box wr w.heap.size 27 (.int .u64 (m : Int)))
    {o : Obj} (hown1 : w1.ownsRow w.heap.size 5 1 v1 (pre.length + 1) (pre.map bv ++ [.int .u8 ((m % 128 + 128 : Nat) : Int)]))
    (hg : ((wr.setCell ⟨w.heap.size, 0, none⟩ (.int .u64 ((m / 128 : Nat) : Int))).alloc o).grownBy w1 v.ownBlock) : VRel w n v1 w1 ∧ pre.length < 9 ∧ lenV v1 = pre.length + 1 := by
  have h9 : pre.length < 9 := by
    rcases Nat.lt_or_ge pre.length 9 with h | h
    · exact h
    · have : 10 - pre.length = 1 := by omega
      rw [this] at hpow; omega
  have h1 : Below w.heap.size w ((wr.setCell ⟨w.heap.size, 0, none⟩ (.int .u64 ((m / 128 : Nat) : Int))).alloc o) := (hb.setCell (p := ⟨w.heap.size, 0, none⟩) (Nat.le_refl _) _).alloc (by simpa [World.setCell] using hb.size) o
  obtain ⟨f, hf⟩ : ∃ f, 10 - pre.length = f + 1 := ⟨9 - pre.length, by omega⟩
  refine ⟨⟨m / 128, pre ++ [UInt8.ofNat (m % 128 + 128)], ?_, ?_, by omega, by simp; omega, ?_, ?_, ?_⟩, h9, ?_⟩
  · rw [List.map_append, List.length_append, List.map_singleton, bv_ofNat _ (by omega)]
    exact hown1
  · refine Box.grown (((hbox.set _).alloc o)) hg ?_
    exact hbox.not_own hown (by decide)
  · have e : 10 - (pre ++ [UInt8.ofNat (m % 128 + 128)]).length = f := by simp; omega
    rw [e, Nat.div_lt_iff_lt_mul (by omega), ← Vi.pow7, ← hf]; exact hpow
  · have e : 10 - (pre ++ [UInt8.ofNat (m % 128 + 128)]).length = f := by simp; omega
    rw [e, List.append_assoc, ← henc, hf]
    congr 1
    conv => rhs; unfold Vi.encF
    rw [if_neg (by omega)]
    rfl
  · exact h1.grown hg (by simpa [World.setCell] using Nat.le_succ_of_le hb.size) (fun k hk => (hown.lt k hk).1)
  · obtain ⟨A, c, rfl, _⟩ := own_shape hown1
    rfl

end Go.Proofs.Ytoljldokehfokaa

namespace Go.Proofs.Ytoljldokehfokaa
open Go.RowKit
set_option linter.unusedVariables false

end Go.Proofs.Ytoljldokehfokaa

namespace Go.Proofs.Ytoljldokehfokaa
open Go.RowKit
set_option linter.unusedVariables false

end Go.Proofs.Ytoljldokehfokaa

namespace Go.Proofs.Ytoljldokehfokaa
open Go.RowKit
set_option linter.unusedVariables false
theorem foldl_push (l : List UInt8) (s : ByteArray) : (l.map fun c => (c.toNat : Int)).foldl (fun r n => r.push (UInt8.ofNat n.toNat)) s = ⟨s.data ++ l.toArray⟩ := by
  induction l generalizing s with
  | nil => simp
  | cons c l ih =>
    simp only [List.map_cons, List.foldl_cons]
    rw [ih]
    simp [ByteArray.push]
/-- a slice of bytes as a string -/
theorem run_str {P : Program} (w : World) (src dst e : TypeId) (hs : P.underlying src = some (.slice e)) (he : P.underlying e = some (.int .u8)) (hd : P.underlying dst = some .string)
    {B n : Nat} {A : Option Addr} {l : List UInt8} (c : Nat) (h : Lies w B 1 A n (l.map bv)) : (convert src dst (.slice A n c)).run P w = .ok (.string ⟨l.toArray⟩) w := by
  rw [run_convert_bytes_string w src dst e A n c hs he hd]
  cases A with
  | none =>
    obtain ⟨_, h2⟩ := h.nil_of
    have : l = [] := by simpa using h2
    subst this
    rfl
  | some ad =>
    have hn : (l.map bv).length = n := by have := h.len; omega
    have hload := run_loadCells_list (P := P) w ad (l.map bv) (fun j v hv => by
      obtain ⟨ad', u, e, _, hx, hc⟩ := h.spot j (by rcases List.getElem?_eq_some_iff.1 hv with ⟨h, _⟩; exact h)
      injection e with e
      subst e
      rw [hv] at hx
      injection hx with hx
      subst hx
      exact hc)
    rw [hn] at hload
    have h2 := run_bytesToString (P := P) w ad n c (l.map fun c => (c.toNat : Int)) (by
      rw [hload]; simp [bv])
    rw [h2, foldl_push]
    simp [ByteArray.empty, ByteArray.emptyWithCapacity]
    rfl
end Go.Proofs.Ytoljldokehfokaa

