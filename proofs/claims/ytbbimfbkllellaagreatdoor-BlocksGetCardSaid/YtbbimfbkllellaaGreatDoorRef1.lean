/-
  Contracts of the document's own answers for layer 1: Get, GetFour, GetText come to the same functions.
-/
import Derived.Test.YtbbimfbkllellaaGreatDoorIntsCE
namespace Go.Proofs.YtbbimfbkllellaaGreatDoor
open Go.RowKit
set_option linter.unusedVariables false

namespace Vi
/-- the number whose digits of seven bits these are -/
def val : List UInt8 → Nat
  | [] => 0
  | c :: cs => c.toNat % 128 + 128 * val cs
theorem val_lt (l : List UInt8) : val l < 2 ^ (7 * l.length) := by
  induction l with
  | nil => simp [val]
  | cons c cs ih =>
    simp only [val, List.length_cons]
    rw [pow7]
    have : c.toNat % 128 < 128 := Nat.mod_lt _ (by decide)
    omega
theorem val_drop (l : List UInt8) (m : Nat) : val (l.drop m) ≤ val l := by
  induction l generalizing m with
  | nil => simp
  | cons c cs ih =>
    cases m with
    | zero => simp
    | succ m => simp only [List.drop_succ_cons, val]; have := ih m; omega
theorem getGo_val (l r : List UInt8) (i s : Nat) (hl : ∀ c ∈ l, 128 ≤ c.toNat) (hi : i + l.length ≤ 9) : getGo i s (l ++ r) = getGo (i + l.length) (s + val l * 2 ^ (7 * i)) r := by
  induction l generalizing i s with
  | nil => simp [val]
  | cons c cs ih =>
    have hc := hl c (by simp)
    have hb : c.toNat < 256 := c.toNat_lt
    have hi2 : i + cs.length + 1 ≤ 9 := by simpa [Nat.add_assoc] using hi
    have hp : c.toNat % 128 * 2 ^ (7 * i) < 2 ^ 64 := by
      have h1 : c.toNat % 128 * 2 ^ (7 * i) ≤ 127 * 2 ^ (7 * i) := Nat.mul_le_mul_right _ (by omega)
      have h2 : 2 ^ (7 * i) ≤ 2 ^ 56 := Nat.pow_le_pow_right (by omega) (by omega)
      omega
    have h1 := ih (i + 1) (s + c.toNat % 128 * 2 ^ (7 * i)) (fun x hx => hl x (by simp [hx])) (by omega)
    simp only [List.cons_append, getGo]
    rw [if_neg (by omega), if_neg (by omega), if_neg (by omega), h1]
    simp only [List.length_cons, val]
    have e1 : i + 1 + cs.length = i + (cs.length + 1) := by omega
    have e2 : s + c.toNat % 128 * 2 ^ (7 * i) + val cs * 2 ^ (7 * (i + 1)) = s + (c.toNat % 128 + 128 * val cs) * 2 ^ (7 * i) := by
      rw [pow7, Nat.add_mul, Nat.mul_comm 128 (val cs), ← Nat.mul_assoc, Nat.mul_right_comm (val cs)]; omega
    rw [e1, e2]
theorem val_snoc (l : List UInt8) (c : UInt8) : val (l ++ [c]) = val l + c.toNat % 128 * 2 ^ (7 * l.length) := by
  induction l with
  | nil => simp [val]
  | cons x xs ih =>
    simp only [List.cons_append, val, ih, List.length_cons]
    rw [pow7, Nat.mul_add, ← Nat.mul_assoc, Nat.mul_comm 128 (c.toNat % 128), Nat.mul_assoc (c.toNat % 128) 128, Nat.mul_comm 128 (2 ^ _)]
    omega
theorem split_at (l : List UInt8) (k : Nat) (c : UInt8) (h : l[k]? = some c) : l = l.take k ++ (c :: l.drop (k + 1)) ∧ (l.take k).length = k ∧ l.take (k + 1) = l.take k ++ [c] := by
  have hlt : k < l.length := by rcases List.getElem?_eq_some_iff.1 h with ⟨h, _⟩; exact h
  have hd : l.drop k = c :: l.drop (k + 1) := by
    rw [List.drop_eq_getElem_cons hlt]
    rcases List.getElem?_eq_some_iff.1 h with ⟨_, h⟩
    rw [h]
  refine ⟨by rw [← hd, List.take_append_drop], by simp; omega, by rw [List.take_add_one, h]; rfl⟩
/-- the number ends at place k -/
theorem get_end (l : List UInt8) (k : Nat) (c : UInt8) (hk : k < 10) (hl : ∀ j x, j < k → l[j]? = some x → 128 ≤ x.toNat) (h : l[k]? = some c) (hc : c.toNat < 128) :
    get l = if 0 < k ∧ c.toNat = 0 ∨ k = 9 ∧ 1 < c.toNat then (0, 0, 4) else (val (l.take (k + 1)), k + 1, 0) := by
  obtain ⟨hs, hlen, ht⟩ := split_at l k c h
  have hall : ∀ x ∈ l.take k, 128 ≤ x.toNat := by
    intro x hx
    obtain ⟨j, hj, e⟩ := List.getElem_of_mem hx
    have hj2 : j < k := by rw [hlen] at hj; exact hj
    refine hl j x hj2 ?_
    have : (l.take k)[j]? = some x := by rw [List.getElem?_eq_getElem hj, e]
    rw [List.getElem?_take, if_pos hj2] at this
    exact this
  have h1 := getGo_val (l.take k) (c :: l.drop (k + 1)) 0 0 hall (by omega)
  rw [← hs, hlen] at h1
  unfold get
  rw [h1]
  simp only [getGo, Nat.zero_add, Nat.mul_zero, Nat.pow_zero, Nat.mul_one]
  rw [if_neg (by omega), Nat.mod_eq_of_lt hc, ht, val_snoc, hlen, Nat.mod_eq_of_lt hc]
  have hfit : (2 ^ 64 ≤ c.toNat * 2 ^ (7 * k)) ↔ (k = 9 ∧ 1 < c.toNat) := by
    constructor
    · intro hh
      rcases Nat.lt_or_ge k 9 with h9 | h9
      · have h2 : c.toNat * 2 ^ (7 * k) ≤ 127 * 2 ^ (7 * k) := Nat.mul_le_mul_right _ (by omega)
        have h3 : 2 ^ (7 * k) ≤ 2 ^ 56 := Nat.pow_le_pow_right (by omega) (by omega)
        omega
      · have : k = 9 := by omega
        subst this
        refine ⟨rfl, ?_⟩
        omega
    · rintro ⟨rfl, hh⟩
      omega
  by_cases hcase : 0 < k ∧ c.toNat = 0 ∨ k = 9 ∧ 1 < c.toNat
  · rw [if_pos hcase, if_pos]
    rcases hcase with ⟨h2, h3⟩ | h2
    · exact .inr ⟨h3, h2⟩
    · exact .inl (hfit.2 h2)
  · rw [if_neg hcase, if_neg, if_pos hc]
    rintro (h2 | ⟨h2, h3⟩)
    · exact hcase (.inr (hfit.1 h2))
    · exact hcase (.inl ⟨h3, h2⟩)
theorem get_on_out (l : List UInt8) (k : Nat) (hk : k = min l.length 10) (hl : ∀ j x, j < k → l[j]? = some x → 128 ≤ x.toNat) : get l = (0, 0, if l.length < 10 then 5 else 4) := by
  by_cases h : l.length < 10
  · have hall : ∀ x ∈ l, 128 ≤ x.toNat := by
      intro x hx
      obtain ⟨j, hj, e⟩ := List.getElem_of_mem hx
      exact hl j x (by omega) (by rw [List.getElem?_eq_getElem hj, e])
    have h1 := getGo_val l [] 0 0 hall (by omega)
    rw [List.append_nil] at h1
    unfold get
    rw [h1, if_pos h]
    simp [getGo, h]
  · have hall : ∀ x ∈ l.take 9, 128 ≤ x.toNat := by
      intro x hx
      obtain ⟨j, hj, e⟩ := List.getElem_of_mem hx
      have hj2 : j < 9 := by simp at hj; omega
      refine hl j x (by omega) ?_
      have : (l.take 9)[j]? = some x := by rw [List.getElem?_eq_getElem hj, e]
      rw [List.getElem?_take, if_pos hj2] at this
      exact this
    obtain ⟨c, hc⟩ : ∃ c, l[9]? = some c := ⟨l[9], List.getElem?_eq_getElem (by omega)⟩
    obtain ⟨hs, hlen, _⟩ := split_at l 9 c hc
    have hc128 := hl 9 c (by omega) hc
    have hc256 : c.toNat < 256 := c.toNat_lt
    have h1 := getGo_val (l.take 9) (c :: l.drop 10) 0 0 hall (by omega)
    rw [← hs, hlen] at h1
    unfold get
    rw [h1, if_neg h]
    simp only [getGo]
    rw [if_neg (by omega)]
    split
    · rfl
    · rw [if_neg (by omega)]
      cases l.drop 10 <;> simp [getGo]
end Vi
end Go.Proofs.YtbbimfbkllellaaGreatDoor
