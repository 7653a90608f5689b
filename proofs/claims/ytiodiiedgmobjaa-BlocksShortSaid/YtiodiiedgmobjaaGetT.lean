/-
  Texts that are cut, and read back (plain facts).
-/
import Derived.Test.YtiodiiedgmobjaaIntsE
namespace Go.Proofs.Ytiodiiedgmobjaa
open Go.RowKit
set_option linter.unusedVariables false

theorem slen (s : ByteArray) : s.data.toList.length = s.size := by rw [Array.length_toList]; rfl

/-- a text that is cut off is short -/
theorem getText_cut (s : ByteArray) (m : Nat) (hs : s.size < 18446744073709551616) (hm : m < (Vi.enc s.size).length + s.size) : getText ((Vi.enc s.size ++ s.data.toList).take m) = ([], 0, 5) := by
  rw [List.take_append]
  by_cases h : m < (Vi.enc s.size).length
  · have e : m - (Vi.enc s.size).length = 0 := by omega
    rw [e, List.take_zero, List.append_nil]
    have g := Vi.get_cut s.size m hs h
    unfold getText
    rw [g]
    simp
  · rw [List.take_of_length_le (by omega)]
    have g := Vi.get_enc s.size (s.data.toList.take (m - (Vi.enc s.size).length)) hs
    unfold getText
    rw [g]
    simp only [ne_eq, not_true_eq_false, if_false]
    rw [if_pos]
    have := slen s
    simp
    omega
theorem getText_enc (s : ByteArray) (r : List UInt8) (hs : s.size < 18446744073709551616) : getText (Vi.enc s.size ++ (s.data.toList ++ r)) = (s.data.toList, (Vi.enc s.size).length + s.size, 0) := by
  have g := Vi.get_enc s.size (s.data.toList ++ r) hs
  have hl := slen s
  unfold getText
  rw [g]
  simp only [ne_eq, not_true_eq_false, if_false]
  rw [if_neg (by simp only [List.length_append]; omega), List.drop_append, List.drop_eq_nil_of_le (Nat.le_refl _), Nat.sub_self, List.drop_zero, List.nil_append, ← hl, List.take_append_of_le_length (Nat.le_refl _), List.take_length]
/-- what is got stood there -/
theorem getText_back (l a : List UInt8) (t : Nat) (h : getText l = (a, t, 0)) : t ≤ l.length ∧ 1 ≤ t ∧ a.length < 18446744073709551616 ∧ t = (Vi.enc a.length).length + a.length ∧ l.take t = Vi.enc a.length ++ a := by
  unfold getText at h
  rcases hg : Vi.get l with ⟨k, q, e⟩
  rw [hg] at h
  dsimp only at h
  split at h
  · rename_i he
    injection h with _ h
    injection h with _ h
    exact absurd h he
  · rename_i he
    have he0 : e = 0 := by omega
    subst he0
    have hb := Vi.get_back l k q hg
    split at h
    · injection h with _ h
      injection h with _ h
      cases h
    · rename_i hs
      injection h with h1 h2
      injection h2 with h2 _
      have hal : a.length = k := by rw [← h1]; simp; omega
      have hkl := hb.1
      have hq := congrArg List.length hb.2.2.2.2
      simp only [List.length_take] at hq
      have hq2 : (Vi.enc k).length = q := by omega
      rw [hal]
      refine ⟨by omega, by omega, by omega, by omega, ?_⟩
      rw [← h2, List.take_add, hb.2.2.2.2, h1]
theorem getText_bad2 (l a : List UInt8) (t e : Nat) (h : getText l = (a, t, e)) (he : e ≠ 0) : a = [] ∧ t = 0 ∧ (e = 4 ∨ e = 5) := by
  unfold getText at h
  rcases hg : Vi.get l with ⟨k, q, e1⟩
  rw [hg] at h
  dsimp only at h
  split at h
  · rename_i he1
    injection h with h1 h
    injection h with h2 h3
    have := (Vi.get_bad l k q e1 hg he1).2.2
    exact ⟨h1.symm, h2.symm, by omega⟩
  · split at h
    · injection h with h1 h
      injection h with h2 h3
      exact ⟨h1.symm, h2.symm, by omega⟩
    · injection h with h1 h
      injection h with h2 h3
      exact absurd h3.symm he
end Go.Proofs.Ytiodiiedgmobjaa
