/-
  Plain facts about frames: what is put is read back; a frame that is cut, or in which a byte is another one.
-/
import Derived.Test.YtomfkfdnpmpbgaaFramesC
namespace Go.Proofs.Ytomfkfdnpmpbgaa
open Go.RowKit
set_option linter.unusedVariables false

theorem flen_four (k : Nat) (r : List UInt8) (hk : k < 4294967296) : flen (four k ++ r) = k := by unfold flen; rw [getFour_four k r hk]
theorem fr_drop4 (r x : List UInt8) : (fr r ++ x).drop 4 = four (csum (four r.length) r) ++ (r ++ x) := by
  unfold fr; rw [List.append_assoc, List.append_assoc]; rfl
theorem fr_take4 (r x : List UInt8) : (fr r ++ x).take 4 = four r.length := by unfold fr; rw [List.append_assoc]; rfl
theorem fr_drop8 (r x : List UInt8) : (fr r ++ x).drop 8 = r ++ x := by unfold fr; rw [List.append_assoc, List.append_assoc]; rfl
theorem fr_flen (r x : List UInt8) (h : r.length ≤ 65536) : flen (fr r ++ x) = r.length := by
  unfold fr; rw [List.append_assoc]; exact flen_four _ _ (by omega)
theorem got_fr (r x : List UInt8) (h : r.length ≤ 65536) : gotF (fr r ++ x) = (r, 8 + r.length, 0) := by
  have hl := fr_len r
  unfold gotF
  rw [fr_flen r x h, fr_drop4, fr_take4, fr_drop8, flen_four _ _ (csum_lt _ _), List.take_append_of_le_length (Nat.le_refl _), List.take_length]
  rw [if_neg (by simp; omega), if_neg (by omega), if_neg (by simp; omega), if_neg (by simp)]
theorem got_fr0 (r : List UInt8) (h : r.length ≤ 65536) : gotF (fr r) = (r, 8 + r.length, 0) := by
  have := got_fr r [] h
  rwa [List.append_nil] at this
theorem got_cut (r : List UInt8) (h : r.length ≤ 65536) (m : Nat) (hm : m < r.length + 8) : gotF ((fr r).take m) = ([], 0, 5) := by
  have hl := fr_len r
  have hlm : ((fr r).take m).length = m := by simp; omega
  unfold gotF
  rw [hlm]
  by_cases h8 : m < 8
  · rw [if_pos h8]
  · rw [if_neg h8]
    have e : flen ((fr r).take m) = r.length := by
      unfold fr
      rw [List.take_append, List.take_of_length_le (by rw [four_len]; omega)]
      exact flen_four _ _ (by omega)
    rw [e, if_neg (by omega), if_pos (by omega)]
theorem four_eta (a b c d : UInt8) : four (a.toNat * 16777216 + b.toNat * 65536 + c.toNat * 256 + d.toNat) = [a, b, c, d] := by
  have := a.toNat_lt; have := b.toNat_lt; have := c.toNat_lt; have := d.toNat_lt
  unfold four
  have e1 : (a.toNat * 16777216 + b.toNat * 65536 + c.toNat * 256 + d.toNat) / 16777216 = a.toNat := by omega
  have e2 : (a.toNat * 16777216 + b.toNat * 65536 + c.toNat * 256 + d.toNat) / 65536 % 256 = b.toNat := by omega
  have e3 : (a.toNat * 16777216 + b.toNat * 65536 + c.toNat * 256 + d.toNat) / 256 % 256 = c.toNat := by omega
  have e4 : (a.toNat * 16777216 + b.toNat * 65536 + c.toNat * 256 + d.toNat) % 256 = d.toNat := by omega
  rw [e1, e2, e3, e4, UInt8.ofNat_toNat, UInt8.ofNat_toNat, UInt8.ofNat_toNat, UInt8.ofNat_toNat]
theorem flen_eta (l : List UInt8) (h : 4 ≤ l.length) : four (flen l) = l.take 4 := by
  match l, h with
  | a :: b :: c :: d :: l, _ => exact four_eta a b c d
theorem flen_inj {l l' : List UInt8} (h : 4 ≤ l.length) (h' : 4 ≤ l'.length) (e : flen l = flen l') : l.take 4 = l'.take 4 := by
  rw [← flen_eta l h, ← flen_eta l' h', e]
/-- what is got is a record whose frame the bytes begin with -/
theorem got_back (l : List UInt8) (h : (gotF l).2.2 = 0) : (gotF l).1.length ≤ 65536 ∧ (gotF l).2.1 = (gotF l).1.length + 8 ∧ (gotF l).2.1 ≤ l.length ∧ l.take (gotF l).2.1 = fr (gotF l).1 := by
  unfold gotF at h ⊢
  by_cases h8 : l.length < 8
  · rw [if_pos h8] at h; cases h
  rw [if_neg h8] at h ⊢
  by_cases hk : 65536 < flen l
  · rw [if_pos hk] at h; cases h
  rw [if_neg hk] at h ⊢
  by_cases hs : l.length < 8 + flen l
  · rw [if_pos hs] at h; cases h
  rw [if_neg hs] at h ⊢
  by_cases hc : flen (l.drop 4) ≠ csum (l.take 4) ((l.drop 8).take (flen l))
  · rw [if_pos hc] at h; cases h
  rw [if_neg hc]
  have hc' : flen (l.drop 4) = csum (l.take 4) ((l.drop 8).take (flen l)) := Decidable.not_not.1 hc
  have hlr : ((l.drop 8).take (flen l)).length = flen l := by simp; omega
  refine ⟨by rw [hlr]; omega, by rw [hlr]; show 8 + flen l = _; omega, by show 8 + flen l ≤ _; omega, ?_⟩
  show l.take (8 + flen l) = _
  unfold fr
  rw [hlr, flen_eta l (by omega), ← hc', flen_eta (l.drop 4) (by simp; omega), List.take_add, ← List.append_assoc]
  congr 1
  rw [← List.take_add]
theorem got_err (l : List UInt8) : (gotF l).2.2 = 0 ∨ ((gotF l).2.2 = 4 ∨ (gotF l).2.2 = 5) ∧ gotF l = ([], 0, (gotF l).2.2) := by
  unfold gotF
  split
  · exact .inr ⟨.inr rfl, rfl⟩
  split
  · exact .inr ⟨.inl rfl, rfl⟩
  split
  · exact .inr ⟨.inr rfl, rfl⟩
  split
  · exact .inr ⟨.inl rfl, rfl⟩
  · exact .inl rfl
/-- frames of unlike records part, whatever stands behind -/
theorem fr_begin (a b x y : List UInt8) (ha : a.length ≤ 65536) (hb : b.length ≤ 65536) (h : fr a ++ x = fr b ++ y) : a = b := by
  have h1 := got_fr a x ha
  rw [h, got_fr b y hb] at h1
  injection h1 with h1 _
  exact h1.symm
theorem fr_min (a b : List UInt8) (ha : a.length ≤ 65536) (hb : b.length ≤ 65536) (n : Nat) (hn : n = min (a.length + 8) (b.length + 8)) (h : (fr a).take n = (fr b).take n) : a = b := by
  have la := fr_len a; have lb := fr_len b
  rcases Nat.le_total a.length b.length with hab | hab
  · have e : n = (fr a).length := by omega
    rw [e, List.take_length] at h
    have h2 : fr a ++ (fr b).drop (fr a).length = fr b ++ [] := by
      rw [List.append_nil]
      conv => lhs; rw [h]
      rw [List.length_take, Nat.min_eq_left (by omega)]
      exact List.take_append_drop _ _
    exact fr_begin a b _ _ ha hb h2
  · have e : n = (fr b).length := by omega
    rw [e, List.take_length] at h
    have h2 : fr a ++ [] = fr b ++ (fr a).drop (fr b).length := by
      rw [List.append_nil]
      conv => rhs; rw [← h]
      rw [List.length_take, Nat.min_eq_left (by omega)]
      exact (List.take_append_drop _ _).symm
    exact fr_begin a b _ _ ha hb h2
end Go.Proofs.Ytomfkfdnpmpbgaa
