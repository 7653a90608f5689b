/-
  Plain mathematics of layer 7's laws: what entries, put one by one, come to; those from a mark on; the first of a key up to a number.
-/
import Derived.Test.YtopcnlophmplgaaGreatDoorTabM
namespace Go.Proofs.YtopcnlophmplgaaGreatDoor
open Go.RowKit
set_option linter.unusedVariables false

instance : DecidableEq Mk := fun a b => by
  cases a with | mk k s g => cases b with | mk k' s' g' =>
    by_cases h1 : k = k' <;> by_cases h2 : s = s' <;> by_cases h3 : g = g' <;> first
      | exact isTrue (by subst h1 h2 h3; rfl)
      | exact isFalse (fun e => by injection e; contradiction)
/-- has one of these that mark? -/
def hasM (S : List En) (m : Mk) : Bool := S.any fun e => decide (e.m = m)
theorem hasM_iff (S : List En) (m : Mk) : hasM S m = true ↔ ∃ e ∈ S, e.m = m := by
  unfold hasM; rw [List.any_eq_true]; simp
def stepE (S : List En) (x : En) : List En := if fineE x && !hasM S x.m then insE x S else S
def bld (l : List En) : List En := l.foldl stepE []
theorem bld_snoc (l : List En) (x : En) : bld (l ++ [x]) = stepE (bld l) x := by unfold bld; rw [List.foldl_append]; rfl
theorem built (l : List En) : Built l (bld l) := by
  have h : ∀ n, ∀ l : List En, l.length = n → Built l (bld l) := by
    intro n
    induction n with
    | zero => intro l hl; rw [List.length_eq_zero_iff.1 hl]; exact Built.nil
    | succ n ih =>
      intro l hl
      obtain ⟨l', x, rfl⟩ : ∃ l' x, l = l' ++ [x] := ⟨l.dropLast, l.getLast (fun e => by rw [e] at hl; cases hl), (List.dropLast_concat_getLast _).symm⟩
      rw [List.length_append, List.length_singleton] at hl
      have h := ih l' (by omega)
      rw [bld_snoc]; unfold stepE
      cases hf : fineE x
      · rw [Bool.false_and, if_neg (by decide)]; exact h.bad hf
      · by_cases hh : hasM (bld l') x.m = true
        · rw [hh, if_neg (by decide)]; exact h.dup ((h.there _).2 ((hasM_iff _ _).1 hh))
        · have hh2 : hasM (bld l') x.m = false := by simpa using hh
          rw [hh2, if_pos (by decide)]
          exact h.new hf fun q => hh ((hasM_iff _ _).2 ((h.there _).1 q))
  exact h _ l rfl
theorem bld_rise (l : List En) : Rise (bld l) := (built l).1
theorem bld_fine (l : List En) : ∀ e ∈ bld l, fineE e = true := (built l).fine
theorem bld_take (l : List En) (i : Nat) (x : En) (h : l[i]? = some x) : bld (l.take (i + 1)) = stepE (bld (l.take i)) x := by
  rw [List.take_add_one, h]; exact bld_snoc _ _
theorem stepE_len (S : List En) (x : En) : (stepE S x).length = S.length + if fineE x && !hasM S x.m then 1 else 0 := by
  unfold stepE
  split
  · exact insE_len x S
  · rfl
theorem bld_len (l : List En) : (bld l).length ≤ l.length := by
  have h : ∀ n, ∀ l : List En, l.length = n → (bld l).length ≤ n := by
    intro n
    induction n with
    | zero => intro l hl; rw [List.length_eq_zero_iff.1 hl]; exact Nat.le_refl _
    | succ n ih =>
      intro l hl
      obtain ⟨l', x, rfl⟩ : ∃ l' x, l = l' ++ [x] := ⟨l.dropLast, l.getLast (fun e => by rw [e] at hl; cases hl), (List.dropLast_concat_getLast _).symm⟩
      rw [List.length_append, List.length_singleton] at hl
      have h := ih l' (by omega)
      rw [bld_snoc, stepE_len]
      split <;> omega
  exact h _ l rfl
/-- of entries that may be, of unlike marks, all are there -/
theorem bld_all {l S : List En} (hf : ∀ e ∈ l, fineE e = true) (hd : l.Pairwise fun a b => a.m ≠ b.m) (hS : Rise S) (hm : ∀ e, e ∈ S ↔ e ∈ l) : bld l = S := by
  refine rise_one _ _ (bld_rise l) hS fun e => ((built l).2 e).trans ((hm e).trans ?_).symm
  constructor
  · intro he
    obtain ⟨i, hi⟩ := List.getElem?_of_mem he
    refine ⟨i, hi, hf e he, fun k hk x hx _ => ?_⟩
    obtain ⟨h1, rfl⟩ := List.getElem?_eq_some_iff.1 hi
    obtain ⟨h2, rfl⟩ := List.getElem?_eq_some_iff.1 hx
    exact List.pairwise_iff_getElem.1 hd k i h2 h1 hk
  · rintro ⟨i, hi⟩
    exact List.mem_of_getElem? hi.1
theorem Rise.unlike {S : List En} (h : Rise S) : S.Pairwise fun a b => a.m ≠ b.m := h.imp fun {a b} q e => by rw [e, cmp_self] at q; omega
/-- turned round -/
theorem bld_turn {S : List En} (hr : Rise S) (hf : ∀ e ∈ S, fineE e = true) (k : Nat) : bld (S.drop k ++ S.take k) = S := by
  have hmem : ∀ e, e ∈ S ↔ e ∈ S.drop k ++ S.take k := fun e => by
    rw [List.mem_append]
    conv => lhs; rw [← List.take_append_drop k S, List.mem_append]
    exact Or.comm
  refine bld_all (fun e he => hf e ((hmem e).2 he)) ?_ hr hmem
  have hu := hr.unlike
  rw [← List.take_append_drop k S, List.pairwise_append] at hu
  rw [List.pairwise_append]
  exact ⟨hu.2.1, hu.1, fun a ha b hb => (hu.2.2 b hb a ha).symm⟩

theorem lessB_empty (k : ByteArray) : lessB k ByteArray.empty = false := by
  rw [lessB_eq]
  exact decide_eq_false (List.not_lt_nil _)
def noM : Mk := ⟨ByteArray.empty, 0, false⟩
theorem fine_key {e : En} (h : fineE e = true) : 1 ≤ e.m.k.size := by
  unfold fineE chk at h
  simp only [Bool.and_eq_true, decide_eq_true_eq] at h
  exact h.1.1
/-- nothing that may be stands ahead of the empty mark -/
theorem fine_after {e : En} (h : fineE e = true) : ¬ cmpM e.m noM < 0 := by
  have h1 := fine_key h
  rw [cmpM_eq]
  have h2 : cmpS e.m.k noM.k ≠ 0 := fun q => by
    have := tri_S.same _ _ q
    rw [this] at h1; exact absurd h1 (by decide)
  rw [if_pos h2]
  unfold cmpS
  rw [show lessB e.m.k noM.k = false from lessB_empty _, if_neg (by decide)]
  split <;> decide
/-- those from a mark on -/
def fromM (S : List En) (m : Mk) : List En := S.dropWhile (bef m)
theorem fromM_none {S : List En} (hf : ∀ e ∈ S, fineE e = true) : fromM S noM = S := by
  unfold fromM
  cases S with
  | nil => rfl
  | cons x S => rw [List.dropWhile_cons, if_neg (by have := fine_after (hf x (by simp)); unfold bef; simpa using this)]
end Go.Proofs.YtopcnlophmplgaaGreatDoor
