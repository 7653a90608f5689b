/-
  Plain mathematics: marks put in order by insertion; the order of a row of marks depends on nothing but the marks.
-/
import Derived.Test.YtjeijgkkobmdbaaMarks
namespace Go.Proofs.Ytjeijgkkobmdbaa
set_option linter.unusedVariables false

/-- a mark comes behind all that don't come behind it -/
def ins (m : Mk) : List Mk → List Mk
  | [] => [m]
  | x :: t => if 0 ≤ cmpM m x then x :: ins m t else m :: x :: t
def sortM (l : List Mk) : List Mk := l.foldl (fun out m => ins m out) []
theorem sortM_snoc (l : List Mk) (m : Mk) : sortM (l ++ [m]) = ins m (sortM l) := by unfold sortM; rw [List.foldl_append]; rfl
theorem sortM_take (l : List Mk) (k : Nat) (m : Mk) (h : l[k]? = some m) : sortM (l.take (k + 1)) = ins m (sortM (l.take k)) := by
  rw [List.take_add_one, h]; exact sortM_snoc _ _
theorem ins_perm (m : Mk) (l : List Mk) : (ins m l).Perm (m :: l) := by
  induction l with
  | nil => exact List.Perm.refl _
  | cons x t ih =>
    unfold ins
    split
    · exact ((List.Perm.cons x ih).trans (List.Perm.swap m x t))
    · exact List.Perm.refl _
theorem ins_len (m : Mk) (l : List Mk) : (ins m l).length = l.length + 1 := by rw [(ins_perm m l).length_eq]; rfl
theorem foldl_perm (l : List Mk) : ∀ out : List Mk, (l.foldl (fun out m => ins m out) out).Perm (l ++ out) := by
  induction l with
  | nil => intro out; exact List.Perm.refl _
  | cons m l ih =>
    intro out
    refine (ih (ins m out)).trans ?_
    exact ((List.Perm.append_left l (ins_perm m out)).trans List.perm_middle)
theorem sortM_perm (l : List Mk) : (sortM l).Perm l := by have h := foldl_perm l []; rw [List.append_nil] at h; exact h
theorem sortM_len (l : List Mk) : (sortM l).length = l.length := (sortM_perm l).length_eq
/-- where it comes -/
theorem ins_at (m : Mk) : ∀ (out : List Mk) (j : Nat), j ≤ out.length → (∀ i x, i < j → out[i]? = some x → 0 ≤ cmpM m x) → (∀ x, out[j]? = some x → cmpM m x < 0) → ins m out = out.take j ++ [m] ++ out.drop j
  | [], j, hj, _, _ => by simp [ins]
  | y :: t, 0, _, _, h2 => by
    have := h2 y rfl
    unfold ins
    rw [if_neg (by omega)]; rfl
  | y :: t, j + 1, hj, h1, h2 => by
    have h0 := h1 0 y (by omega) rfl
    unfold ins
    rw [if_pos h0, ins_at m t j (by simpa using hj) (fun i x hi hx => h1 (i + 1) x (by omega) (by simpa using hx)) (fun x hx => h2 x (by simpa using hx))]
    rfl

/-- a stands ahead of b, or is b -/
def LeM (a b : Mk) : Prop := cmpM a b ≤ 0
theorem leM_trans {a b d : Mk} (h : LeM a b) (h2 : LeM b d) : LeM a d := by
  unfold LeM at *
  by_cases e : cmpM a b = 0
  · rw [tri_M.same _ _ e]; exact h2
  · by_cases e2 : cmpM b d = 0
    · rw [← tri_M.same _ _ e2]; exact h
    · have := tri_M.on a b d (by omega) (by omega); omega
theorem leM_anti {a b : Mk} (h : LeM a b) (h2 : LeM b a) : a = b := by
  unfold LeM at *
  have := tri_M.turn a b
  exact tri_M.same _ _ (by omega)
theorem leM_of_not {a b : Mk} (h : 0 ≤ cmpM a b) : LeM b a := by
  have := tri_M.turn a b; unfold LeM; omega
theorem ins_sorted (m : Mk) (l : List Mk) (h : l.Pairwise LeM) : (ins m l).Pairwise LeM := by
  induction l with
  | nil => simp [ins]
  | cons x t ih =>
    obtain ⟨h1, h2⟩ := List.pairwise_cons.1 h
    unfold ins
    split
    · next hc =>
      refine List.pairwise_cons.2 ⟨fun y hy => ?_, ih h2⟩
      rcases List.mem_cons.1 ((ins_perm m t).mem_iff.1 hy) with rfl | hy
      · exact leM_of_not hc
      · exact h1 y hy
    · next hc =>
      have hx : LeM m x := by unfold LeM; omega
      refine List.pairwise_cons.2 ⟨fun y hy => ?_, h⟩
      rcases List.mem_cons.1 hy with rfl | hy
      · exact hx
      · exact leM_trans hx (h1 y hy)
theorem foldl_sorted (l : List Mk) : ∀ out : List Mk, out.Pairwise LeM → (l.foldl (fun out m => ins m out) out).Pairwise LeM := by
  induction l with
  | nil => intro out h; exact h
  | cons m l ih => intro out h; exact ih _ (ins_sorted m out h)
theorem sortM_sorted (l : List Mk) : (sortM l).Pairwise LeM := foldl_sorted l [] List.Pairwise.nil
/-- two rows of the same marks, both in order, are one -/
theorem sorted_one : ∀ (l l' : List Mk), l.Perm l' → l.Pairwise LeM → l'.Pairwise LeM → l = l'
  | [], l', hp, _, _ => hp.nil_eq
  | a :: t, l', hp, h1, h2 => by
    cases l' with
    | nil => exact absurd hp.length_eq (by simp)
    | cons b t' =>
      obtain ⟨p1, q1⟩ := List.pairwise_cons.1 h1
      obtain ⟨p2, q2⟩ := List.pairwise_cons.1 h2
      have hab : a = b := by
        rcases List.mem_cons.1 (hp.mem_iff.1 (List.mem_cons_self (a := a) (l := t))) with e | e
        · exact e
        · rcases List.mem_cons.1 (hp.mem_iff.2 (List.mem_cons_self (a := b) (l := t'))) with e2 | e2
          · exact e2.symm
          · exact leM_anti (p1 b e2) (p2 a e)
      subst hab
      rw [sorted_one t t' (List.Perm.cons_inv hp) q1 q2]
theorem sortM_turned (l : List Mk) (k : Nat) : sortM (l.drop k ++ l.take k) = sortM l := by
  refine sorted_one _ _ ?_ (sortM_sorted _) (sortM_sorted _)
  refine (sortM_perm _).trans (List.Perm.trans ?_ (sortM_perm l).symm)
  have h : (l.drop k ++ l.take k).Perm (l.take k ++ l.drop k) := List.perm_append_comm
  rw [List.take_append_drop] at h
  exact h
theorem sortM_le (l : List Mk) (i j : Nat) (a b : Mk) (hij : i < j) (ha : (sortM l)[i]? = some a) (hb : (sortM l)[j]? = some b) : cmpM a b ≤ 0 := by
  obtain ⟨hi, ha⟩ := List.getElem?_eq_some_iff.1 ha
  obtain ⟨hj, hb⟩ := List.getElem?_eq_some_iff.1 hb
  have h := List.pairwise_iff_getElem.1 (sortM_sorted l) i j hi hj hij
  rw [ha, hb] at h
  exact h
end Go.Proofs.Ytjeijgkkobmdbaa
