/-
  Plain mathematics: entries in order, each mark once; what a list of entries, put one by one, comes to.
-/
import Derived.Test.YtbbimfbkllellaaGreatDoorMarks
import Derived.Test.YtbbimfbkllellaaGreatDoorCmpAB
import Derived.Test.YtbbimfbkllellaaGreatDoorEnES
namespace Go.Proofs.YtbbimfbkllellaaGreatDoor
open Go.RowKit
set_option linter.unusedVariables false

/-- may an entry be? -/
def fineE (e : En) : Bool := chk e.m.k && (decide (e.x.size ≤ 256) && (e.x.toList.isEmpty || !e.m.g))
theorem fine_size {e : En} (h : fineE e = true) : 1 ≤ e.m.k.size ∧ e.m.k.size ≤ 32 ∧ e.x.size ≤ 256 := by
  unfold fineE chk at h
  simp only [Bool.and_eq_true, decide_eq_true_eq] at h
  exact ⟨h.1.1, h.1.2, h.2.1⟩
def Rise (S : List En) : Prop := S.Pairwise fun a b => cmpM a.m b.m < 0
def bef (m : Mk) (e : En) : Bool := decide (cmpM e.m m < 0)

theorem cmp_self (m : Mk) : cmpM m m = 0 := tri_M.self m
theorem cmp_flip {a b : Mk} : cmpM b a = - cmpM a b := tri_M.turn a b
theorem cmp_trans {a b d : Mk} (h : cmpM a b < 0) (h2 : cmpM b d < 0) : cmpM a d < 0 := tri_M.on a b d h h2

theorem Rise.ne {S : List En} (h : Rise S) {i j : Nat} {a b : En} (hij : i < j) (ha : S[i]? = some a) (hb : S[j]? = some b) : cmpM a.m b.m < 0 := by
  obtain ⟨hi, rfl⟩ := List.getElem?_eq_some_iff.1 ha
  obtain ⟨hj, rfl⟩ := List.getElem?_eq_some_iff.1 hb
  exact List.pairwise_iff_getElem.1 h i j hi hj hij
/-- those from m on: none of them stands ahead of m -/
theorem Rise.rest {S : List En} (h : Rise S) (m : Mk) : ∀ e ∈ S.dropWhile (bef m), ¬ cmpM e.m m < 0 := by
  induction S with
  | nil => intro e he; cases he
  | cons x S ih =>
    rw [List.dropWhile_cons]
    have hx := List.pairwise_cons.1 h
    by_cases hb : bef m x = true
    · rw [if_pos hb]; exact ih hx.2
    · rw [if_neg hb]
      have hn : ¬ cmpM x.m m < 0 := by simpa [bef] using hb
      intro e he
      rcases List.mem_cons.1 he with rfl | he
      · exact hn
      · exact fun q => hn (cmp_trans (hx.1 e he) q)
theorem take_while_mem {α : Type} (p : α → Bool) : ∀ (S : List α) (e : α), e ∈ S.takeWhile p → p e = true
  | [], e, h => by cases h
  | x :: S, e, h => by
    rw [List.takeWhile_cons] at h
    by_cases hp : p x = true
    · rw [if_pos hp] at h
      rcases List.mem_cons.1 h with rfl | h
      · exact hp
      · exact take_while_mem p S e h
    · rw [if_neg hp] at h; cases h
theorem first_bef {S : List En} (m : Mk) : ∀ e ∈ S.takeWhile (bef m), cmpM e.m m < 0 := fun e he => by
  have := take_while_mem _ _ _ he
  simpa [bef] using this
theorem Rise.split {S : List En} (h : Rise S) (m : Mk) (e : En) : e ∈ S.dropWhile (bef m) ↔ e ∈ S ∧ ¬ cmpM e.m m < 0 := by
  constructor
  · intro he; exact ⟨(List.dropWhile_sublist _).mem he, h.rest m e he⟩
  · rintro ⟨he, hn⟩
    rw [← List.takeWhile_append_dropWhile (p := bef m) (l := S), List.mem_append] at he
    rcases he with he | he
    · exact absurd (first_bef m e he) hn
    · exact he

/-- put in order -/
def insE (x : En) (S : List En) : List En := S.takeWhile (bef x.m) ++ x :: S.dropWhile (bef x.m)
theorem mem_insE (x : En) (S : List En) (e : En) : e ∈ insE x S ↔ e = x ∨ e ∈ S := by
  unfold insE
  rw [List.mem_append, List.mem_cons]
  constructor
  · rintro (h | h | h)
    · exact .inr ((List.takeWhile_sublist _).mem h)
    · exact .inl h
    · exact .inr ((List.dropWhile_sublist _).mem h)
  · rintro (h | h)
    · exact .inr (.inl h)
    · rw [← List.takeWhile_append_dropWhile (p := bef x.m) (l := S), List.mem_append] at h
      rcases h with h | h
      · exact .inl h
      · exact .inr (.inr h)
theorem insE_len (x : En) (S : List En) : (insE x S).length = S.length + 1 := by
  unfold insE
  have := congrArg List.length (List.takeWhile_append_dropWhile (p := bef x.m) (l := S))
  rw [List.length_append] at this
  rw [List.length_append, List.length_cons]; omega
theorem Rise.ins {S : List En} (h : Rise S) (x : En) (hx : ∀ e ∈ S, e.m ≠ x.m) : Rise (insE x S) := by
  unfold insE Rise
  rw [List.pairwise_append]
  refine ⟨h.sublist (List.takeWhile_sublist _), List.pairwise_cons.2 ⟨fun e he => ?_, h.sublist (List.dropWhile_sublist _)⟩, fun a ha b hb => ?_⟩
  · have h1 := h.rest x.m e he
    have h2 := hx e ((List.dropWhile_sublist _).mem he)
    have h3 := tri_M.three e.m x.m
    have h4 : cmpM e.m x.m ≠ 0 := fun q => h2 (tri_M.same _ _ q)
    have h5 := cmp_flip (a := e.m) (b := x.m)
    omega
  · have h1 := first_bef x.m a ha
    rcases List.mem_cons.1 hb with rfl | hb
    · exact h1
    · have h2 := h.rest x.m b hb
      have h3 := cmp_flip (a := b.m) (b := x.m)
      by_cases h0 : cmpM x.m b.m < 0
      · exact cmp_trans h1 h0
      · have h4 : cmpM b.m x.m = 0 := by omega
        rw [tri_M.same _ _ h4]; exact h1
/-- lists in order with the same members are one -/
theorem rise_one : ∀ (S T : List En), Rise S → Rise T → (∀ e, e ∈ S ↔ e ∈ T) → S = T
  | [], [], _, _, _ => rfl
  | [], t :: T, _, _, h => by have := (h t).2 (by simp); cases this
  | s :: S, [], _, _, h => by have := (h s).1 (by simp); cases this
  | s :: S, t :: T, hS, hT, h => by
    have h1 := List.pairwise_cons.1 hS
    have h2 := List.pairwise_cons.1 hT
    have he : s = t := by
      rcases List.mem_cons.1 ((h s).1 (by simp)) with q | q
      · exact q
      · rcases List.mem_cons.1 ((h t).2 (by simp)) with p | p
        · exact p.symm
        · have a := h2.1 s q
          have b := h1.1 t p
          have := cmp_flip (a := s.m) (b := t.m)
          omega
    subst he
    congr 1
    refine rise_one S T h1.2 h2.2 fun e => ?_
    have hne : ∀ {L : List En}, (∀ a ∈ L, cmpM s.m a.m < 0) → s ∉ L := fun hL hm => by have := hL s hm; rw [cmp_self] at this; omega
    constructor
    · intro he
      rcases List.mem_cons.1 ((h e).1 (by simp [he])) with rfl | q
      · exact absurd he (hne h1.1)
      · exact q
    · intro he
      rcases List.mem_cons.1 ((h e).2 (by simp [he])) with rfl | q
      · exact absurd he (hne h2.1)
      · exact q
/-- one of each mark -/
theorem Rise.one {S : List En} (h : Rise S) {a b : En} (ha : a ∈ S) (hb : b ∈ S) (hm : a.m = b.m) : a = b := by
  obtain ⟨i, hi⟩ := List.getElem?_of_mem ha
  obtain ⟨j, hj⟩ := List.getElem?_of_mem hb
  rcases Nat.lt_trichotomy i j with q | q | q
  · have := h.ne q hi hj; rw [hm, cmp_self] at this; omega
  · subst q; rw [hi] at hj; injection hj
  · have := h.ne q hj hi; rw [hm, cmp_self] at this; omega

/-- is l[i] the first that may be of its mark? -/
def First (l : List En) (i : Nat) (e : En) : Prop := l[i]? = some e ∧ fineE e = true ∧ ∀ k, k < i → ∀ x, l[k]? = some x → fineE x = true → x.m ≠ e.m
/-- what l comes to, put one by one -/
def Built (l S : List En) : Prop := Rise S ∧ ∀ e, e ∈ S ↔ ∃ i, First l i e
theorem First.lt {l : List En} {i : Nat} {e : En} (h : First l i e) : i < l.length := (List.getElem?_eq_some_iff.1 h.1).1
theorem first_app {l l' : List En} {i : Nat} {e : En} (hi : i < l.length) : First (l ++ l') i e ↔ First l i e := by
  unfold First
  rw [List.getElem?_append_left hi]
  refine and_congr_right fun _ => and_congr_right fun _ => ?_
  constructor
  · intro h k hk x hx; exact h k hk x (by rw [List.getElem?_append_left (by omega)]; exact hx)
  · intro h k hk x hx; exact h k hk x (by rw [List.getElem?_append_left (by omega)] at hx; exact hx)
theorem Built.nil : Built [] [] := ⟨List.Pairwise.nil, fun e => by simp [First]⟩
/-- is there one of that mark that may be? -/
def thereE (l : List En) (m : Mk) : Prop := ∃ (k : Nat) (x : En), l[k]? = some x ∧ fineE x = true ∧ x.m = m
theorem Built.there {l S : List En} (h : Built l S) (m : Mk) : thereE l m ↔ ∃ e ∈ S, e.m = m := by
  constructor
  · rintro ⟨k, x, hk, hf, hm⟩
    -- the first such
    have : ∃ i e, First l i e ∧ e.m = m := by
      induction k using Nat.strongRecOn generalizing x with
      | _ k ih =>
        by_cases hq : ∃ j, j < k ∧ ∃ y, l[j]? = some y ∧ fineE y = true ∧ y.m = m
        · obtain ⟨j, hj, y, h1, h2, h3⟩ := hq
          exact ih j hj y h1 h2 h3
        · exact ⟨k, x, ⟨hk, hf, fun j hj y h1 h2 h3 => hq ⟨j, hj, y, h1, h2, h3.trans hm⟩⟩, hm⟩
    obtain ⟨i, e, hF, he⟩ := this
    exact ⟨e, (h.2 e).2 ⟨i, hF⟩, he⟩
  · rintro ⟨e, he, hm⟩
    obtain ⟨i, hF⟩ := (h.2 e).1 he
    exact ⟨i, e, hF.1, hF.2.1, hm⟩
theorem Built.bad {l S : List En} (h : Built l S) {x : En} (hx : fineE x = false) : Built (l ++ [x]) S := by
  refine ⟨h.1, fun e => (h.2 e).trans ⟨fun ⟨i, hi⟩ => ⟨i, (first_app hi.lt).2 hi⟩, fun ⟨i, hi⟩ => ?_⟩⟩
  by_cases hl : i < l.length
  · exact ⟨i, (first_app hl).1 hi⟩
  · have hlt := hi.lt
    rw [List.length_append, List.length_singleton] at hlt
    have he := hi.1
    rw [List.getElem?_append_right (by omega), show i - l.length = 0 from by omega] at he
    simp at he; subst he
    rw [hi.2.1] at hx; cases hx
theorem Built.dup {l S : List En} (h : Built l S) {x : En} (hx : thereE l x.m) : Built (l ++ [x]) S := by
  refine ⟨h.1, fun e => (h.2 e).trans ⟨fun ⟨i, hi⟩ => ⟨i, (first_app hi.lt).2 hi⟩, fun ⟨i, hi⟩ => ?_⟩⟩
  by_cases hl : i < l.length
  · exact ⟨i, (first_app hl).1 hi⟩
  · have hlt := hi.lt
    rw [List.length_append, List.length_singleton] at hlt
    have he := hi.1
    rw [List.getElem?_append_right (by omega), show i - l.length = 0 from by omega] at he
    simp at he; subst he
    obtain ⟨k, y, hk, hf, hm⟩ := hx
    have hkl := (List.getElem?_eq_some_iff.1 hk).1
    exact absurd hm (hi.2.2 k (by omega) y (by rw [List.getElem?_append_left hkl]; exact hk) hf)
theorem Built.new {l S : List En} (h : Built l S) {x : En} (hf : fineE x = true) (hx : ¬ thereE l x.m) : Built (l ++ [x]) (insE x S) := by
  refine ⟨h.1.ins x fun e he hm => hx ((h.there x.m).2 ⟨e, he, hm⟩), fun e => (mem_insE x S e).trans ?_⟩
  constructor
  · rintro (rfl | he)
    · refine ⟨l.length, by simp, hf, fun k hk y hy hfy hm => hx ⟨k, y, ?_, hfy, hm⟩⟩
      rw [List.getElem?_append_left hk] at hy; exact hy
    · obtain ⟨i, hi⟩ := (h.2 e).1 he
      exact ⟨i, (first_app hi.lt).2 hi⟩
  · rintro ⟨i, hi⟩
    by_cases hl : i < l.length
    · exact .inr ((h.2 e).2 ⟨i, (first_app hl).1 hi⟩)
    · have hlt := hi.lt
      rw [List.length_append, List.length_singleton] at hlt
      have he := hi.1
      rw [List.getElem?_append_right (by omega), show i - l.length = 0 from by omega] at he
      simp at he; exact .inl he.symm
theorem Built.fine {l S : List En} (h : Built l S) : ∀ e ∈ S, fineE e = true := fun e he => by
  obtain ⟨i, hi⟩ := (h.2 e).1 he; exact hi.2.1
theorem esum_insE (x : En) (S : List En) : esum (insE x S) = esum S + (x.m.k.size + x.x.size) := by
  unfold insE esum
  have h := congrArg (fun L : List En => (L.map fun e => e.m.k.size + e.x.size).sum) (List.takeWhile_append_dropWhile (p := bef x.m) (l := S))
  simp only [List.map_append, List.sum_append] at h
  simp only [List.map_append, List.map_cons, List.sum_append, List.sum_cons]
  omega
end Go.Proofs.YtbbimfbkllellaaGreatDoor
