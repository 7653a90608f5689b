/-
  Plain mathematics: lists of entries merged into one by a heap of those that wait.
-/
import Derived.Test.YtoljldokehfokaaPlTx
namespace Go.Proofs.Ytoljldokehfokaa
open Go.RowKit
set_option linter.unusedVariables false

/-- stands no later than -/
def LeE (a b : En) : Prop := cmpM a.m b.m ≤ 0
theorem leE_refl (a : En) : LeE a a := by unfold LeE; rw [cmp_self]; decide
theorem leE_trans {a b d : En} (h : LeE a b) (h2 : LeE b d) : LeE a d := by
  unfold LeE at h h2 ⊢
  rcases tri_M.three a.m b.m with e | e | e
  · rcases tri_M.three b.m d.m with e2 | e2 | e2
    · have := cmp_trans (a := a.m) (b := b.m) (d := d.m) (by omega) (by omega); omega
    · rw [← tri_M.same _ _ e2]; exact h
    · omega
  · rw [tri_M.same _ _ e]; exact h2
  · omega
theorem leE_of_lt {a b : En} (h : cmpM a.m b.m < 0) : LeE a b := by unfold LeE; omega
theorem leE_of_not {a b : En} (h : ¬ cmpM b.m a.m < 0) : LeE a b := by unfold LeE; have := cmp_flip (a := a.m) (b := b.m); omega

/-- a list that waits: where it lies, how many it has, its room, its entries -/
structure Ls where
  A : Option Addr
  n : Nat
  c : Nat
  l : List En
def Ls.v (r : Ls) : Value := .slice r.A r.n r.c
/-- the first entry of the list at a place -/
def hd (H : List Ls) (i : Nat) : Option En := (H[i]?).bind fun r => r.l.head?
theorem hd_none {H : List Ls} {i : Nat} (h : H.length ≤ i) : hd H i = none := by unfold hd; rw [List.getElem?_eq_none h]; rfl
theorem hd_lt {H : List Ls} {i : Nat} {x : En} (h : hd H i = some x) : i < H.length := by
  rcases Nat.lt_or_ge i H.length with q | q
  · exact q
  · rw [hd_none q] at h; cases h
/-- who stands at a place comes no later than those below it -/
def HAt (H : List Ls) (i : Nat) : Prop := ∀ c x y, (c = 2 * i + 1 ∨ c = 2 * i + 2) → hd H i = some x → hd H c = some y → LeE x y
theorem hAt_big {H : List Ls} {i : Nat} (h : H.length ≤ 2 * i + 1) : HAt H i := fun c x y hc _ hy => by have := hd_lt hy; omega
/-- none of them is empty -/
def NE (H : List Ls) : Prop := ∀ r ∈ H, r.l ≠ []
theorem NE.perm {H H' : List Ls} (h : NE H) (hp : H'.Perm H) : NE H' := fun r hr => h r (hp.mem_iff.1 hr)
theorem NE.hd {H : List Ls} (h : NE H) {i : Nat} (hi : i < H.length) : ∃ x, Go.Proofs.Ytoljldokehfokaa.hd H i = some x := by
  unfold Go.Proofs.Ytoljldokehfokaa.hd
  rw [List.getElem?_eq_getElem hi]
  cases e : H[i].l with
  | nil => exact absurd e (h _ (List.getElem_mem hi))
  | cons x t => exact ⟨x, by simp [e]⟩
/-- the first of all comes no later than any -/
theorem root_le {H : List Ls} (hn : NE H) (hh : ∀ i, HAt H i) : ∀ (i : Nat) (x y : En), hd H 0 = some x → hd H i = some y → LeE x y := by
  intro i
  induction i using Nat.strongRecOn with
  | ind i ih =>
    intro x y hx hy
    by_cases h0 : i = 0
    · subst h0; rw [hx] at hy; injection hy with hy; subst hy; exact leE_refl _
    · obtain ⟨z, hz⟩ := hn.hd (i := (i - 1) / 2) (by have := hd_lt hy; omega)
      exact leE_trans (ih ((i - 1) / 2) (by omega) x z hx hz) (hh _ i z y (by omega) hz hy)

/-- two change their places -/
def swp (H : List Ls) (i j : Nat) (a b : Ls) : List Ls := (H.set i b).set j a
theorem swp_len (H : List Ls) (i j : Nat) (a b : Ls) : (swp H i j a b).length = H.length := by simp [swp]
theorem swp_perm {H : List Ls} {i j : Nat} {a b : Ls} (ha : H[i]? = some a) (hb : H[j]? = some b) : (swp H i j a b).Perm H := by
  obtain ⟨hi, rfl⟩ := List.getElem?_eq_some_iff.1 ha
  obtain ⟨hj, rfl⟩ := List.getElem?_eq_some_iff.1 hb
  exact List.set_set_perm hi hj
theorem swp_hd {H : List Ls} {i j : Nat} {a b : Ls} (ha : H[i]? = some a) (hb : H[j]? = some b) (k : Nat) : hd (swp H i j a b) k = if k = j then hd H i else if k = i then hd H j else hd H k := by
  obtain ⟨hi, _⟩ := List.getElem?_eq_some_iff.1 ha
  obtain ⟨hj, _⟩ := List.getElem?_eq_some_iff.1 hb
  unfold hd swp
  by_cases e : k = j
  · subst e
    rw [if_pos rfl, ha, List.getElem?_set]
    simp [hj]
  · rw [if_neg e, List.getElem?_set, if_neg (fun q => e q.symm)]
    by_cases e2 : k = i
    · subst e2
      rw [if_pos rfl, hb, List.getElem?_set]
      simp [hi]
    · rw [if_neg e2, List.getElem?_set, if_neg (fun q => e2 q.symm)]

/-- what sinking keeps: all from a place on are in order but for one, which is on its way -/
structure Snk (H0 : List Ls) (a0 at_ : Nat) (H : List Ls) : Prop where
  perm : H.Perm H0
  ge : a0 ≤ at_
  ok : ∀ i, a0 ≤ i → i ≠ at_ → HAt H i
  up : ∀ p, a0 ≤ p → (at_ = 2 * p + 1 ∨ at_ = 2 * p + 2) → ∀ c x y, (c = 2 * at_ + 1 ∨ c = 2 * at_ + 2) → hd H p = some x → hd H c = some y → LeE x y
theorem Snk.start {H : List Ls} {a0 : Nat} (h : ∀ i, a0 < i → HAt H i) : Snk H a0 a0 H :=
  ⟨List.Perm.refl _, Nat.le_refl _, fun i h1 h2 => h i (by omega), fun p h1 h2 => by omega⟩
/-- it stands where it stays -/
theorem Snk.done {H0 H : List Ls} {a0 at_ : Nat} (h : Snk H0 a0 at_ H) (hs : HAt H at_) : ∀ i, a0 ≤ i → HAt H i := fun i hi => by
  by_cases e : i = at_
  · subst e; exact hs
  · exact h.ok i hi e
/-- a step down, to the one that comes first -/
theorem Snk.step {H0 H : List Ls} {a0 at_ f : Nat} {a b : Ls} (h : Snk H0 a0 at_ H) (hf : f = 2 * at_ + 1 ∨ f = 2 * at_ + 2) (ha : H[at_]? = some a) (hb : H[f]? = some b)
    (h1 : ∀ x y, hd H f = some x → hd H at_ = some y → LeE x y) (h2 : ∀ c x y, (c = 2 * at_ + 1 ∨ c = 2 * at_ + 2) → hd H f = some x → hd H c = some y → LeE x y) : Snk H0 a0 f (swp H at_ f a b) := by
  refine ⟨(swp_perm ha hb).trans h.perm, by have := h.ge; omega, fun i hi hne c x y hc hx hy => ?_, fun p hp hpf c x y hc hx hy => ?_⟩
  · rw [swp_hd ha hb] at hx hy
    rw [if_neg hne] at hx
    by_cases e : i = at_
    · subst e
      rw [if_pos rfl] at hx
      by_cases e2 : c = f
      · subst e2; rw [if_pos rfl] at hy; exact h1 x y hx hy
      · rw [if_neg e2, if_neg (by omega)] at hy
        exact h2 c x y hc hx hy
    · rw [if_neg e] at hx
      by_cases e2 : c = f
      · omega
      · rw [if_neg e2] at hy
        by_cases e3 : c = at_
        · subst e3
          rw [if_pos rfl] at hy
          exact h.up i hi hc f x y hf hx hy
        · rw [if_neg e3] at hy
          exact h.ok i hi e c x y hc hx hy
  · obtain rfl : p = at_ := by omega
    rw [swp_hd ha hb] at hx hy
    rw [if_neg (by omega), if_pos rfl] at hx
    rw [if_neg (by omega), if_neg (by omega)] at hy
    exact h.ok f (by have := h.ge; omega) (by omega) c x y hc hx hy

/-- what is merged so far, and what waits -/
structure MgI (L : List (List En)) (out : List En) (H : List (List En)) : Prop where
  perm : (out ++ H.flatten).Perm L.flatten
  subs : ∀ l ∈ L, l.Sublist out ∨ ∃ h ∈ H, l.Sublist (out ++ h)
  srt : (∀ l ∈ L, l.Pairwise LeE) → out.Pairwise LeE ∧ (∀ h ∈ H, h.Pairwise LeE) ∧ ∀ a ∈ out, ∀ h ∈ H, ∀ b ∈ h, LeE a b
theorem MgI.start {L H : List (List En)} (hp : H.Perm (L.filter fun l => !l.isEmpty)) : MgI L [] H := by
  have hf : (L.filter fun l => !l.isEmpty).flatten = L.flatten := by
    induction L with
    | nil => rfl
    | cons a L ih =>
      cases a with
      | nil => simp at hp ⊢; exact List.flatten_filter_not_isEmpty
      | cons x t => simp; exact List.flatten_filter_not_isEmpty
  refine ⟨by rw [List.nil_append, ← hf]; exact hp.flatten, fun l hl => ?_, fun h => ⟨List.Pairwise.nil, fun x hx => h x (List.mem_filter.1 (hp.mem_iff.1 hx)).1, fun a ha => by cases ha⟩⟩
  cases l with
  | nil => exact .inl (List.nil_sublist _)
  | cons x t => exact .inr ⟨x :: t, hp.mem_iff.2 (List.mem_filter.2 ⟨hl, rfl⟩), List.Sublist.refl _⟩
theorem MgI.perm_ {L H H' : List (List En)} {out : List En} (h : MgI L out H) (hp : H'.Perm H) : MgI L out H' :=
  ⟨(List.Perm.append_left _ hp.flatten).trans h.perm, fun l hl => (h.subs l hl).imp id fun ⟨x, hx, q⟩ => ⟨x, hp.mem_iff.2 hx, q⟩, fun q => ⟨(h.srt q).1, fun x hx => (h.srt q).2.1 x (hp.mem_iff.1 hx), fun a ha x hx => (h.srt q).2.2 a ha x (hp.mem_iff.1 hx)⟩⟩
/-- the first one is taken -/
theorem MgI.step {L R : List (List En)} {out t : List En} {x : En} (h : MgI L out ((x :: t) :: R)) (hx : ∀ r ∈ R, ∀ y, r.head? = some y → LeE x y) : MgI L (out ++ [x]) (if t = [] then R else t :: R) := by
  have e : (if t = [] then R else t :: R).flatten = t ++ R.flatten := by
    by_cases q : t = []
    · rw [if_pos q, q]; rfl
    · rw [if_neg q]; rfl
  have hm : ∀ r, r ∈ (if t = [] then R else t :: R) ↔ (r = t ∧ t ≠ []) ∨ r ∈ R := fun r => by
    by_cases q : t = []
    · rw [if_pos q]; exact ⟨.inr, fun z => z.elim (fun z => absurd q z.2) id⟩
    · rw [if_neg q, List.mem_cons]; exact ⟨fun z => z.imp (fun z => ⟨z, q⟩) id, fun z => z.imp (fun z => z.1) id⟩
  refine ⟨?_, fun l hl => ?_, fun q => ?_⟩
  · rw [e, List.append_assoc]; exact h.perm
  · rcases h.subs l hl with q | ⟨r, hr, q⟩
    · exact .inl (q.trans (List.sublist_append_left _ _))
    · rcases List.mem_cons.1 hr with rfl | hr
      · by_cases e2 : t = []
        · subst e2; exact .inl q
        · exact .inr ⟨t, (hm t).2 (.inl ⟨rfl, e2⟩), by rw [List.append_assoc]; exact q⟩
      · refine .inr ⟨r, (hm r).2 (.inr hr), q.trans ?_⟩
        exact List.Sublist.append (List.sublist_append_left _ _) (List.Sublist.refl _)
  · obtain ⟨h1, h2, h3⟩ := h.srt q
    have hxt := h2 (x :: t) (List.mem_cons_self ..)
    have hxa : ∀ r ∈ R, ∀ b ∈ r, LeE x b := fun r hr b hb => by
      cases r with
      | nil => cases hb
      | cons y s =>
        have hxy := hx _ hr y rfl
        rcases List.mem_cons.1 hb with rfl | hb
        · exact hxy
        · exact leE_trans hxy ((List.pairwise_cons.1 (h2 _ (List.mem_cons_of_mem _ hr))).1 b hb)
    refine ⟨List.pairwise_append.2 ⟨h1, List.pairwise_singleton _ _, fun a ha b hb => ?_⟩, fun r hr => ?_, fun a ha r hr b hb => ?_⟩
    · obtain rfl := List.mem_singleton.1 hb
      exact h3 a ha _ (List.mem_cons_self ..) _ (List.mem_cons_self ..)
    · rcases (hm r).1 hr with ⟨rfl, _⟩ | hr
      · exact (List.pairwise_cons.1 hxt).2
      · exact h2 r (List.mem_cons_of_mem _ hr)
    · rcases List.mem_append.1 ha with ha | ha
      · rcases (hm r).1 hr with ⟨rfl, _⟩ | hr
        · exact h3 a ha _ (List.mem_cons_self ..) b (List.mem_cons_of_mem _ hb)
        · exact h3 a ha r (List.mem_cons_of_mem _ hr) b hb
      · obtain rfl := List.mem_singleton.1 ha
        rcases (hm r).1 hr with ⟨rfl, _⟩ | hr
        · exact (List.pairwise_cons.1 hxt).1 b hb
        · exact hxa r hr b hb

/-- all are merged -/
structure MgO (L : List (List En)) (out : List En) : Prop where
  perm : out.Perm L.flatten
  subs : ∀ l ∈ L, l.Sublist out
  srt : (∀ l ∈ L, l.Pairwise LeE) → out.Pairwise LeE
theorem MgI.done {L : List (List En)} {out : List En} (h : MgI L out []) : MgO L out :=
  ⟨by have := h.perm; simpa using this, fun l hl => (h.subs l hl).elim id (fun ⟨x, hx, _⟩ => absurd hx List.not_mem_nil), fun q => (h.srt q).1⟩
instance (S : List En) : Decidable (Rise S) := inferInstanceAs (Decidable (S.Pairwise _))
/-- what comes of lists: all in order, if they rise, and no mark is in two -/
def mgL (L : List (List En)) (S : List En) : Prop := (∀ l ∈ L, Rise l) ∧ S.Perm L.flatten ∧ Rise S
theorem rise_le {S : List En} (h : Rise S) : S.Pairwise LeE := h.imp fun q => leE_of_lt q
theorem riseE_one {S T : List En} (h : Rise S) (h2 : Rise T) (hp : S.Perm T) : S = T := rise_one S T h h2 fun e => hp.mem_iff
theorem MgO.yes {L : List (List En)} {out : List En} (h : MgO L out) (hr : Rise out) : mgL L out := ⟨fun l hl => hr.sublist (h.subs l hl), h.perm, hr⟩
/-- a list in order whose marks are those of one that rises -/
theorem MgO.no {L : List (List En)} {out S : List En} (h : MgO L out) (hm : mgL L S) : out = S := by
  have h1 := h.srt fun l hl => rise_le (hm.1 l hl)
  have hp := h.perm.trans hm.2.1.symm
  refine List.Perm.eq_of_pairwise (le := LeE) (fun a b ha hb q q2 => ?_) h1 (rise_le hm.2.2) hp
  have ha2 := hp.mem_iff.1 ha
  obtain ⟨i, hi, rfl⟩ := List.getElem_of_mem ha2
  obtain ⟨j, hj, rfl⟩ := List.getElem_of_mem hb
  have e0 : cmpM S[i].m S[j].m = 0 := by unfold LeE at q q2; have := cmp_flip (a := S[i].m) (b := S[j].m); omega
  rcases Nat.lt_trichotomy i j with e | e | e
  · have := List.pairwise_iff_getElem.1 hm.2.2 i j hi hj e; omega
  · subst e; rfl
  · have := List.pairwise_iff_getElem.1 hm.2.2 j i hj hi e; have := cmp_flip (a := S[i].m) (b := S[j].m); omega
end Go.Proofs.Ytoljldokehfokaa
