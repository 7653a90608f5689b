/-
  The laws' Book: kinds beside each other: blocks of other types are not written.
-/
import Derived.Test.YtjnmckchicmmgaaGreatDoorBkA
namespace Go.Proofs.YtjnmckchicmmgaaGreatDoor
open Go.RowKit
set_option linter.unusedVariables false
set_option maxRecDepth 100000

/-- is i a block of that type? -/
def Ty (w : World) (t : TypeId) (i : Nat) : Prop := ∃ c fz, w.heap[i]? = some (.cells c t fz)
theorem Ty.ne {w : World} {t t' : TypeId} {i : Nat} {c : Array Value} {fz : Nat × Nat} (h : Ty w t i) (h' : w.heap[i]? = some (.cells c t' fz)) : t = t' := by
  obtain ⟨c2, fz2, e⟩ := h
  rw [h'] at e
  injection e with e
  injection e with _ e
  exact e.symm
theorem own_ty {w w' : World} {base e k n : Nat} {v : Value} {xs : List Value} (h : w.ownsRow base e k v n xs) (hk : ∀ i, Ty w e i → w'.heap[i]? = w.heap[i]?) : w'.ownsRow base e k v n xs := by
  refine ⟨h.1, ?_⟩
  rcases h.2 with h2 | ⟨g, cap, cur, hv, hg, hh, r⟩
  · exact .inl h2
  · exact .inr ⟨g, cap, cur, hv, hg, (hk g ⟨_, _, hh⟩).trans hh, r⟩
theorem Ty.lt {w : World} {t : TypeId} {i : Nat} (h : Ty w t i) : i < w.heap.size := by obtain ⟨c, fz, e⟩ := h; exact (Array.getElem?_eq_some_iff.1 e).1
theorem ty_own {w : World} {base e k n i : Nat} {v : Value} {xs : List Value} (h : w.ownsRow base e k v n xs) (hi : v.ownBlock = some i) : Ty w e i := by
  rcases h.2 with ⟨h2, _⟩ | ⟨g', cap, cur, hv, _, hh, _⟩
  · rw [h2] at hi; cases hi
  · rw [hv] at hi; injection hi with hi; subst hi; exact ⟨_, _, hh⟩
theorem Ty.uniq {w : World} {t t' : TypeId} {i : Nat} (h : Ty w t i) (h' : Ty w t' i) : t = t' := by obtain ⟨c, fz, e⟩ := h'; exact h.ne e
/-- all of these blocks are of other types -/
def Off (w : World) (e : TypeId) (S : Nat → Prop) : Prop := ∀ i, S i → ∃ t, t ≠ e ∧ Ty w t i
theorem Off.row {w w' : World} {e : TypeId} {S : Nat → Prop} (hS : Off w e S) (hw : Wrote S w w') {base k n : Nat} {v : Value} {xs : List Value} (h : w.ownsRow base e k v n xs) : w'.ownsRow base e k v n xs :=
  hw.row h fun g hg hs => by obtain ⟨t, hne, ht⟩ := hS g hs; exact hne (ht.uniq (ty_own h hg))
theorem Off.filled {K : Kn} {w w' : World} {S : Nat → Prop} (hS : Off w K.e S) (hw : Wrote S w w') {base m : Nat} {ls : List BL} (h : Filled K w base ls m) : Filled K w' base ls m := fun i b hi => by
  obtain ⟨xs, hx, he⟩ := h i b hi
  exact ⟨xs, hS.row hw hx, he⟩
theorem Off.grw {K : Kn} {w w' : World} {S : Nat → Prop} (hS : Off w K.e S) (hw : Wrote S w w') {base m : Nat} {gs : List (BL × Value)} (h : Grw K w base gs m) : Grw K w' base gs m := fun i b lv hi => by
  obtain ⟨h1, h2, h3⟩ := h i b lv hi
  exact ⟨hS.row hw h1, fun hm => hS.row hw (h2 hm), h3⟩
theorem off_bks {K : Kn} {w : World} {base m : Nat} {ls : List BL} {e : TypeId} (h : Filled K w base ls m) (hne : K.e ≠ e) : Off w e (Bks ls) := fun i ⟨b, hb, hi⟩ => by
  obtain ⟨j, hj⟩ := List.getElem?_of_mem hb
  obtain ⟨xs, hx, _⟩ := h j b hj
  exact ⟨_, hne, ty_own hx hi⟩
theorem off_both {K : Kn} {w : World} {base m n : Nat} {ls : List BL} {e : TypeId} {vb : Value} {xs : List Value} (h : Filled K w base ls m) (ho : w.ownsRow base K.h 3 vb n xs) (h1 : K.e ≠ e) (h2 : K.h ≠ e) : Off w e (fun i => Bks ls i ∨ vb.ownBlock = some i) := fun i hi =>
  hi.elim (off_bks h h1 i) fun hi => ⟨_, h2, ty_own ho hi⟩
theorem off_none (w : World) (e : TypeId) : Off w e (fun i => (none : Option Nat) = some i) := fun i hi => by cases hi
theorem low_bks {K : Kn} {w : World} {base m : Nat} {ls : List BL} (h : Filled K w base ls m) : ∀ i, Bks ls i → base ≤ i := fun i ⟨b, hbm, hbi⟩ => by
  obtain ⟨j, hj⟩ := List.getElem?_of_mem hbm
  obtain ⟨xs, hx, _⟩ := h j b hj
  exact (hx.lt i hbi).1

/-- is it a list of the law's own, of that kind? -/
def Kdk (K : Kn) (w : World) (base : Nat) (b : BL) : Prop := ∃ xs, w.ownsRow base K.e K.sz b.v b.n xs
theorem own_keep {w w' : World} {base e k n : Nat} {v : Value} {xs : List Value} (h : w.ownsRow base e k v n xs) (hk : ∀ i, v.ownBlock = some i → w'.heap[i]? = w.heap[i]?) : w'.ownsRow base e k v n xs := by
  refine ⟨h.1, ?_⟩
  rcases h.2 with h2 | ⟨g, cap, cur, hv, hg, hh, r⟩
  · exact .inl h2
  · exact .inr ⟨g, cap, cur, hv, hg, (hk g (by rw [hv]; rfl)).trans hh, r⟩
theorem dis_snoc {ls : List BL} {b : BL} (h : Dis ls) (hK : ∀ b' ∈ ls, b'.v.ownBlock = none ∨ b'.v.ownBlock ≠ b.v.ownBlock) : Dis (ls ++ [b]) := by
  have hno : ∀ b' ∈ ls, b.v.ownBlock = none ∨ b.v.ownBlock ≠ b'.v.ownBlock := fun b' hb => by
    cases hv : b.v.ownBlock with
    | none => exact .inl rfl
    | some i =>
      refine .inr fun e => ?_
      rcases hK b' hb with q | q
      · rw [q] at e; cases e
      · exact q (e.symm.trans hv.symm)
  intro i j bi bj hij hi hj
  by_cases h1 : i < ls.length
  · rw [List.getElem?_append_left h1] at hi
    by_cases h2 : j < ls.length
    · rw [List.getElem?_append_left h2] at hj
      exact h i j bi bj hij hi hj
    · rw [List.getElem?_append_right (by omega)] at hj
      obtain ⟨_, hj⟩ := List.getElem?_eq_some_iff.1 hj
      simp at hj
      rw [← hj]
      exact hK bi (List.mem_of_getElem? hi)
  · rw [List.getElem?_append_right (by omega)] at hi
    obtain ⟨h3, hi⟩ := List.getElem?_eq_some_iff.1 hi
    simp at hi h3
    by_cases h2 : j < ls.length
    · rw [List.getElem?_append_left h2] at hj
      rw [← hi]
      exact hno bj (List.mem_of_getElem? hj)
    · rw [List.getElem?_append_right (by omega)] at hj
      obtain ⟨h4, hj⟩ := List.getElem?_eq_some_iff.1 hj
      simp at h4
      omega
end Go.Proofs.YtjnmckchicmmgaaGreatDoor
