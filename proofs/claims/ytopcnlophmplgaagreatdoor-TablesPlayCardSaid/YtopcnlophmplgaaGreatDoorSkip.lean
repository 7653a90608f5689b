/-
  A skip list as a list of nodes, head first: what each tower holds; what becomes of it where a node grows by one level.
-/
import Derived.Test.YtopcnlophmplgaaGreatDoorMarks
namespace Go.Proofs.YtopcnlophmplgaaGreatDoor
open Go.RowKit
set_option linter.unusedVariables false

/-- a node: its block, its entry, how tall it is -/
structure Nd where
  b : Nat
  e : En
  h : Nat
def Nd.up (n : Nd) : Nd := ⟨n.b, n.e, n.h + 1⟩

/-- the next one that is taller than j -/
def nxt (j : Nat) : List Nd → Option Nat
  | [] => none
  | n :: r => if j < n.h then some n.b else nxt j r
/-- what a tower holds at level j -/
def lnk (h : Nat) (r : List Nd) (j : Nat) : Option Nat := if j < h then nxt j r else none
def bp (o : Option Nat) : Value := .pointer (o.map fun b => ⟨b, 0, none⟩)
/-- a node's cells -/
def ncs (e : En) (h : Nat) (r : List Nd) : List Value := e.cs ++ (List.range 8).map fun j => bp (lnk h r j)

theorem ncs_len (e : En) (h : Nat) (r : List Nd) : (ncs e h r).length = 12 := by simp [ncs, En.cs]
theorem ncs_tower (e : En) (h : Nat) (r : List Nd) (j : Nat) (hj : j < 8) : (ncs e h r)[4 + j]? = some (bp (lnk h r j)) := by
  unfold ncs
  rw [List.getElem?_append_right (by simp [En.cs]), show 4 + j - e.cs.length = j from by simp [En.cs], List.getElem?_map, List.getElem?_range hj]; rfl
theorem ncs_congr (e : En) (h : Nat) {r r' : List Nd} (hh : ∀ j, j < 8 → j < h → nxt j r = nxt j r') : ncs e h r = ncs e h r' := by
  unfold ncs
  congr 1
  apply List.map_congr_left
  intro j hj
  have hj8 : j < 8 := by simpa using hj
  unfold lnk
  by_cases hl : j < h
  · rw [if_pos hl, if_pos hl, hh j hj8 hl]
  · rw [if_neg hl, if_neg hl]
theorem ncs_set (e : En) (h h' : Nat) (r r' : List Nd) (k : Nat) (hk : k < 8) (v : Option Nat) (hv : lnk h' r' k = v) (ho : ∀ j, j < 8 → j ≠ k → lnk h' r' j = lnk h r j) :
    (ncs e h r).set (4 + k) (bp v) = ncs e h' r' := by
  unfold ncs
  rw [List.set_append_right _ _ (by simp [En.cs]), show 4 + k - e.cs.length = k from by simp [En.cs]]
  congr 1
  apply List.ext_getElem?
  intro j
  by_cases hj : j < 8
  · by_cases he : k = j
    · subst he
      rw [List.getElem?_set_self (by simpa using hj), List.getElem?_map, List.getElem?_range hj, Option.map_some, hv]
    · rw [List.getElem?_set_ne he, List.getElem?_map, List.getElem?_map, List.getElem?_range hj, Option.map_some, Option.map_some, ho j hj (fun e => he e.symm)]
  · rw [List.getElem?_eq_none (by simpa using hj), List.getElem?_eq_none (by simpa using hj)]

theorem nxt_pass {j : Nat} {B : List Nd} (hB : ∀ x ∈ B, x.h ≤ j) (r : List Nd) : nxt j (B ++ r) = nxt j r := by
  induction B with
  | nil => rfl
  | cons x B ih =>
    rw [List.cons_append, nxt, if_neg (by have := hB x (by simp); omega)]
    exact ih fun y hy => hB y (by simp [hy])
theorem nxt_hit {j : Nat} (A : List Nd) (q : Nd) (hq : j < q.h) (r r' : List Nd) : nxt j (A ++ q :: r) = nxt j (A ++ q :: r') := by
  induction A with
  | nil => simp only [List.nil_append]; unfold nxt; rw [if_pos hq, if_pos hq]
  | cons x A ih => rw [List.cons_append, List.cons_append]; unfold nxt; rw [ih]
theorem nxt_tall {j : Nat} (A : List Nd) (n : Nd) (hj : j ≠ n.h) (r : List Nd) : nxt j (A ++ n.up :: r) = nxt j (A ++ n :: r) := by
  induction A with
  | nil =>
    simp only [List.nil_append]; unfold nxt
    by_cases h : j < n.h
    · rw [if_pos h, if_pos (by show j < n.h + 1; omega)]; rfl
    · rw [if_neg h, if_neg (by show ¬ j < n.h + 1; omega)]
  | cons x A ih => rw [List.cons_append, List.cons_append]; unfold nxt; rw [ih]
theorem nxt_flat {j : Nat} (A : List Nd) (n : Nd) (hn : n.h = 0) (r : List Nd) : nxt j (A ++ n :: r) = nxt j (A ++ r) := by
  induction A with
  | nil => simp only [List.nil_append]; rw [nxt, if_neg (by omega)]
  | cons x A ih => rw [List.cons_append, List.cons_append]; unfold nxt; rw [ih]

def Skip (w : World) : List Nd → Prop
  | [] => True
  | n :: r => w.heap[n.b]? = some (.cells (ncs n.e n.h r).toArray 140 (0, 0)) ∧ Skip w r

theorem Skip.keep {w W : World} {l : List Nd} (h : Skip w l) (hs : ∀ x ∈ l, W.heap[x.b]? = w.heap[x.b]?) : Skip W l := by
  induction l with
  | nil => trivial
  | cons n r ih => exact ⟨(hs n (by simp)).trans h.1, ih h.2 fun x hx => hs x (by simp [hx])⟩
theorem Skip.at_ {w : World} {A : List Nd} {n : Nd} {r : List Nd} (h : Skip w (A ++ n :: r)) : w.heap[n.b]? = some (.cells (ncs n.e n.h r).toArray 140 (0, 0)) := by
  induction A with
  | nil => exact h.1
  | cons x A ih => exact ih h.2
theorem Skip.lt {w : World} {l : List Nd} (h : Skip w l) {n : Nd} (hn : n ∈ l) : n.b < w.heap.size := by
  obtain ⟨A, r, rfl⟩ := List.append_of_mem hn
  exact (Array.getElem?_eq_some_iff.1 h.at_).1
theorem Skip.tower {w : World} {A : List Nd} {n : Nd} {r : List Nd} (h : Skip w (A ++ n :: r)) {j : Nat} (hj : j < 8) : w.cell? ⟨n.b, 4 + j, none⟩ = some (bp (lnk n.h r j)) := by
  rw [cell_of_row w n.b (4 + j) _ _ (0, 0) h.at_, List.getElem?_toArray]; exact ncs_tower _ _ _ j hj
theorem Skip.entry {w : World} {A : List Nd} {n : Nd} {r : List Nd} (h : Skip w (A ++ n :: r)) :
    w.cell? ⟨n.b, 0, none⟩ = some (.string n.e.m.k) ∧ w.cell? ⟨n.b, 1, none⟩ = some (.int .u64 (n.e.m.s : Int)) ∧ w.cell? ⟨n.b, 2, none⟩ = some (.bool n.e.m.g) ∧ w.cell? ⟨n.b, 3, none⟩ = some (.string n.e.x) :=
  ⟨cell_of_row w n.b 0 _ _ (0, 0) h.at_, cell_of_row w n.b 1 _ _ (0, 0) h.at_, cell_of_row w n.b 2 _ _ (0, 0) h.at_, cell_of_row w n.b 3 _ _ (0, 0) h.at_⟩

/-- a node of no height is seen by nobody -/
theorem Skip.flat {w : World} {A : List Nd} {n : Nd} {r : List Nd} (h : Skip w (A ++ r)) (hn : n.h = 0) (hb : w.heap[n.b]? = some (.cells (ncs n.e 0 r).toArray 140 (0, 0))) : Skip w (A ++ n :: r) := by
  induction A with
  | nil => exact ⟨by rw [hn]; exact hb, h⟩
  | cons x A ih => exact ⟨by rw [show (A.append (n :: r)) = A ++ n :: r from rfl, ncs_congr x.e x.h fun j _ _ => nxt_flat A n hn r]; exact h.1, ih h.2⟩

theorem Skip.raise {w W : World} {A B r : List Nd} {q n : Nd} (h : Skip w (A ++ q :: (B ++ n :: r))) (hq : n.h < q.h) (hB : ∀ x ∈ B, x.h ≤ n.h)
    (hs : ∀ x ∈ A ++ B ++ r, W.heap[x.b]? = w.heap[x.b]?)
    (hn : W.heap[n.b]? = some (.cells (ncs n.e (n.h + 1) r).toArray 140 (0, 0)))
    (hqW : W.heap[q.b]? = some (.cells (ncs q.e q.h (B ++ n.up :: r)).toArray 140 (0, 0))) :
    Skip W (A ++ q :: (B ++ n.up :: r)) := by
  have hBr : Skip W (B ++ n.up :: r) := by
    have h2 : Skip w (B ++ n :: r) := by
      clear hs
      induction A with
      | nil => exact h.2
      | cons x A ih => exact ih h.2
    have hs2 : ∀ x ∈ B ++ r, W.heap[x.b]? = w.heap[x.b]? := fun x hx => hs x (by simp at hx ⊢; rcases hx with hx | hx <;> simp [hx])
    clear hs h hqW
    induction B with
    | nil => exact ⟨hn, h2.2.keep fun x hx => hs2 x (by simpa using hx)⟩
    | cons x B ih =>
      refine ⟨?_, ih (fun y hy => hB y (by simp [hy])) h2.2 fun y hy => hs2 y (by simp at hy ⊢; exact .inr hy)⟩
      have hx := hB x (by simp)
      show W.heap[x.b]? = some (.cells (ncs x.e x.h (B ++ n.up :: r)).toArray 140 (0, 0))
      rw [ncs_congr x.e x.h fun j _ hj => nxt_tall B n (by omega) r, hs2 x (by simp)]
      exact h2.1
  induction A with
  | nil => exact ⟨hqW, hBr⟩
  | cons x A ih =>
    refine ⟨?_, ih h.2 fun y hy => hs y (by simp at hy ⊢; exact .inr hy)⟩
    show W.heap[x.b]? = some (.cells (ncs x.e x.h (A ++ q :: (B ++ n.up :: r))).toArray 140 (0, 0))
    rw [ncs_congr x.e x.h (r' := A ++ q :: (B ++ n :: r)) fun j _ _ => ?_, hs x (by simp)]
    · exact h.1
    · by_cases hj : j = n.h
      · subst hj; exact nxt_hit A q hq _ _
      · have := nxt_tall (A ++ q :: B) n hj r
        simpa using this

theorem ncs_up (n : Nd) (r : List Nd) (hk : n.h < 8) : ncs n.e (n.h + 1) r = (ncs n.e n.h r).set (4 + n.h) (bp (nxt n.h r)) := by
  refine (ncs_set n.e n.h (n.h + 1) r r n.h hk _ ?_ fun j _ hj => ?_).symm
  · unfold lnk; rw [if_pos (by omega)]
  · unfold lnk
    by_cases h : j < n.h
    · rw [if_pos h, if_pos (by omega)]
    · rw [if_neg h, if_neg (by omega)]
theorem ncs_led (q n : Nd) (B r : List Nd) (hk : n.h < 8) (hq : n.h < q.h) (hB : ∀ x ∈ B, x.h ≤ n.h) : ncs q.e q.h (B ++ n.up :: r) = (ncs q.e q.h (B ++ n :: r)).set (4 + n.h) (bp (some n.b)) := by
  refine (ncs_set q.e q.h q.h _ _ n.h hk _ ?_ fun j _ hj => ?_).symm
  · unfold lnk; rw [if_pos hq, nxt_pass hB]; unfold nxt; rw [if_pos (by show n.h < n.h + 1; omega)]; rfl
  · unfold lnk; rw [nxt_tall B n hj]
/-- what the one ahead holds at the level to come -/
theorem lnk_led (q n : Nd) (B r : List Nd) (hq : n.h < q.h) (hB : ∀ x ∈ B, x.h ≤ n.h) : lnk q.h (B ++ n :: r) n.h = nxt n.h r := by
  unfold lnk; rw [if_pos hq, nxt_pass hB, nxt, if_neg (by omega)]

theorem heap_set {w : World} {g i : Nat} {l : List Value} {t : TypeId} {fz : Nat × Nat} (h : w.heap[g]? = some (.cells l.toArray t fz)) (u : Value) : (w.setCell ⟨g, i, none⟩ u).heap[g]? = some (.cells (l.set i u).toArray t fz) := by
  simp [World.setCell, Array.getElem?_modify, h]

theorem Skip.raiseW {w : World} {A B r : List Nd} {q n : Nd} (h : Skip w (A ++ q :: (B ++ n :: r))) (hk : n.h < 8) (hq : n.h < q.h) (hB : ∀ x ∈ B, x.h ≤ n.h) (hnd : ((A ++ q :: (B ++ n :: r)).map Nd.b).Nodup) :
    Skip ((w.setCell ⟨n.b, 4 + n.h, none⟩ (bp (nxt n.h r))).setCell ⟨q.b, 4 + n.h, none⟩ (bp (some n.b))) (A ++ q :: (B ++ n.up :: r)) := by
  simp only [List.map_append, List.map_cons, List.nodup_append, List.nodup_cons, List.mem_append, List.mem_cons, List.mem_map] at hnd
  have hne : q.b ≠ n.b := fun e => hnd.2.1.1 (.inr (.inl e))
  have hsx : ∀ x ∈ A ++ B ++ r, x.b ≠ q.b ∧ x.b ≠ n.b := by
    intro x hx
    simp only [List.mem_append] at hx
    rcases hx with (hx | hx) | hx
    · exact ⟨hnd.2.2 _ ⟨x, hx, rfl⟩ _ (.inl rfl), hnd.2.2 _ ⟨x, hx, rfl⟩ _ (.inr (.inr (.inl rfl)))⟩
    · exact ⟨fun e => hnd.2.1.1 (.inl ⟨x, hx, e⟩), hnd.2.1.2.2.2 _ ⟨x, hx, rfl⟩ _ (.inl rfl)⟩
    · exact ⟨fun e => hnd.2.1.1 (.inr (.inr ⟨x, hx, e⟩)), fun e => hnd.2.1.2.2.1.1 ⟨x, hx, e⟩⟩
  have hnw : w.heap[n.b]? = some (.cells (ncs n.e n.h r).toArray 140 (0, 0)) := by
    have h' := h
    rw [show A ++ q :: (B ++ n :: r) = (A ++ q :: B) ++ n :: r from by simp] at h'
    exact h'.at_
  refine h.raise hq hB (fun x hx => ?_) ?_ ?_
  · obtain ⟨h1, h2⟩ := hsx x hx
    rw [Below.heap_setCell _ _ _ _ h1, Below.heap_setCell _ _ _ _ h2]
  · rw [Below.heap_setCell _ _ _ _ (Ne.symm hne), heap_set hnw, ncs_up n r hk]
  · have hqw : (w.setCell ⟨n.b, 4 + n.h, none⟩ (bp (nxt n.h r))).heap[q.b]? = some (.cells (ncs q.e q.h (B ++ n :: r)).toArray 140 (0, 0)) := by
      rw [Below.heap_setCell _ _ _ _ hne]; exact h.at_
    rw [heap_set hqw, ncs_led q n B r hk hq hB]
end Go.Proofs.YtopcnlophmplgaaGreatDoor
