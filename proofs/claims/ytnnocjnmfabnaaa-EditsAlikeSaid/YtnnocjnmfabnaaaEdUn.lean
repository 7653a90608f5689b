/-
  Layer 11's laws: an edit in a block of its own, whose two rows are its own.
-/
import Derived.Test.YtnnocjnmfabnaaaEdTn
namespace Go.Proofs.Ytnnocjnmfabnaaa
open Go.RowKit
set_option linter.unusedVariables false
set_option maxRecDepth 100000

theorem own_neU {w : World} {b1 e1 k1 n1 b2 e2 k2 n2 : Nat} {v1 v2 : Value} {x1 x2 : List Value} (h1 : w.ownsRow b1 e1 k1 v1 n1 x1) (h2 : w.ownsRow b2 e2 k2 v2 n2 x2) (hne : e1 ≠ e2) {i : Nat} (hi : v1.ownBlock = some i) : v2.ownBlock ≠ some i := by
  rcases h1.2 with ⟨rfl, _⟩ | ⟨g1, cap1, cur1, rfl, _, hh1, _⟩
  · cases hi
  · rcases h2.2 with ⟨rfl, _⟩ | ⟨g2, cap2, cur2, rfl, _, hh2, _⟩
    · intro h; cases h
    · intro he
      have e1 : g1 = i := by simpa [Value.ownBlock] using hi
      have e2 : g2 = i := by simpa [Value.ownBlock] using he
      subst e1 e2
      rw [hh1] at hh2
      injection hh2 with hh2
      injection hh2 with _ hh2
      exact hne hh2
theorem own_keepU {w w' : World} {base e k n : Nat} {v : Value} {xs : List Value} (h : w.ownsRow base e k v n xs) (hk : ∀ i, v.ownBlock = some i → w'.heap[i]? = w.heap[i]?) : w'.ownsRow base e k v n xs := by
  refine ⟨h.1, ?_⟩
  rcases h.2 with q | ⟨gg, cap, cur, hv, hgb, hh, r⟩
  · exact .inl q
  · refine .inr ⟨gg, cap, cur, hv, hgb, (hk gg (by rw [hv]; rfl)).trans hh, r⟩

structure Bx (w0 w : World) (g : Nat) (vA : Value) (nA : Nat) (R : List Nat) (vB : Value) (nB : Nat) (F : List Fi) : Prop where
  hg : w0.heap.size = g
  lo : Below g w0 w
  at_ : w.heap[g]? = some (.cells #[vB, vA, .int .u32 0, .int .u32 0, .int .u64 0] 27 (0, 0))
  r : w.ownsRow (g + 1) 24 1 vA nA (kvs R)
  f : w.ownsRow (g + 1) 37 4 vB nB (fcs F)
section
variable {w0 w w2 : World} {g nA nB : Nat} {vA vB : Value} {R : List Nat} {F : List Fi}
theorem Bx.lt (h : Bx w0 w g vA nA R vB nB F) : g < w.heap.size := (Array.getElem?_eq_some_iff.1 h.at_).1
theorem Bx.new (w0 : World) : Bx w0 (w0.alloc (.cells #[.slice none 0 0, .slice none 0 0, .int .u32 0, .int .u32 0, .int .u64 0] 27)) w0.heap.size (.slice none 0 0) 0 [] (.slice none 0 0) 0 [] :=
  ⟨rfl, al_below w0 _, heap_alloc_new w0 _, ⟨rfl, .inl ⟨rfl, rfl⟩⟩, ⟨rfl, .inl ⟨rfl, rfl⟩⟩⟩
theorem Bx.up (h : Bx w0 w g vA nA R vB nB F) (hb : Below w.heap.size w w2) : Bx w0 w2 g vA nA R vB nB F :=
  ⟨h.hg, h.lo.trans (hb.mono (Nat.le_of_lt h.lt)), (hb.block g h.lt).trans h.at_, own_below h.r hb, own_below h.f hb⟩
theorem Bx.cells (h : Bx w0 w g vA nA R vB nB F) : w.cell? ⟨g, 0, none⟩ = some vB ∧ w.cell? ⟨g, 1, none⟩ = some vA ∧ w.cell? ⟨g, 2, none⟩ = some (.int .u32 0) ∧ w.cell? ⟨g, 3, none⟩ = some (.int .u32 0) ∧ w.cell? ⟨g, 4, none⟩ = some (.int .u64 0) :=
  ⟨cell_of_row _ _ 0 _ _ (0, 0) h.at_, cell_of_row _ _ 1 _ _ (0, 0) h.at_, cell_of_row _ _ 2 _ _ (0, 0) h.at_, cell_of_row _ _ 3 _ _ (0, 0) h.at_, cell_of_row _ _ 4 _ _ (0, 0) h.at_⟩
theorem Bx.frozen (h : Bx w0 w g vA nA R vB nB F) (i : Nat) : w.frozen? ⟨g, i, none⟩ = false := by
  have := h.at_
  simp [World.frozen?, this]
/-- behind an append to the numbers -/
theorem Bx.midR (h : Bx w0 w g vA nA R vB nB F) (hgr : w.grownBy w2 vA.ownBlock) : w2.heap[g]? = some (.cells #[vB, vA, .int .u32 0, .int .u32 0, .int .u64 0] 27 (0, 0)) :=
  (hgr.block g h.lt (fun e => by have := (h.r.lt g e.symm).1; omega)).trans h.at_
theorem Bx.midF (h : Bx w0 w g vA nA R vB nB F) (hgr : w.grownBy w2 vB.ownBlock) : w2.heap[g]? = some (.cells #[vB, vA, .int .u32 0, .int .u32 0, .int .u64 0] 27 (0, 0)) :=
  (hgr.block g h.lt (fun e => by have := (h.f.lt g e.symm).1; omega)).trans h.at_
theorem Bx.setR (h : Bx w0 w g vA nA R vB nB F) {v : Value} {n : Nat} {R' : List Nat} (hgr : w.grownBy w2 vA.ownBlock) (ho : w2.ownsRow (g + 1) 24 1 v n (kvs R')) : Bx w0 (w2.setCell ⟨g, 1, none⟩ v) g v n R' vB nB F := by
  have hm := h.midR hgr
  refine ⟨h.hg, ?_, ?_, own_gr ho (grE_set w2 ⟨g, 1, none⟩ v) (Nat.lt_succ_self g), own_gr (own_keepU h.f fun i hi => ?_) (grE_set w2 ⟨g, 1, none⟩ v) (Nat.lt_succ_self g)⟩
  · exact (h.lo.grown hgr (Nat.le_of_lt h.lt) (fun k hk => by have := (h.r.lt k hk).1; omega)).grown (grE_set w2 ⟨g, 1, none⟩ v) (by have := hgr.size; have := h.lt; omega) (fun k hk => by simp at hk; omega)
  · simp [World.setCell, Array.getElem?_modify, hm]
  · have hlt := (h.f.lt i hi).2
    exact hgr.block i hlt (fun e => own_neU h.f h.r (by decide) hi e.symm)
theorem Bx.setF (h : Bx w0 w g vA nA R vB nB F) {v : Value} {n : Nat} {F' : List Fi} (hgr : w.grownBy w2 vB.ownBlock) (ho : w2.ownsRow (g + 1) 37 4 v n (fcs F')) : Bx w0 (w2.setCell ⟨g, 0, none⟩ v) g vA nA R v n F' := by
  have hm := h.midF hgr
  refine ⟨h.hg, ?_, ?_, own_gr (own_keepU h.r fun i hi => ?_) (grE_set w2 ⟨g, 0, none⟩ v) (Nat.lt_succ_self g), own_gr ho (grE_set w2 ⟨g, 0, none⟩ v) (Nat.lt_succ_self g)⟩
  · exact (h.lo.grown hgr (Nat.le_of_lt h.lt) (fun k hk => by have := (h.f.lt k hk).1; omega)).grown (grE_set w2 ⟨g, 0, none⟩ v) (by have := hgr.size; have := h.lt; omega) (fun k hk => by simp at hk; omega)
  · simp [World.setCell, Array.getElem?_modify, hm]
  · have hlt := (h.r.lt i hi).2
    exact hgr.block i hlt (fun e => own_neU h.r h.f (by decide) hi e.symm)
end
theorem gone_take {l : List Fi} {r : List Nat} {k : Nat} {f : Fi} (h : l[k]? = some f) : gone (l.take (k + 1)) r = gone (l.take k) r ++ (if r.contains f.num then [f] else []) := by
  unfold gone
  rw [List.take_add_one, h, List.filter_append]
  congr 1
  show List.filter (fun f : Fi => r.contains f.num) [f] = _
  rw [List.filter_cons, List.filter_nil]
end Go.Proofs.Ytnnocjnmfabnaaa
