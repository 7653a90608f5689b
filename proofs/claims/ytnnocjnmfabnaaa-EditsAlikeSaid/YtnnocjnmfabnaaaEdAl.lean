/-
  Layer 11's laws: a row of numbers whose places change; the order in which files stand.
-/
import Derived.Test.YtnnocjnmfabnaaaEdUn
import Derived.BigRegion
namespace Go.Proofs.Ytnnocjnmfabnaaa
open Go.RowKit
set_option linter.unusedVariables false
set_option maxRecDepth 100000

theorem own_setK {w : World} {base q n c i : Nat} {e : TypeId} {xs : List Value} (h : w.ownsRow base e 1 (.slice (some ⟨q, 0, none⟩) n c) n xs) (v : Value) : (w.setCell ⟨q, i, none⟩ v).ownsRow base e 1 (.slice (some ⟨q, 0, none⟩) n c) n (xs.set i v) := by
  rcases h.2 with ⟨e, _⟩ | ⟨g, cap, cur, e, hb, hh, h1, h2, h3, h4⟩
  · cases e
  · injection e with e1 e2 e3
    injection e1 with e1
    injection e1 with e1
    subst e1 e3
    refine ⟨by rw [List.length_set]; exact h.1, .inr ⟨q, c, cur.setIfInBounds i v, rfl, hb, by simp [World.setCell, Array.getElem?_modify, hh], h1, h2, by simpa using h3, ?_⟩⟩
    rw [← h4, Array.toList_setIfInBounds, List.take_set]
theorem kvs_set (R : List Nat) (i x : Nat) : (kvs R).set i (.int .u32 (x : Int)) = kvs (R.set i x) := by unfold kvs; rw [List.map_set]
theorem bx5 {w : World} {b : Nat} {v0 v1 v2 v3 v4 : Value} {t : TypeId} (h : w.heap[b]? = some (.cells #[v0, v1, v2, v3, v4] t (0, 0))) :
    w.cell? ⟨b, 0, none⟩ = some v0 ∧ w.cell? ⟨b, 1, none⟩ = some v1 ∧ w.cell? ⟨b, 2, none⟩ = some v2 ∧ w.cell? ⟨b, 3, none⟩ = some v3 ∧ w.cell? ⟨b, 4, none⟩ = some v4 ∧
    w.frozen? ⟨b, 0, none⟩ = false ∧ w.frozen? ⟨b, 1, none⟩ = false ∧ w.frozen? ⟨b, 2, none⟩ = false ∧ w.frozen? ⟨b, 3, none⟩ = false ∧ w.frozen? ⟨b, 4, none⟩ = false :=
  ⟨cell_of_row _ _ 0 _ _ (0, 0) h, cell_of_row _ _ 1 _ _ (0, 0) h, cell_of_row _ _ 2 _ _ (0, 0) h, cell_of_row _ _ 3 _ _ (0, 0) h, cell_of_row _ _ 4 _ _ (0, 0) h, by simp [World.frozen?, h], by simp [World.frozen?, h], by simp [World.frozen?, h], by simp [World.frozen?, h], by simp [World.frozen?, h]⟩
/-- an edit in a block of its own: its files lie, its numbers are its own row -/
structure By (w0 w : World) (gb : Nat) (At : Option Addr) (nt ct : Nat) (La : List Fi) (Ar : Option Addr) (n cr : Nat) (R : List Nat) : Prop where
  box : w.heap[gb]? = some (.cells #[.slice At nt ct, .slice Ar n cr, .int .u32 0, .int .u32 0, .int .u64 0] 27 (0, 0))
  row : w.ownsRow w0.heap.size 24 1 (.slice Ar n cr) n (kvs R)
  files : w.ownsRow w0.heap.size 37 4 (.slice At nt ct) nt (fcs La)
  lo : Below w0.heap.size w0 w
section
variable {w0 w : World} {gb nt ct n cr : Nat} {At Ar : Option Addr} {La : List Fi} {R : List Nat}
theorem By.cells (h : By w0 w gb At nt ct La Ar n cr R) : w.cell? ⟨gb, 0, none⟩ = some (.slice At nt ct) ∧ w.cell? ⟨gb, 1, none⟩ = some (.slice Ar n cr) ∧ w.cell? ⟨gb, 2, none⟩ = some (.int .u32 0) ∧ w.cell? ⟨gb, 3, none⟩ = some (.int .u32 0) ∧ w.cell? ⟨gb, 4, none⟩ = some (.int .u64 0) :=
  ⟨cell_of_row _ _ 0 _ _ (0, 0) h.box, cell_of_row _ _ 1 _ _ (0, 0) h.box, cell_of_row _ _ 2 _ _ (0, 0) h.box, cell_of_row _ _ 3 _ _ (0, 0) h.box, cell_of_row _ _ 4 _ _ (0, 0) h.box⟩
/-- two numbers change their places -/
theorem By.swap (h : By w0 w gb At nt ct La Ar n cr R) (hn : R.length = n) {i k x y : Nat} (hx : R[i]? = some x) (hy : R[k]? = some y) :
    ∃ q, Ar = some ⟨q, 0, none⟩ ∧ w.cell? ⟨q, i, none⟩ = some (.int .u32 (x : Int)) ∧ w.cell? ⟨q, k, none⟩ = some (.int .u32 (y : Int)) ∧ w.frozen? ⟨q, i, none⟩ = false ∧ w.frozen? ⟨q, k, none⟩ = false ∧ q ≠ gb ∧
      By w0 ((w.setCell ⟨q, i, none⟩ (.int .u32 (y : Int))).setCell ⟨q, k, none⟩ (.int .u32 (x : Int))).drew gb At nt ct La Ar n cr ((R.set i y).set k x) ∧ ((R.set i y).set k x).Perm R := by
  have hi := (List.getElem?_eq_some_iff.1 hx).1
  have hp : ((R.set i y).set k x).Perm R := by
    obtain ⟨h1, rfl⟩ := List.getElem?_eq_some_iff.1 hx
    obtain ⟨h2, rfl⟩ := List.getElem?_eq_some_iff.1 hy
    exact List.set_set_perm h1 h2
  have hr := h.row
  rcases hr.2 with ⟨_, h0⟩ | ⟨q, cap, cur, e, hb, hh, h1, h2, h3, h4⟩
  · omega
  · injection e with e1 e2 e3
    subst e1 e3
    have hc : ∀ {j z : Nat}, R[j]? = some z → w.cell? ⟨q, j, none⟩ = some (.int .u32 (z : Int)) := fun {j z} hz => by
      have hjl := (List.getElem?_eq_some_iff.1 hz).1
      have e : (kvs R)[j]? = some (.int .u32 (z : Int)) := by unfold kvs; rw [List.getElem?_map, hz]; rfl
      rw [← h4, List.getElem?_take_of_lt (by omega)] at e
      rw [cell_of_row _ _ j _ _ (0, 0) hh, ← Array.getElem?_toList]; exact e
    have hqg : q ≠ gb := by
      rintro rfl
      have := h.box
      rw [hh] at this
      injection this with this
      injection this with _ this
      cases this
    have hk : ∀ j, j ≠ q → ((w.setCell ⟨q, i, none⟩ (.int .u32 (y : Int))).setCell ⟨q, k, none⟩ (.int .u32 (x : Int))).drew.heap[j]? = w.heap[j]? := fun j hj => (Below.heap_setCell _ _ _ _ hj).trans (Below.heap_setCell _ _ _ _ hj)
    refine ⟨q, rfl, hc hx, hc hy, by simp [World.frozen?, hh], by simp [World.frozen?, hh], hqg, ⟨(hk gb hqg.symm).trans h.box, ?_, ?_, ?_⟩, hp⟩
    · have := own_setK (i := k) (own_setK (i := i) hr (.int .u32 (y : Int))) (.int .u32 (x : Int))
      rw [kvs_set, kvs_set] at this
      exact this
    · have hne : (Value.slice At nt ct).ownBlock ≠ some q := own_neU h.row h.files (by decide) rfl
      exact ownsRow_setCell_other (ownsRow_setCell_other h.files (a := ⟨q, i, none⟩) hne _) (a := ⟨q, k, none⟩) hne _
    · exact ((h.lo.setCell (p := ⟨q, i, none⟩) hb _).setCell (p := ⟨q, k, none⟩) hb _).drew
end
theorem set5_below {B b : Nat} {w0 w : World} {v0 v1 v2 v3 v4 : Value} (h : Below B w0 w) (hb : B ≤ b) : Below B w0 (((((w.setCell ⟨b, 0, none⟩ v0).setCell ⟨b, 1, none⟩ v1).setCell ⟨b, 2, none⟩ v2).setCell ⟨b, 3, none⟩ v3).setCell ⟨b, 4, none⟩ v4) :=
  ((((h.setCell hb _).setCell hb _).setCell hb _).setCell hb _).setCell hb _
theorem own_ne5 {w : World} {base e k n b : Nat} {v : Value} {xs : List Value} {cur : Array Value} {t : TypeId} (h : w.ownsRow base e k v n xs) (hb : w.heap[b]? = some (.cells cur t (0, 0))) (hne : e ≠ t) : v.ownBlock ≠ some b := by
  rcases h.2 with ⟨rfl, _⟩ | ⟨g, cap, cur2, rfl, _, hh, _⟩
  · exact fun e => by cases e
  · intro e
    have e : g = b := by simpa [Value.ownBlock] using e
    subst e
    rw [hh] at hb
    injection hb with hb
    injection hb with _ hb
    exact hne hb
theorem own_set5 {w : World} {base e k n b : Nat} {v : Value} {xs : List Value} {v0 v1 v2 v3 v4 : Value} (h : w.ownsRow base e k v n xs) (hb : v.ownBlock ≠ some b) :
    (((((w.setCell ⟨b, 0, none⟩ v0).setCell ⟨b, 1, none⟩ v1).setCell ⟨b, 2, none⟩ v2).setCell ⟨b, 3, none⟩ v3).setCell ⟨b, 4, none⟩ v4).ownsRow base e k v n xs :=
  ownsRow_setCell_other (ownsRow_setCell_other (ownsRow_setCell_other (ownsRow_setCell_other (ownsRow_setCell_other h (a := ⟨b, 0, none⟩) hb _) (a := ⟨b, 1, none⟩) hb _) (a := ⟨b, 2, none⟩) hb _) (a := ⟨b, 3, none⟩) hb _) (a := ⟨b, 4, none⟩) hb _
/-- the box is filled, or made last -/
theorem By.set {w0 w : World} {gb nt ct n cr : Nat} {At Ar : Option Addr} {La : List Fi} {R : List Nat} {u0 u1 u2 u3 u4 : Value} (hx : w.heap[gb]? = some (.cells #[u0, u1, u2, u3, u4] 27 (0, 0)))
    (hr : w.ownsRow w0.heap.size 24 1 (.slice Ar n cr) n (kvs R)) (hf : w.ownsRow w0.heap.size 37 4 (.slice At nt ct) nt (fcs La)) (hl : Below w0.heap.size w0 w) (hg : w0.heap.size ≤ gb) :
    By w0 (((((w.setCell ⟨gb, 0, none⟩ (.slice At nt ct)).setCell ⟨gb, 1, none⟩ (.slice Ar n cr)).setCell ⟨gb, 2, none⟩ (.int .u32 0)).setCell ⟨gb, 3, none⟩ (.int .u32 0)).setCell ⟨gb, 4, none⟩ (.int .u64 0)) gb At nt ct La Ar n cr R := by
  have st : ∀ {W : World} {k : Nat} {l : List Value} (v : Value), W.heap[gb]? = some (.cells l.toArray 27 (0, 0)) → (W.setCell ⟨gb, k, none⟩ v).heap[gb]? = some (.cells (l.set k v).toArray 27 (0, 0)) := fun v h => by
    simp [World.setCell, Array.getElem?_modify, h]
  exact ⟨st _ (st _ (st _ (st _ (st _ hx)))), own_set5 hr (own_ne5 hr hx (by decide)), own_set5 hf (own_ne5 hf hx (by decide)), set5_below hl hg⟩
theorem By.new {w0 w : World} {nt ct n cr : Nat} {At Ar : Option Addr} {La : List Fi} {R : List Nat}
    (hr : w.ownsRow w0.heap.size 24 1 (.slice Ar n cr) n (kvs R)) (hf : w.ownsRow w0.heap.size 37 4 (.slice At nt ct) nt (fcs La)) (hl : Below w0.heap.size w0 w) :
    By w0 (w.alloc (.cells #[.slice At nt ct, .slice Ar n cr, .int .u32 0, .int .u32 0, .int .u64 0] 27)) w.heap.size At nt ct La Ar n cr R :=
  ⟨heap_alloc_new w _, own_below hr (al_below w _), own_below hf (al_below w _), hl.trans ((al_below w _).mono hl.size)⟩
theorem By.up {w0 w w2 : World} {gb nt ct n cr : Nat} {At Ar : Option Addr} {La : List Fi} {R : List Nat} (h : By w0 w gb At nt ct La Ar n cr R) (hb : Below w.heap.size w w2) : By w0 w2 gb At nt ct La Ar n cr R :=
  ⟨(hb.block gb (Array.getElem?_eq_some_iff.1 h.box).1).trans h.box, own_below h.row hb, own_below h.files hb, h.lo.trans (hb.mono h.lo.size)⟩
/-- where the loop stands that turns the numbers -/
def AlR (w0 : World) (gb : Nat) (At : Option Addr) (nt ct : Nat) (La : List Fi) (Ar : Option Addr) (n cr : Nat) (R0 : List Nat) (v : Value) (wr : World) : Prop :=
  ∃ (k : Nat) (R : List Nat), v = .int .i64 (k : Int) ∧ By w0 wr gb At nt ct La Ar n cr R ∧ R.Perm R0
end Go.Proofs.Ytnnocjnmfabnaaa
