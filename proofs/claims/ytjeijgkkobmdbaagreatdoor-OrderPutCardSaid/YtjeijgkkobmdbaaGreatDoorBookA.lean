/-
  The laws' Book: what it is in memory; keepByte.
-/
import Derived.Test.YtjeijgkkobmdbaaGreatDoorStep
import Derived.Test.YtjeijgkkobmdbaaGreatDoorHelpB
import Derived.Deep.RegionLaw
namespace Go.Proofs.YtjeijgkkobmdbaaGreatDoor
open Go.RowKit
set_option linter.unusedVariables false

abbrev nilS : Value := .slice none 0 0
/-- the cells of a Book that keeps bytes alone -/
def bookCells (n : Nat) (vb : Value) : Array Value := #[.int .i64 (n : Int), vb, nilS, nilS, nilS, nilS, nilS, nilS, nilS, nilS, nilS, nilS, nilS, nilS]
def BookIs (w : World) (g n : Nat) (vb : Value) : Prop := w.heap[g]? = some (.cells (bookCells n vb) 46 (0, 0))
section
variable {w w' : World} {g n : Nat} {vb : Value}
theorem BookIs.lt (h : BookIs w g n vb) : g < w.heap.size := (Array.getElem?_eq_some_iff.1 h).1
theorem BookIs.frozen (h : BookIs w g n vb) (i : Nat) : w.frozen? ⟨g, i, none⟩ = false := by
  unfold BookIs at h
  simp [World.frozen?, h]
theorem BookIs.cell (h : BookIs w g n vb) (i : Nat) : w.cell? ⟨g, i, none⟩ = (bookCells n vb)[i]? := cell_of_row w g i _ _ (0, 0) h
theorem BookIs.num (h : BookIs w g n vb) (m : Nat) : BookIs (w.setCell ⟨g, 0, none⟩ (.int .i64 (m : Int))) g m vb := by
  unfold BookIs at h ⊢
  simp [World.setCell, Array.getElem?_modify, h, bookCells]
theorem BookIs.put (h : BookIs w g n vb) (v : Value) : BookIs (w.setCell ⟨g, 1, none⟩ v) g n v := by
  unfold BookIs at h ⊢
  simp [World.setCell, Array.getElem?_modify, h, bookCells]
theorem BookIs.alloc (h : BookIs w g n vb) (o : Obj) : BookIs (w.alloc o) g n vb := (Below.heap_alloc w o g h.lt).trans h
theorem BookIs.grown {row : Option Nat} (h : BookIs w g n vb) (hb : w.grownBy w' row) (hg : some g ≠ row) : BookIs w' g n vb := (hb.block g h.lt hg).trans h
theorem BookIs.not_own {base e k m : Nat} {x : Value} {xs : List Value} (h : BookIs w g n vb) (ho : w.ownsRow base e k x m xs) (hne : e ≠ 46) : some g ≠ x.ownBlock := by
  rcases ho.2 with ⟨rfl, _⟩ | ⟨g', cap, cur, rfl, _, hh, _⟩
  · simp [Value.ownBlock]
  · intro he
    have : g = g' := by simpa [Value.ownBlock] using he
    subst this
    unfold BookIs at h
    rw [hh] at h
    injection h with h
    injection h with _ h
    exact hne h
end
/-- what is owned stays, if another block is written -/
theorem own_setOther {w : World} {base e k n : Nat} {x : Value} {xs : List Value} (ho : w.ownsRow base e k x n xs) {p : Addr} (hp : some p.block ≠ x.ownBlock) (u : Value) : (w.setCell p u).ownsRow base e k x n xs := by
  refine ⟨ho.1, ?_⟩
  rcases ho.2 with h2 | ⟨g', cap, cur, hv, hg, hh, r⟩
  · exact .inl h2
  · refine .inr ⟨g', cap, cur, hv, hg, (Below.heap_setCell w _ u g' ?_).trans hh, r⟩
    rintro rfl
    rw [hv] at hp
    exact hp rfl

theorem held_info : (Tryz.prog.info? 61).map (fun i => (i.zero, i.size, i.bytes)) = some (some (.agg #[nilS, nilS, .int .i64 0]), 3, 56) := by kernel_rfl

theorem lits3 {w : World} {g : Nat} (hg : g = w.heap.size) (a b c : Value) (t : TypeId) : Lies (w.alloc (.cells #[a, b, c] t)) (g + 1) 3 (some ⟨g, 0, none⟩) 1 [a, b, c] := by
  subst hg
  refine ⟨rfl, fun j hj => ⟨_, [a, b, c][j], rfl, by simp, List.getElem?_eq_getElem hj, ?_⟩⟩
  rw [add_lit]
  have h : (w.alloc (.cells #[a, b, c] t)).heap[w.heap.size]? = some (.cells #[a, b, c] t (0, 0)) := heap_alloc_new w _
  rw [Nat.zero_add, cell_of_row _ w.heap.size j #[a, b, c] t (0, 0) h]
  match j, hj with
  | 0, _ => rfl
  | 1, _ => rfl
  | 2, _ => rfl
theorem three_one (A : Option Addr) (n c : Nat) (x : Int) : ∀ u ∈ [Value.slice A n c, nilS, .int .i64 x], u.oneCell' = true := by
  intro u hu
  simp at hu
  rcases hu with rfl | rfl | rfl <;> rfl

/-- only these two blocks, and what is new, has changed -/
structure Only (w w' : World) (a b : Option Nat) : Prop where
  os : w'.os = w.os
  tape : w'.tape = w.tape
  output : w'.output = w.output
  size : w.heap.size ≤ w'.heap.size
  block : ∀ k, k < w.heap.size → some k ≠ a → some k ≠ b → w'.heap[k]? = w.heap[k]?

set_option maxHeartbeats 2000000 in
theorem keepByte_any (g n k base : Nat) (vb : Value) (hs : List Value) (A : Option Addr) (nl c : Nat) (w : World) (hB : BookIs w g n vb) (hown : w.ownsRow base 61 3 vb k hs) (hbase : base ≤ w.heap.size) (hn : n ≤ 1000000) (hk : k ≤ 1000000) :
    Calls Tryz.prog 18 #[.pointer (some ⟨g, 0, none⟩), .slice A nl c] w fun e w' => e = .returned (.tuple #[]) ∧ ∃ vb', BookIs w' g (n + 1) vb' ∧
      w'.ownsRow base 61 3 vb' (k + 1) (hs ++ [.slice A nl c, nilS, .int .i64 ((n + 1 : Nat) : Int)]) ∧ Only w w' (some g) vb.ownBlock := by
  obtain ⟨i0, hi, hz0, hz1, hz2⟩ := info_parts held_info
  have hc0 : w.cell? ⟨g, 0, none⟩ = some (.int .i64 (n : Int)) := hB.cell 0
  have hc1 : w.cell? ⟨g, 1, none⟩ = some vb := hB.cell 1
  have hf0 := hB.frozen 0
  have hf1 := hB.frozen 1
  go_enter Tryz.func18, Tryz.ntmps18
  go_wp2
  have hB1 : BookIs (w.setCell ⟨g, 0, none⟩ (.int .i64 ((n : Int) + 1))) g (n + 1) vb := hB.num (n + 1)
  have hown1 := own_setOther hown (p := ⟨g, 0, none⟩) (hB.not_own hown (by decide)) (.int .i64 ((n : Int) + 1))
  have honly1 : ∀ j, j < w.heap.size → some j ≠ some g → (w.setCell ⟨g, 0, none⟩ (.int .i64 ((n : Int) + 1))).heap[j]? = w.heap[j]? := fun j _ hj => Below.heap_setCell w _ _ j (fun e => hj (by rw [e]))
  have hsz1 : (w.setCell ⟨g, 0, none⟩ (.int .i64 ((n : Int) + 1))).heap.size = w.heap.size := by simp [World.setCell]
  have hos1 : (w.setCell ⟨g, 0, none⟩ (.int .i64 ((n : Int) + 1))).os = w.os ∧ (w.setCell ⟨g, 0, none⟩ (.int .i64 ((n : Int) + 1))).tape = w.tape ∧ (w.setCell ⟨g, 0, none⟩ (.int .i64 ((n : Int) + 1))).output = w.output := ⟨rfl, rfl, rfl⟩
  obtain ⟨w1, hw1⟩ : ∃ w1, w.setCell ⟨g, 0, none⟩ (.int .i64 ((n : Int) + 1)) = w1 := ⟨_, rfl⟩
  rw [hw1] at hB1 hown1 honly1 hsz1 hos1 ⊢
  clear hw1 hc0 hc1 hf0 hf1
  have hc0 : w1.cell? ⟨g, 0, none⟩ = some (.int .i64 ((n : Int) + 1)) := hB1.cell 0
  have hc1 : w1.cell? ⟨g, 1, none⟩ = some vb := hB1.cell 1
  have hf1 := hB1.frozen 1
  have hglt : g < w1.heap.size := hB1.lt
  have hgne : w1.heap.size ≠ g := by omega
  have hgne2 : g ≠ w1.heap.size := by omega
  have H1 := Lib.hid honly1; have HS1 := Lib.hid hsz1; have HO1 := Lib.hid hos1
  clear honly1 hsz1 hos1
  go_region_law (refine step_app _ rfl (.tmp 15) (.tmp 22) 32 rfl base 61 i0 _ 3 56 Tryz.underlying32 hi hz0 hz1 hz2 rfl (by decide) vb k hs rfl (World.ownsRow.alloc (w := w1.drew) hown1 _) (w1.heap.size + 1) (some ⟨w1.heap.size, 0, none⟩) 1 1 [.slice A nl c, nilS, .int .i64 ((n : Int) + 1)] rfl (lits3 (w := w1.drew) rfl _ _ _ _) (three_one _ _ _ _) (by unfold maxLen; omega) (by omega) (by have := HS1.out; simp; omega) ?_; intro v2 w2 hown2 hg2 hat2; have hB2 := BookIs.grown (BookIs.alloc (w := w1.drew) hB1 _) hg2 (hB1.not_own hown1 (by decide)); have hc2 : w2.cell? ⟨g, 1, none⟩ = some vb := hB2.cell 1; have hf2 := hB2.frozen 1; obtain ⟨A2, c2, rfl, _⟩ := own_shape hown2)
  all_goals (
    have hfin : BookIs (w2.setCell ⟨g, 1, none⟩ (.slice A2 (k + 1) c2)) g (n + 1) (.slice A2 (k + 1) c2) := hB2.put _
    have hown3 := own_setOther hown2 (p := ⟨g, 1, none⟩) (hB2.not_own hown2 (by decide)) (.slice A2 (k + 1) c2)
    have honly : Only w (w2.setCell ⟨g, 1, none⟩ (.slice A2 (k + 1) c2)) (some g) vb.ownBlock := by
      have ho := HO1.out
      refine ⟨hg2.os.trans ho.1, hg2.tape.trans ho.2.1, hg2.output.trans ho.2.2, ?_, ?_⟩
      · have := hg2.size
        have h2 := HS1.out
        simp [World.setCell] at this ⊢
        omega
      · intro j hj h1 h2
        have hj1 : j < w1.heap.size := by rw [HS1.out]; exact hj
        rw [Below.heap_setCell _ _ _ _ (fun e => h1 (by rw [e]))]
        rw [hg2.block j (by simp; omega) h2]
        exact (Below.heap_alloc w1.drew _ j hj1).trans (H1.out j hj h1)
    have HF := Lib.hid hfin; have HO3 := Lib.hid hown3; have HON := Lib.hid honly
    clear hfin hown3 honly hown2 hg2 hat2 hB2 hc2 hf2 hown1 hB1 hc0 hc1 hf1
    go_wp2
    go_end0
    exact ⟨rfl, _, HF.out, HO3.out, HON.out⟩)
end Go.Proofs.YtjeijgkkobmdbaaGreatDoor
