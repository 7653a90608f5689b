/-
  The laws' Book: texts: keepText, Texts.
-/
import Derived.Test.YtjnmckchicmmgaaGreatDoorBkT1
namespace Go.Proofs.YtjnmckchicmmgaaGreatDoor
open Go.RowKit
set_option linter.unusedVariables false
set_option maxRecDepth 100000

theorem heldT_info : (Tryz.prog.info? 67).map (fun i => (i.zero, i.size, i.bytes)) = some (some (.agg #[nilS, nilS, .int .i64 0]), 3, 56) := by kernel_rfl
set_option maxHeartbeats 2000000 in
theorem keepText_any (g n k base : Nat) (cs : Array Value) (vb : Value) (hs : List Value) (A : Option Addr) (nl c : Nat) (w : World) (hB : BkIs w g cs) (hcs : cs.size = 14) (hcs0 : cs[0]? = some (.int .i64 (n : Int))) (hcs1 : cs[5]? = some vb) (hown : w.ownsRow base 67 3 vb k hs) (hbase : base ≤ w.heap.size) (hn : n ≤ 1000000) (hk : k ≤ 1000000) :
    Calls Tryz.prog 18 #[.pointer (some ⟨g, 0, none⟩), .slice A nl c] w fun e w' => e = .returned (.tuple #[]) ∧ ∃ vb', BkIs w' g ((cs.setIfInBounds 0 (.int .i64 ((n + 1 : Nat) : Int))).setIfInBounds 5 vb') ∧
      w'.ownsRow base 67 3 vb' (k + 1) (hs ++ [.slice A nl c, nilS, .int .i64 ((n + 1 : Nat) : Int)]) ∧ Wrote (fun i => i = g ∨ vb.ownBlock = some i) w w' ∧ (vb'.ownBlock = vb.ownBlock ∨ ∃ i, vb'.ownBlock = some i ∧ w.heap.size ≤ i) := by
  obtain ⟨i0, hi, hz0, hz1, hz2⟩ := info_parts heldT_info
  have hc0 : w.cell? ⟨g, 0, none⟩ = some (.int .i64 (n : Int)) := (hB.cell 0).trans hcs0
  have hc1 : w.cell? ⟨g, 5, none⟩ = some vb := (hB.cell 5).trans hcs1
  have hf0 := hB.frozen 0
  have hf1 := hB.frozen 5
  go_enter Tryz.func18, Tryz.ntmps18
  go_wp2
  have hB1 : BkIs (w.setCell ⟨g, 0, none⟩ (.int .i64 ((n : Int) + 1))) g (cs.setIfInBounds 0 (.int .i64 ((n : Int) + 1))) := hB.set 0 _
  have hown1 := own_setOther hown (p := ⟨g, 0, none⟩) (hB.not_own hown (by decide)) (.int .i64 ((n : Int) + 1))
  have honly1 : ∀ j, j < w.heap.size → some j ≠ some g → (w.setCell ⟨g, 0, none⟩ (.int .i64 ((n : Int) + 1))).heap[j]? = w.heap[j]? := fun j _ hj => Below.heap_setCell w _ _ j (fun e => hj (by rw [e]))
  have hsz1 : (w.setCell ⟨g, 0, none⟩ (.int .i64 ((n : Int) + 1))).heap.size = w.heap.size := by simp [World.setCell]
  have hos1 : (w.setCell ⟨g, 0, none⟩ (.int .i64 ((n : Int) + 1))).os = w.os ∧ (w.setCell ⟨g, 0, none⟩ (.int .i64 ((n : Int) + 1))).tape = w.tape ∧ (w.setCell ⟨g, 0, none⟩ (.int .i64 ((n : Int) + 1))).output = w.output := ⟨rfl, rfl, rfl⟩
  obtain ⟨w1, hw1⟩ : ∃ w1, w.setCell ⟨g, 0, none⟩ (.int .i64 ((n : Int) + 1)) = w1 := ⟨_, rfl⟩
  rw [hw1] at hB1 hown1 honly1 hsz1 hos1 ⊢
  clear hw1 hc0 hc1 hf0 hf1
  have hc0 : w1.cell? ⟨g, 0, none⟩ = some (.int .i64 ((n : Int) + 1)) := (hB1.cell 0).trans (by rw [Array.getElem?_setIfInBounds_self_of_lt (by omega)])
  have hc1 : w1.cell? ⟨g, 5, none⟩ = some vb := (hB1.cell 5).trans (by rw [Array.getElem?_setIfInBounds_ne (by decide)]; exact hcs1)
  have hf1 := hB1.frozen 5
  have hglt : g < w1.heap.size := hB1.lt
  have hgne : w1.heap.size ≠ g := by omega
  have hgne2 : g ≠ w1.heap.size := by omega
  have H1 := Lib.hid honly1; have HS1 := Lib.hid hsz1; have HO1 := Lib.hid hos1
  clear honly1 hsz1 hos1
  go_region_law (refine step_app _ rfl (.tmp 15) (.tmp 22) 33 rfl base 67 i0 _ 3 56 Tryz.underlying33 hi hz0 hz1 hz2 rfl (by decide) vb k hs rfl (World.ownsRow.alloc (w := w1.drew) hown1 _) (w1.heap.size + 1) (some ⟨w1.heap.size, 0, none⟩) 1 1 [.slice A nl c, nilS, .int .i64 ((n : Int) + 1)] rfl (lits3 (w := w1.drew) rfl _ _ _ _) (three_one _ _ _ _) (by unfold maxLen; omega) (by omega) (by have := HS1.out; simp; omega) ?_; intro v2 w2 hown2 hg2 hat2; have hB2 := BkIs.grown (BkIs.alloc (w := w1.drew) hB1 _) hg2 (hB1.not_own hown1 (by decide)); have hc2 : w2.cell? ⟨g, 5, none⟩ = some vb := (hB2.cell 5).trans (by rw [Array.getElem?_setIfInBounds_ne (by decide)]; exact hcs1); have hf2 := hB2.frozen 5; obtain ⟨A2, c2, rfl, _⟩ := own_shape hown2)
  all_goals (
    have hfin : BkIs (w2.setCell ⟨g, 5, none⟩ (.slice A2 (k + 1) c2)) g ((cs.setIfInBounds 0 (.int .i64 ((n + 1 : Nat) : Int))).setIfInBounds 5 (.slice A2 (k + 1) c2)) := hB2.set 5 _
    have hown3 := own_setOther hown2 (p := ⟨g, 5, none⟩) (hB2.not_own hown2 (by decide)) (.slice A2 (k + 1) c2)
    have honly : Wrote (fun i => i = g ∨ vb.ownBlock = some i) w (w2.setCell ⟨g, 5, none⟩ (.slice A2 (k + 1) c2)) := by
      have ho := HO1.out
      refine ⟨hg2.os.trans ho.1, hg2.tape.trans ho.2.1, hg2.output.trans ho.2.2, ?_, ?_⟩
      · have := hg2.size
        have h2 := HS1.out
        simp [World.setCell] at this ⊢
        omega
      · intro j hj hno
        have h1 : some j ≠ some g := fun e => hno (.inl (by injection e))
        have h2 : some j ≠ vb.ownBlock := fun e => hno (.inr e.symm)
        have hj1 : j < w1.heap.size := by rw [HS1.out]; exact hj
        rw [Below.heap_setCell _ _ _ _ (fun e => h1 (by rw [e]))]
        rw [hg2.block j (by simp; omega) h2]
        exact (Below.heap_alloc w1.drew _ j hj1).trans (H1.out j hj h1)
    have hat3 : (Value.slice A2 (k + 1) c2).ownBlock = vb.ownBlock ∨ ∃ i, (Value.slice A2 (k + 1) c2).ownBlock = some i ∧ w.heap.size ≤ i := by
      rcases hat2 with h | h
      · exact .inl h
      · refine .inr ⟨_, h, ?_⟩
        have := HS1.out
        simp
        omega
    have HAt := Lib.hid hat3
    have HF := Lib.hid hfin; have HO3 := Lib.hid hown3; have HON := Lib.hid honly
    clear hat3 hfin hown3 honly hown2 hg2 hat2 hB2 hc2 hf2 hown1 hB1 hc0 hc1 hf1
    go_wp2
    go_end0
    exact ⟨rfl, _, HF.out, HO3.out, HON.out, HAt.out⟩)

theorem texts_any (g n k base : Nat) (cs : Array Value) (vb : Value) (hs : List Value) (A : Option Addr) (nl c : Nat) (w : World) (hB : BkIs w g cs) (hcs : cs.size = 14) (hcs0 : cs[0]? = some (.int .i64 (n : Int))) (hcs1 : cs[5]? = some vb) (hown : w.ownsRow base 67 3 vb k hs) (hbase : base ≤ w.heap.size) (hn : n ≤ 1000000) (hk : k ≤ 1000000) :
    Calls Tryz.prog 10 #[.pointer (some ⟨g, 0, none⟩), .slice A nl c] w fun e w' => e = .returned (.tuple #[]) ∧ ∃ vb', BkIs w' g ((cs.setIfInBounds 0 (.int .i64 ((n + 1 : Nat) : Int))).setIfInBounds 5 vb') ∧
      w'.ownsRow base 67 3 vb' (k + 1) (hs ++ [.slice A nl c, nilS, .int .i64 ((n + 1 : Nat) : Int)]) ∧ Wrote (fun i => i = g ∨ vb.ownBlock = some i) w w' ∧ (vb'.ownBlock = vb.ownBlock ∨ ∃ i, vb'.ownBlock = some i ∧ w.heap.size ≤ i) := by
  have H := Lib.hid (keepText_any g n k base cs vb hs A nl c w hB hcs hcs0 hcs1 hown hbase hn hk)
  clear hB hown
  go_enter Tryz.func10, Tryz.ntmps10
  go_wp2_with fail
  refine H.out.mono ?_
  rintro e w1 ⟨rfl, hr⟩
  have HR := Lib.hid hr; clear hr
  go_wp2
  go_end0
  exact ⟨rfl, HR.out⟩
end Go.Proofs.YtjnmckchicmmgaaGreatDoor
