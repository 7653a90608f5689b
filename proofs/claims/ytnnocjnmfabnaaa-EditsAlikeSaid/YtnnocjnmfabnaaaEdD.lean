/-
  Package edits: how a set's files are compared.
-/
import Derived.Test.YtnnocjnmfabnaaaEdC
import Derived.Sort.Grow
import Derived.Shelf.SlSortCmp.WholeK
import Derived.LoopN
import Derived.StillTailTactics
namespace Go.Proofs.Ytnnocjnmfabnaaa
open Go.RowKit
set_option linter.unusedVariables false
set_option maxRecDepth 100000

/-- the one, or if it is nought the other one -/
def orI (p q : Int) : Int := if p ≠ 0 then p else q
set_option maxHeartbeats 1000000 in
theorem or_any (p q : Int) (g : Nat) (w : World) (hp : w.cell? ⟨g, 0, none⟩ = some (.int .i64 p)) (hq : w.cell? ⟨g, 1, none⟩ = some (.int .i64 q)) :
    Calls Try.prog 24 #[.slice (some ⟨g, 0, none⟩) 2 2] w fun e w' => e = .returned (.int .i64 (orI p q)) ∧ w = w' := by
  unfold orI
  by_cases h0 : p = 0
  · subst h0
    rw [if_neg (by simp)]
    by_cases h1 : q = 0
    · subst h1
      go_enter Try.func24, Try.ntmps24
      go_wp2
      refine wp_loop_rounds 3 ?_
      rw [rounds_succ]
      go_wp2
      rw [rounds_succ]
      go_wp2
      rw [rounds_succ]
      go_wp2
      go_ret
      exact ⟨rfl, rfl⟩
    · have hb : (q == 0) = false := by rw [beq_eq_false_iff_ne]; exact h1
      go_enter Try.func24, Try.ntmps24
      go_wp2
      refine wp_loop_rounds 2 ?_
      rw [rounds_succ]
      go_wp2
      rw [rounds_succ]
      go_wp2
      go_ret
      exact ⟨rfl, rfl⟩
  · have hb : (p == 0) = false := by rw [beq_eq_false_iff_ne]; exact h0
    rw [if_pos h0]
    go_enter Try.func24, Try.ntmps24
    go_wp2
    refine wp_loop_rounds 1 ?_
    rw [rounds_succ]
    go_wp2
    go_ret
    exact ⟨rfl, rfl⟩

/-- by level, then by number -/
def cmpF (x y : Fi) : Int := orI (cmpI x.lv y.lv) (cmpI (x.num : Int) (y.num : Int))
set_option maxHeartbeats 4000000 in
theorem inord1_any (x y : Fi) (W : World) :
    Calls Try.prog 23 #[.agg #[.int .u32 (x.num : Int), .int .i64 x.lv, .string x.a, .string x.z], .agg #[.int .u32 (y.num : Int), .int .i64 y.lv, .string y.a, .string y.z]] W fun e w' => e = .returned (.int .i64 (cmpF x y)) ∧ ∃ q os', w' = Go.Sort.grow (W.drewN q) os' := by
  have x1 := (FiAt.new W x).below (fiW_below (fiW W x) y) (FiAt.new W x).lt
  have y1 := FiAt.new (fiW W x) y
  obtain ⟨W2, hW2⟩ : ∃ W2, fiW (fiW W x) y = W2 := ⟨_, rfl⟩
  have hs2 : W2.heap.size = W.heap.size + 1 + 1 := by rw [← hW2]; simp
  rw [hW2, fiW_size] at y1
  rw [hW2] at x1
  have x3 : FiAt W2.drew W.heap.size x := x1
  have y3 : FiAt W2.drew (W.heap.size + 1) y := y1
  have hs3 : W2.drew.heap.size = W.heap.size + 1 + 1 := hs2
  have h2 : W2 = Go.Sort.grow W (#[.cells #[.int .u32 (x.num : Int), .int .i64 x.lv, .string x.a, .string x.z] 37] ++ #[.cells #[.int .u32 (y.num : Int), .int .i64 y.lv, .string y.a, .string y.z] 37]) := by
    rw [← Go.Sort.grow_grow, ← Go.Sort.alloc_eq_grow, ← Go.Sort.alloc_eq_grow]; exact hW2.symm
  have HG : Hid (∀ o : Obj, ∃ q os', W2.drew.alloc o = Go.Sort.grow (W.drewN q) os') := fun o => ⟨1, _, by
    rw [h2, Go.Sort.drew_grow, Go.Sort.alloc_eq_grow, Go.Sort.grow_grow]; rfl⟩
  have HW2 : Hid ((W.alloc (.cells #[.int .u32 (x.num : Int), .int .i64 x.lv, .string x.a, .string x.z] 37)).alloc (.cells #[.int .u32 (y.num : Int), .int .i64 y.lv, .string y.a, .string y.z] 37) = W2) := hW2
  obtain ⟨p0, p1, _, _⟩ := x3.cells
  obtain ⟨q0, q1, _, _⟩ := y3.cells
  obtain ⟨W3, hW3⟩ : ∃ W3, W2.drew = W3 := ⟨_, rfl⟩
  rw [hW3] at p0 p1 q0 q1 hs3 HG
  have HW3 : Hid ({ W2 with drawn := W2.drawn + 1 } = W3) := hW3
  have HO : Hid (∀ p q : Int, Calls Try.prog 24 #[.slice (some ⟨W.heap.size + 1 + 1, 0, none⟩) 2 2] (W3.alloc (.cells #[.int .i64 p, .int .i64 q] 3)) fun e w' => e = .returned (.int .i64 (orI p q)) ∧ W3.alloc (.cells #[.int .i64 p, .int .i64 q] 3) = w') := by
    intro p q
    have h := heap_alloc_new W3 (.cells #[.int .i64 p, .int .i64 q] 3)
    rw [hs3] at h
    exact or_any p q _ _ (cell_of_row _ _ 0 _ _ (0, 0) h) (cell_of_row _ _ 1 _ _ (0, 0) h)
  clear x1 y1 x3 y3 hW2 hW3 hs2 h2
  unfold cmpF
  go_enter Try.func23, Try.ntmps23
  go_wp2_with fail
  rw [HW2.out]
  refine wp_region_still_tail 10 (by kernel_rfl) (by kernel_rfl) ?_
  simp only [List.take_succ_cons, List.take_zero, List.drop_succ_cons, List.drop_zero]
  rw [HW3.out]
  (repeat still_step)
  still_call ((cmpI_any _ _ _).mono fun e w' ⟨h1, h2⟩ => ⟨h1, h2.symm⟩)
  (repeat still_step)
  still_call ((cmpU_any _ _ _).mono fun e w' ⟨h1, h2⟩ => ⟨h1, h2.symm⟩)
  refine wpStill_nil ?_
  go_wp2_with fail
  with_reducible refine Calls.mono (HO.out _ _) ?_
  rintro e w4 ⟨rfl, hw4⟩
  obtain ⟨q, os', hq⟩ := HG.out (.cells #[.int .i64 (cmpI x.lv y.lv), .int .i64 (cmpI (x.num : Int) (y.num : Int))] 3)
  rw [hw4] at hq
  have HQ : Hid (∃ q os', w4 = Go.Sort.grow (W.drewN q) os') := ⟨q, os', hq⟩
  clear hw4 hq
  go_wp2
  go_ret
  exact ⟨rfl, HQ.out⟩
theorem cmpF_lt (x y : Fi) : cmpF x y < 0 ↔ ltFi x y := by
  unfold cmpF orI cmpI ltFi
  (repeat' split) <;> omega
theorem ltOf_cmpF (x y : Fi) : ltOf cmpF x y = decide (ltFi x y) := by
  unfold ltOf
  by_cases h : ltFi x y
  · rw [decide_eq_true h, decide_eq_true ((cmpF_lt x y).2 h)]
  · rw [decide_eq_false h, decide_eq_false (fun q => h ((cmpF_lt x y).1 q))]
theorem swo_cmpF : Go.Sort.SWO (ltOf cmpF) where
  irrefl x := by rw [ltOf_cmpF]; exact decide_eq_false fun h => h.not h
  trans x y z h1 h2 := by
    rw [ltOf_cmpF] at *
    simp only [decide_eq_true_eq] at *
    exact h1.trans h2
  ntrans x y z h1 h2 := by
    rw [ltOf_cmpF] at *
    simp only [decide_eq_false_iff_not] at *
    unfold ltFi at *
    omega
end Go.Proofs.Ytnnocjnmfabnaaa
