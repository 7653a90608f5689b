/-
  New, Names, List of package files.
-/
import Derived.Test.YtopcnlophmplgaaOpsB
namespace Go.Proofs.Ytopcnlophmplgaa
open Go.RowKit Go.Maps Go.Sort
set_option maxRecDepth 100000
set_option linter.unusedVariables false

/-- a new disk of n bytes -/
def St.new (n : Nat) : St := ⟨n, .map [], .map [], fun _ => ⟨[], 0⟩⟩
/-- memory that was made since w -/
def since (w w' : World) (i : Nat) : Prop := w.heap.size ≤ i ∧ i < w'.heap.size

theorem new_bad (n : Int) (w : World) (h : n < 1 ∨ 8388608 < n) : Calls Try.prog 36 #[.int .i64 n] w fun x w' => x = .returned (.tuple #[.pointer none, er 1]) ∧ w' = w := by
  by_cases h1 : n < 1
  · clear h
    go_enter Try.func36, Try.ntmps36
    go_wp2
    go_ret2
    exact ⟨rfl, rfl⟩
  · have h2 : 8388608 < n := h.resolve_left h1
    clear h
    go_enter Try.func36, Try.ntmps36
    go_wp2
    go_ret2
    exact ⟨rfl, rfl⟩

theorem dir_none (w : World) (P : Program) : IsMap (.map [] : Dir) := ⟨[], rfl⟩
theorem new_disk (w : World) (n : Nat) (h1 : 1 ≤ n) (h2 : n ≤ 8388608) : ∃ w', w' = ((w.alloc (.map #[] 0)).alloc (.map #[] 0)).alloc (.cells #[.int .i64 (n : Int), .map (some w.heap.size), .map (some (w.heap.size + 1))] 95) ∧
    Below w.heap.size w w' ∧ Disk w' (since w w') (w.heap.size + 1 + 1) (St.new n) := by
  refine ⟨_, rfl, ?_⟩
  have hs1 := alloc_size w (.map #[] 0)
  have hs2 := alloc_size (w.alloc (.map #[] 0)) (.map #[] 0)
  have hm1 : (w.alloc (.map #[] 0)).heap[w.heap.size]? = some (.map #[] 0) := heap_alloc_new w _
  have ho1 : OwnD (w.alloc (.map #[] 0)) w.heap.size 0 (.map []) := World.ownsMap_made w _ _ _
  have hB1 := below_a (Below.refl w.heap.size w) (.map #[] 0)
  generalize hW : w.alloc (.map #[] 0) = W1 at *
  have ho2 : OwnD (W1.alloc (.map #[] 0)) W1.heap.size 0 (.map []) := World.ownsMap_made W1 _ _ _
  have ho1' : OwnD (W1.alloc (.map #[] 0)) w.heap.size 0 (.map []) := World.ownsMap.alloc ho1 _
  have hB2 := below_a hB1 (.map #[] 0)
  generalize hW2 : W1.alloc (.map #[] 0) = W2 at *
  have hs3 := alloc_size W2 (.cells #[.int .i64 (n : Int), .map (some w.heap.size), .map (some (w.heap.size + 1))] 95)
  have hbox := heap_alloc_new W2 (.cells #[.int .i64 (n : Int), .map (some w.heap.size), .map (some (w.heap.size + 1))] 95)
  have hB3 := below_a hB2 (.cells #[.int .i64 (n : Int), .map (some w.heap.size), .map (some (w.heap.size + 1))] 95)
  have o1 := World.ownsMap.alloc ho1' (.cells #[.int .i64 (n : Int), .map (some w.heap.size), .map (some (w.heap.size + 1))] 95)
  have o2 := World.ownsMap.alloc ho2 (.cells #[.int .i64 (n : Int), .map (some w.heap.size), .map (some (w.heap.size + 1))] 95)
  generalize W2.alloc (.cells #[.int .i64 (n : Int), .map (some w.heap.size), .map (some (w.heap.size + 1))] 95) = W3 at *
  refine ⟨hB3, w.heap.size, w.heap.size + 1, fun _ => .slice none 0 0, ?_⟩
  have hlive : ∀ f, ¬ (St.new n).live f := by
    rintro f (⟨k, hk⟩ | ⟨k, hk⟩) <;> cases hk
  refine ⟨?_, ⟨by omega, by omega⟩, ⟨by omega, by omega⟩, ⟨by omega, by omega⟩, by omega, o1.mono (by omega), ?_, fun e he => (by cases he), fun e he => (by cases he), fun f hf => absurd hf (hlive f), fun f g hf => absurd hf (hlive f), fun k k' f hk => (by cases hk), h1, h2, fun i hi => hi.2⟩
  · rw [show w.heap.size + 1 + 1 = W2.heap.size by omega]; exact hbox
  · have := o2.mono (n' := 64) (by omega)
    rw [← hs1] at this; exact this

theorem new_ok (n : Nat) (w : World) (h1 : 1 ≤ n) (h2 : n ≤ 8388608) : Calls Try.prog 36 #[.int .i64 (n : Int)] w fun x w' => ∃ d, x = .returned (.tuple #[.pointer (some ⟨d, 0, none⟩), er 0]) ∧ Below w.heap.size w w' ∧ Disk w' (since w w') d (St.new n) := by
  obtain ⟨w', hw, hB, hD⟩ := new_disk w n h1 h2
  have hmm := @run_makeMap Try.prog
  have i1 : ¬ (n : Int) < 1 := by omega
  have i2 : ¬ (8388608 : Int) < (n : Int) := by omega
  have HR : Hid (∃ d, Ending.returned (.tuple #[.pointer (some ⟨w.heap.size + 1 + 1, 0, none⟩), er 0]) = .returned (.tuple #[.pointer (some ⟨d, 0, none⟩), er 0]) ∧ Below w.heap.size w w' ∧ Disk w' (since w w') d (St.new n)) := ⟨_, rfl, hB, hD⟩
  subst hw
  clear hB hD
  go_enter Try.func36, Try.ntmps36
  go_wp2
  go_ret2
  exact HR.out

/-- the names, rising -/
def St.list (S : St) : List (List UInt8) := (strKeys S.pres).mergeSort fun x y => decide (x ≤ y)
theorem sorts_same {l l' : List (List UInt8)} (h : l.Perm l') : (l.mergeSort fun x y => decide (x ≤ y)) = l'.mergeSort fun x y => decide (x ≤ y) := by
  have tr : ∀ a b c : List UInt8, decide (a ≤ b) = true → decide (b ≤ c) = true → decide (a ≤ c) = true := fun a b c h1 h2 => by simp at *; exact List.le_trans h1 h2
  have tot : ∀ a b : List UInt8, (decide (a ≤ b) || decide (b ≤ a)) = true := fun a b => by simp; exact List.le_total a b
  refine List.Perm.eq_of_pairwise (le := fun x y => decide (x ≤ y) = true) ?_ (List.pairwise_mergeSort tr tot l) (List.pairwise_mergeSort tr tot l') (((List.mergeSort_perm l _).trans h).trans (List.mergeSort_perm l' _).symm)
  intro a b _ _ h1 h2
  simp at h1 h2
  exact List.le_antisymm h1 h2

end Go.Proofs.Ytopcnlophmplgaa
