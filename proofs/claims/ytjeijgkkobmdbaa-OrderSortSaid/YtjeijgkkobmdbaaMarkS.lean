/-
  Lists of marks: cutting them; contract of layer 4's helper 'sorted'.
-/
import Derived.Test.YtjeijgkkobmdbaaSortM
import Derived.Test.YtjeijgkkobmdbaaCmpB
import Derived.Test.YtjeijgkkobmdbaaGreat
import Derived.Test.YtjeijgkkobmdbaaStep
import Derived.Test.YtjeijgkkobmdbaaKept
import Derived.Deep.RegionHeld3
import Derived.BigQuiet
namespace Go.Proofs.Ytjeijgkkobmdbaa
open Go.RowKit
set_option linter.unusedVariables false
set_option maxRecDepth 100000

theorem mark_info : (Try.prog.info? 24).map (fun i => (i.zero, i.size, i.bytes)) = some (some (.agg #[.string ByteArray.empty, .int .u64 0, .bool false]), 3, 32) := by kernel_rfl
section
variable {w : World} {B k n m c : Nat} {A : Option Addr} {xs : List Value}
theorem Lies.takeK (h : Lies w B k A n xs) (hm : m ≤ n) : Lies w B k A m (xs.take (m * k)) := by
  have hl := h.len
  have hmk : m * k ≤ n * k := Nat.mul_le_mul_right _ hm
  refine ⟨by rw [List.length_take, hl]; exact Nat.min_eq_left hmk, fun j hj => ?_⟩
  rw [List.length_take, hl, Nat.min_eq_left hmk] at hj
  obtain ⟨ad, u, e, hb, hx, hc⟩ := h.spot j (by omega)
  exact ⟨ad, u, e, hb, by rw [List.getElem?_take, if_pos hj]; exact hx, hc⟩
/-- where 's[m:]' lies, of elements that are three cells each -/
def cutM (A : Option Addr) (c m : Nat) : Option Addr := if c = m then A else A.map (·.add (m * 3))
theorem Lies.cutM (h : Lies w B 3 A n xs) (hm : m ≤ n) (hc : n ≤ c) : Lies w B 3 (cutM A c m) (n - m) (xs.drop (m * 3)) := by
  have hl := h.len
  unfold Go.Proofs.Ytjeijgkkobmdbaa.cutM
  by_cases e : c = m
  · rw [if_pos e, show n - m = 0 from by omega, List.drop_eq_nil_of_le (by rw [hl, show m = n from by omega]; exact Nat.le_refl _)]
    exact Lies.none_ _ _ _ _
  · rw [if_neg e]
    refine ⟨by rw [List.length_drop, hl]; omega, fun j hj => ?_⟩
    rw [List.length_drop, hl] at hj
    obtain ⟨ad, u, rfl, hb, hx, hcc⟩ := h.spot (m * 3 + j) (by omega)
    exact ⟨ad.add (m * 3), u, rfl, by rw [add_block]; exact hb, by rw [List.getElem?_drop]; exact hx, by rw [add_add]; exact hcc⟩
end
theorem run_cutM (w : World) (A : Option Addr) (n c l : Nat) (h : l ≤ n) :
    (Instr.slice 54 (.slice A n c) (some (.int .i64 (l : Int))) none none).run Try.prog w = .ok (.slice (cutM A c l) (n - l) (c - l)) w := by
  obtain ⟨i0, hi, hz0, hz1, hz2⟩ := info_parts mark_info
  unfold Instr.slice cutM
  simp [run_underlying Try.underlying54, Instr.sliceBounds, Instr.sliceBound, asIntOf, sizeOf, typeInfo, hi, hz1, h]
theorem run_headM (w : World) (A : Option Addr) (n c h : Nat) (h3 : h ≤ c) :
    (Instr.slice 54 (.slice A n c) none (some (.int .i64 (h : Int))) none).run Try.prog w = .ok (.slice A h c) w := by
  obtain ⟨i0, hi, hz0, hz1, hz2⟩ := info_parts mark_info
  unfold Instr.slice
  simp [run_underlying Try.underlying54, Instr.sliceBounds, Instr.sliceBound, asIntOf, sizeOf, typeInfo, hi, h3]
  cases A <;> simp [Addr.add]
theorem mark_lies (w : World) (m : Mk) (g : Nat) (hg : w.heap.size = g) : Lies (w.alloc (.cells #[.string m.k, .int .u64 (m.s : Int), .bool m.g] 24)) (g + 1) 3 (some ⟨g, 0, none⟩) 1 m.cs := by
  subst hg
  have h := lits_k (w := w) m.cs 1 3 24 rfl (by decide)
  rw [show (w.alloc (.cells m.cs.toArray 24)).heap.size = w.heap.size + 1 from by simp] at h
  exact h
theorem mcs_one1 (m : Mk) : ∀ u ∈ m.cs, u.oneCell' = true := by
  intro u hu
  simp only [Mk.cs, List.mem_cons, List.not_mem_nil, or_false] at hu
  rcases hu with rfl | rfl | rfl <;> rfl
end Go.Proofs.Ytjeijgkkobmdbaa
