/-
  Parts of lists of entries; those from a mark on.
-/
import Derived.Test.YtghfhojpnbpjoaaBkMB
import Derived.Test.YtghfhojpnbpjoaaPlTx
namespace Go.Proofs.Ytghfhojpnbpjoaa
open Go.RowKit
set_option linter.unusedVariables false
set_option maxRecDepth 100000

section
variable {w : World} {B n k m c : Nat} {A : Option Addr} {xs : List Value}
theorem Lies.takeE (h : Lies w B k A n xs) (hm : m ≤ n) : Lies w B k A m (xs.take (m * k)) := by
  have hl := h.len
  have hmk : m * k ≤ n * k := Nat.mul_le_mul_right _ hm
  refine ⟨by rw [List.length_take, hl]; exact Nat.min_eq_left hmk, fun j hj => ?_⟩
  rw [List.length_take, hl, Nat.min_eq_left hmk] at hj
  obtain ⟨ad, u, e, hb, hx, hc⟩ := h.spot j (by omega)
  exact ⟨ad, u, e, hb, by rw [List.getElem?_take, if_pos hj]; exact hx, hc⟩
def cutE (A : Option Addr) (c m : Nat) : Option Addr := if c = m then A else A.map (·.add (m * 4))
theorem Lies.cutE (h : Lies w B 4 A n xs) (hm : m ≤ n) (hc : n ≤ c) : Lies w B 4 (cutE A c m) (n - m) (xs.drop (m * 4)) := by
  have hl := h.len
  unfold Go.Proofs.Ytghfhojpnbpjoaa.cutE
  by_cases e : c = m
  · rw [if_pos e, show n - m = 0 from by omega, List.drop_eq_nil_of_le (by rw [hl, show m = n from by omega]; exact Nat.le_refl _)]
    exact Lies.none_ _ _ _ _
  · rw [if_neg e]
    refine ⟨by rw [List.length_drop, hl]; omega, fun j hj => ?_⟩
    rw [List.length_drop, hl] at hj
    obtain ⟨ad, u, rfl, hb, hx, hcc⟩ := h.spot (m * 4 + j) (by omega)
    exact ⟨ad.add (m * 4), u, rfl, by rw [add_block]; exact hb, by rw [List.getElem?_drop]; exact hx, by rw [add_add]; exact hcc⟩
end
theorem run_cutE (w : World) (A : Option Addr) (n c l : Nat) (h : l ≤ n) :
    (Instr.slice 22 (.slice A n c) (some (.int .i64 (l : Int))) none none).run Try.prog w = .ok (.slice (cutE A c l) (n - l) (c - l)) w := by
  obtain ⟨i0, hi, hz0, hz1, hz2⟩ := info_parts entry_info
  unfold Instr.slice cutE
  simp [run_underlying Try.underlying22, Instr.sliceBounds, Instr.sliceBound, asIntOf, sizeOf, typeInfo, hi, hz1, h]
theorem run_headE (w : World) (A : Option Addr) (n c h : Nat) (h3 : h ≤ c) :
    (Instr.slice 22 (.slice A n c) none (some (.int .i64 (h : Int))) none).run Try.prog w = .ok (.slice A h c) w := by
  obtain ⟨i0, hi, hz0, hz1, hz2⟩ := info_parts entry_info
  unfold Instr.slice
  simp [run_underlying Try.underlying22, Instr.sliceBounds, Instr.sliceBound, asIntOf, sizeOf, typeInfo, hi, h3]
  cases A <;> simp [Addr.add]
theorem ecs_take (l : List En) (k : Nat) : (ecs l).take (k * 4) = ecs (l.take k) := by
  unfold ecs
  induction l generalizing k with
  | nil => simp
  | cons a l ih => cases k with
    | zero => simp
    | succ k => rw [List.take_succ_cons, List.flatMap_cons, List.flatMap_cons, ← ih k, Nat.succ_mul]; simp [En.cs, List.take_succ_cons]
theorem ecs_drop (l : List En) (k : Nat) : (ecs l).drop (k * 4) = ecs (l.drop k) := by
  unfold ecs
  induction l generalizing k with
  | nil => simp
  | cons a l ih => cases k with
    | zero => simp
    | succ k => rw [List.drop_succ_cons, List.flatMap_cons, ← ih k, Nat.succ_mul]; simp [En.cs]
/-- those from a mark on -/
def fromM (S : List En) (m : Mk) : List En := S.dropWhile (bef m)
/-- those from a mark on are the last ones -/
theorem fromM_drop (S : List En) (m : Mk) : S.drop (S.length - (fromM S m).length) = fromM S m := by
  unfold fromM
  have h := List.takeWhile_append_dropWhile (p := bef m) (l := S)
  have hl := congrArg List.length h
  rw [List.length_append] at hl
  obtain ⟨a, ha⟩ : ∃ a, S.takeWhile (bef m) = a := ⟨_, rfl⟩
  obtain ⟨b, hb⟩ : ∃ b, S.dropWhile (bef m) = b := ⟨_, rfl⟩
  rw [ha, hb] at h hl
  rw [hb, show S.length - b.length = a.length from by omega, ← h]
  exact List.drop_left' rfl
theorem fromM_le (S : List En) (m : Mk) : (fromM S m).length ≤ S.length := by
  have := congrArg List.length (fromM_drop S m)
  rw [List.length_drop] at this; omega
/-- who stands ahead of the mark -/
theorem fromM_ahead {S : List En} (hr : Rise S) (m : Mk) {i : Nat} {e : En} (hi : S[i]? = some e) : cmpM e.m m < 0 ↔ i < S.length - (fromM S m).length := by
  have h := List.takeWhile_append_dropWhile (p := bef m) (l := S)
  have hl := congrArg List.length h
  rw [List.length_append] at hl
  have e1 : S.length - (fromM S m).length = (S.takeWhile (bef m)).length := by unfold fromM; omega
  rw [e1]
  have h2 : (S.takeWhile (bef m) ++ S.dropWhile (bef m))[i]? = some e := by rw [h]; exact hi
  by_cases hlt : i < (S.takeWhile (bef m)).length
  · rw [List.getElem?_append_left hlt] at h2
    exact ⟨fun _ => hlt, fun _ => first_bef m e (List.mem_of_getElem? h2)⟩
  · rw [List.getElem?_append_right (by omega)] at h2
    have := hr.rest m e (List.mem_of_getElem? h2)
    exact ⟨fun q => absurd q this, fun q => absurd q hlt⟩
end Go.Proofs.Ytghfhojpnbpjoaa
