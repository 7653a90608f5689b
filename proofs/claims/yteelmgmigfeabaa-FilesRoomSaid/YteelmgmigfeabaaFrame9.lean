/-
  Opening arguments: lists of bools, of numbers of 16 bits.
-/
import Derived.Test.YteelmgmigfeabaaFrame8
import Derived.Deep.Slices
namespace Go.Proofs.Yteelmgmigfeabaa
open Go.ChangeShapes Go.WideShapes Go.ChangeAt Go.RowKit Go.Deep
set_option linter.unusedVariables false
set_option maxRecDepth 100000

/-- a list of one cell each, read one by one -/
theorem list_one {α : Type} {W : World} (f : α → Value) (p : α → Prop) (x : Addr) (n : Nat) (h : ∀ i, i < n → ∃ a : α, p a ∧ W.cell? (x.add i) = some (f a)) :
    ∃ l : List α, l.length = n ∧ Lies W W.heap.size 1 (some x) n (l.map f) ∧ ∀ a ∈ l, p a := by
  have hall : ∀ k, k ≤ n → ∃ l : List α, l.length = k ∧ ∀ i a, l[i]? = some a → p a ∧ W.cell? (x.add i) = some (f a) := by
    intro k
    induction k with
    | zero => exact fun _ => ⟨[], rfl, fun i a ha => by simp at ha⟩
    | succ k ih =>
      intro hk
      obtain ⟨l, hl, hl2⟩ := ih (by omega)
      obtain ⟨q, hq⟩ := h k (by omega)
      refine ⟨l ++ [q], by simp [hl], fun i a ha => ?_⟩
      by_cases hik : i < k
      · rw [List.getElem?_append_left (by omega)] at ha
        exact hl2 i a ha
      · have : i = k := by
          have := (List.getElem?_eq_some_iff.1 ha).1
          simp at this; omega
        subst this
        rw [List.getElem?_append_right (by omega), hl] at ha
        simp at ha
        subst ha
        exact hq
  obtain ⟨l, hl1, hl2⟩ := hall n (Nat.le_refl _)
  refine ⟨l, hl1, ⟨by simp; omega, fun i hi => ?_⟩, fun a ha => ?_⟩
  · have hi2 : i < l.length := by simpa using hi
    obtain ⟨_, h1⟩ := hl2 i l[i] (List.getElem?_eq_getElem hi2)
    refine ⟨x, _, rfl, ?_, ?_, h1⟩
    · have := World.block_lt_of_cell? W _ h1; rw [add_block] at this; exact this
    · rw [List.getElem?_map, List.getElem?_eq_getElem hi2]; rfl
  · obtain ⟨i, hi, rfl⟩ := List.getElem_of_mem ha
    exact (hl2 i _ (List.getElem?_eq_getElem hi)).1

section
variable {H : Type} {enc : TypeId × Value → H} {W : World}
/-- an argument that is a list of bools -/
theorem fr_bools {t e : TypeId} {v : Value} {d : DataW H} {p : List MemPlace} {ts : List TypeId} {ds : List (DataW H)} {j base : Nat} (ht : Try.prog.underlying t = some (.slice e)) (he : Try.prog.underlying e = some .bool) (hc : Try.prog.cellsOf e = 1) (hby : Try.prog.bytesOf e = 1)
    (hv : Value.okWide Try.prog W .any base t v) (h : DataW.Trod enc Try.prog W 0 (fun _ => true) true t v d p) (hsz : (DataW.weightsEach Try.prog ts ds).all (· ≤ reachBytes) = true) (hjt : ts[j]? = some t) (hjd : ds[j]? = some d) :
    ∃ (A : Option Addr) (n c : Nat) (l : List Bool), v = .slice A n c ∧ Lies W W.heap.size 1 A n (l.map Value.bool) ∧ n ≤ c ∧ c ≤ 140737488351232 := by
  obtain ⟨A, n, c, rfl⟩ := okWide_slice ht hv
  obtain ⟨fuel, hf⟩ := h
  rcases Go.Deep.open_slice1 ht hc hf with ⟨hcs, hx⟩ | ⟨a, len, cap, m, k, V, D, Pl, hcs, _, hl, hm, hmm, hx, hcell⟩
  · simp [Value.cells] at hcs
    obtain ⟨rfl, rfl, rfl⟩ := hcs
    exact ⟨none, 0, 0, [], rfl, Lies.none_ _ _ _ _, Nat.le_refl _, by omega⟩
  · simp [Value.cells] at hcs
    obtain ⟨rfl, rfl, rfl⟩ := hcs
    simp only [Prod.mk.injEq] at hx
    obtain ⟨rfl, _⟩ := hx
    have hmc : m = c := by simpa using hmm
    subst hmc
    have hs := sized_slice hsz hjt hjd ht
    rw [hby] at hs
    simp only [List.length_map, List.length_range, reachBytes] at hs
    obtain ⟨l, hl1, hl2, _⟩ := list_one (W := W) Value.bool (fun _ => True) a n (fun i hi => by
      obtain ⟨h1, h2⟩ := hcell i (by omega)
      obtain ⟨b, hb, _⟩ := DataW.trod_bool he h2
      refine ⟨b, trivial, ?_⟩
      rw [h1]; injection hb with hb _; rw [hb])
    exact ⟨some a, n, m, l, rfl, hl2, hl, by omega⟩
/-- an argument of numbers of 16 bits -/
theorem fr_u16s {t e : TypeId} {v : Value} {d : DataW H} {p : List MemPlace} {ts : List TypeId} {ds : List (DataW H)} {j base : Nat} (ht : Try.prog.underlying t = some (.slice e)) (he : Try.prog.underlying e = some (.int .u16)) (hc : Try.prog.cellsOf e = 1) (hby : Try.prog.bytesOf e = 2)
    (hv : Value.okWide Try.prog W .any base t v) (h : DataW.Trod enc Try.prog W 0 (fun _ => true) true t v d p) (hsz : (DataW.weightsEach Try.prog ts ds).all (· ≤ reachBytes) = true) (hjt : ts[j]? = some t) (hjd : ds[j]? = some d) :
    ∃ (A : Option Addr) (n c : Nat) (l : List Nat), v = .slice A n c ∧ Lies W W.heap.size 1 A n (l.map (fun x : Nat => Value.int .u16 (x : Int))) ∧ (∀ x ∈ l, x < 65536) ∧ n ≤ c ∧ c ≤ 140737488351232 := by
  obtain ⟨A, n, c, rfl⟩ := okWide_slice ht hv
  obtain ⟨fuel, hf⟩ := h
  rcases Go.Deep.open_slice1 ht hc hf with ⟨hcs, hx⟩ | ⟨a, len, cap, m, k, V, D, Pl, hcs, _, hl, hm, hmm, hx, hcell⟩
  · simp [Value.cells] at hcs
    obtain ⟨rfl, rfl, rfl⟩ := hcs
    exact ⟨none, 0, 0, [], rfl, Lies.none_ _ _ _ _, (fun x hx => by cases hx), Nat.le_refl _, by omega⟩
  · simp [Value.cells] at hcs
    obtain ⟨rfl, rfl, rfl⟩ := hcs
    simp only [Prod.mk.injEq] at hx
    obtain ⟨rfl, _⟩ := hx
    have hmc : m = c := by simpa using hmm
    subst hmc
    have hs := sized_slice hsz hjt hjd ht
    rw [hby] at hs
    simp only [List.length_map, List.length_range, reachBytes] at hs
    obtain ⟨l, hl1, hl2, hl3⟩ := list_one (W := W) (fun x : Nat => Value.int .u16 (x : Int)) (fun x => x < 65536) a n (fun i hi => by
      obtain ⟨h1, h2⟩ := hcell i (by omega)
      obtain ⟨z, hz, _, hw⟩ := DataW.trod_int he h2
      have hz0 := wf_u16 hw
      obtain ⟨q, rfl⟩ := Int.eq_ofNat_of_zero_le hz0.1
      refine ⟨q, by omega, ?_⟩
      rw [h1]; injection hz with hz _; rw [hz])
    exact ⟨some a, n, m, l, rfl, hl2, hl3, hl, by omega⟩
end
end Go.Proofs.Yteelmgmigfeabaa
