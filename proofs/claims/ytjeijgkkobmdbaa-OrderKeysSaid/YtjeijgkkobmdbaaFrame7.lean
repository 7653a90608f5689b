/-
  Opening a law's arguments: two numbers of 64 bits.
-/
import Derived.Test.YtjeijgkkobmdbaaFrame6
namespace Go.Proofs.Ytjeijgkkobmdbaa
set_option linter.unusedVariables false
open Go.ChangeShapes Go.WideShapes Go.ChangeAt Go.RowKit

theorem fr_two64 {H : Type} {enc : TypeId × Value → H} {W : World} {v : Value} {d : DataW H} {p : List MemPlace} {base : Nat}
    (hv : Value.okWide Try.prog W .any base 49 v) (h : DataW.Trod enc Try.prog W 0 (fun _ => true) true 49 v d p) :
    ∃ a b : Nat, v = .agg #[.int .u64 (a : Int), .int .u64 (b : Int)] ∧ a < 18446744073709551616 ∧ b < 18446744073709551616 := by
  have ht := Try.underlying49
  have he := Try.underlying22
  have hc : Try.prog.cellsOf 22 = 1 := by kernel_rfl
  have hct : Try.prog.cellsOf 49 = 2 := by kernel_rfl
  unfold Value.okWide at hv
  rw [ht] at hv
  obtain ⟨cs, rfl, hsz, _⟩ := hv
  obtain ⟨fuel, hf⟩ := h
  obtain ⟨xs, m, _, _, _, hxl, hxs⟩ := DataW.trod_array ht hf
  simp only [Value.cells] at hxs
  rw [hct] at hsz
  have hcell : ∀ i, i < 2 → ∃ z : Nat, cs.toList[i]? = some (.int .u64 (z : Int)) ∧ z < 18446744073709551616 := by
    intro i hi
    have h1 := hxs i hi
    rw [hc, Nat.mul_one] at h1
    obtain ⟨y, hy⟩ : ∃ y, xs[i]? = some y := ⟨xs[i]'(by omega), List.getElem?_eq_getElem (by omega)⟩
    rw [hy] at h1
    obtain ⟨z, hz, _, hw⟩ := DataW.trod_int he h1
    have hz0 := wf_u64 hw
    obtain ⟨q, rfl⟩ := Int.eq_ofNat_of_zero_le hz0.1
    refine ⟨q, ?_, by omega⟩
    have h2 : ((cs.toList.drop i).take 1)[0]? = some (.int .u64 (q : Int)) := by rw [hz]; rfl
    rw [List.getElem?_take, if_pos (by decide), List.getElem?_drop, Nat.add_zero] at h2
    exact h2
  obtain ⟨a, ha, ha2⟩ := hcell 0 (by decide)
  obtain ⟨b, hb, hb2⟩ := hcell 1 (by decide)
  refine ⟨a, b, ?_, ha2, hb2⟩
  obtain ⟨l⟩ := cs
  match l, hsz with
  | [x, y], _ => simp at ha hb; rw [ha, hb]
end Go.Proofs.Ytjeijgkkobmdbaa
