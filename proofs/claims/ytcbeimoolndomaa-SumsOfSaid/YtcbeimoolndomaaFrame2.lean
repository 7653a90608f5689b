/-
  Opening a law's arguments: arrays of numbers of 32 bits.
-/
import Derived.Test.YtcbeimoolndomaaFrame
import Derived.Test.YtcbeimoolndomaaSumsA
namespace Go.Proofs.Ytcbeimoolndomaa
set_option linter.unusedVariables false
open Go.ChangeShapes Go.WideShapes Go.ChangeAt Go.RowKit

/-- an argument that is an array of numbers -/
theorem fr_arr32 {H : Type} {enc : TypeId × Value → H} {W : World} {t e : TypeId} {n : Nat} {v : Value} {d : DataW H} {p : List MemPlace} {base : Nat} (ht : Try.prog.underlying t = some (.array n e)) (he : Try.prog.underlying e = some (.int .u32)) (hc : Try.prog.cellsOf e = 1) (hct : Try.prog.cellsOf t = n)
    (hv : Value.okWide Try.prog W .any base t v) (h : DataW.Trod enc Try.prog W 0 (fun _ => true) true t v d p) :
    ∃ l : List Nat, v = .agg (arr l) ∧ l.length = n ∧ Crc.Small l := by
  unfold Value.okWide at hv
  rw [ht] at hv
  obtain ⟨cs, rfl, hsz, _⟩ := hv
  obtain ⟨fuel, hf⟩ := h
  obtain ⟨xs, m, _, _, _, hxl, hxs⟩ := DataW.trod_array ht hf
  simp only [Value.cells] at hxs
  rw [hct] at hsz
  have hcell : ∀ i, i < n → ∃ z : Int, cs.toList[i]? = some (.int .u32 z) ∧ (Lit.int .u32 z).wf = true := by
    intro i hi
    have h1 := hxs i hi
    rw [hc, Nat.mul_one] at h1
    obtain ⟨y, hy⟩ : ∃ y, xs[i]? = some y := ⟨xs[i]'(by omega), List.getElem?_eq_getElem (by omega)⟩
    rw [hy] at h1
    obtain ⟨z, hz, _, hw⟩ := DataW.trod_int he h1
    refine ⟨z, ?_, hw⟩
    have h2 : ((cs.toList.drop i).take 1)[0]? = some (.int .u32 z) := by rw [hz]; rfl
    rw [List.getElem?_take, if_pos (by decide), List.getElem?_drop, Nat.add_zero] at h2
    exact h2
  have hall : ∀ (l : List Value), (∀ u ∈ l, ∃ z : Int, u = .int .u32 z ∧ (Lit.int .u32 z).wf = true) → ∃ q : List Nat, l = q.map nv ∧ Crc.Small q := by
    intro l
    induction l with
    | nil => exact fun _ => ⟨[], rfl, fun x hx => by cases hx⟩
    | cons u l ih =>
      intro hl
      obtain ⟨q, hq, hqs⟩ := ih (fun x hx => hl x (by simp [hx]))
      obtain ⟨z, rfl, hw⟩ := hl u (by simp)
      have h0 := wf_u32 hw
      refine ⟨z.toNat :: q, ?_, ?_⟩
      · rw [List.map_cons, ← hq]
        congr 1
        unfold nv
        congr 1
        omega
      · intro x hx
        rcases List.mem_cons.1 hx with rfl | hx
        · omega
        · exact hqs x hx
  obtain ⟨q, hq, hqs⟩ := hall cs.toList (fun u hu => by
    obtain ⟨i, hi, hiu⟩ := List.getElem_of_mem hu
    have hi2 : i < n := by rw [← hsz]; simpa using hi
    obtain ⟨z, hz, hw⟩ := hcell i hi2
    rw [List.getElem?_eq_getElem hi, hiu] at hz
    injection hz with hz
    exact ⟨z, hz, hw⟩)
  refine ⟨q, ?_, ?_, hqs⟩
  · unfold arr; rw [← hq]
  · have := congrArg List.length hq
    simp at this
    omega
end Go.Proofs.Ytcbeimoolndomaa
