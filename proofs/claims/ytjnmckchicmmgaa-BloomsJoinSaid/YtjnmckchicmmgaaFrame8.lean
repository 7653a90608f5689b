/-
  Opening arguments: two strings, two numbers of 16 bits, by value.
-/
import Derived.Test.YtjnmckchicmmgaaFrame
namespace Go.Proofs.Ytjnmckchicmmgaa
open Go.ChangeShapes Go.WideShapes Go.ChangeAt Go.RowKit
set_option linter.unusedVariables false
set_option maxRecDepth 100000

theorem reach8 {H : Type} {ts : List TypeId} {ds : List (DataW H)} {j : Nat} {t : TypeId} {d : DataW H} {x : Nat} (hsz : (DataW.weightsEach Try.prog ts ds).all (· ≤ reachBytes) = true) (hjt : ts[j]? = some t) (hjd : ds[j]? = some d) (hx : x ∈ DataW.weights Try.prog t d) : x ≤ 140737488351232 := by
  have h3 := List.all_eq_true.1 hsz _ (DataW.weights_mem_each hjt hjd _ hx)
  have h4 : x ≤ reachBytes := of_decide_eq_true h3
  unfold reachBytes at h4
  exact h4
theorem weights8 {H : Type} {P : Program} {e : TypeId} {d : DataW H} {x : Nat} (hx : x ∈ DataW.weights P e d) : ∀ {l : List (DataW H)}, d ∈ l → x ∈ DataW.weightsAll P e l
  | a :: l, h => by
    simp only [DataW.weightsAll]
    rcases List.mem_cons.1 h with rfl | h
    · exact List.mem_append_left _ hx
    · exact List.mem_append_right _ (weights8 hx h)
/-- an argument that is two strings -/
theorem fr_str2 {H : Type} {enc : TypeId × Value → H} {W : World} {v : Value} {d : DataW H} {p : List MemPlace} {ts : List TypeId} {ds : List (DataW H)} {j base : Nat}
    (hv : Value.okWide Try.prog W .any base 37 v) (h : DataW.Trod enc Try.prog W 0 (fun _ => true) true 37 v d p) (hsz : (DataW.weightsEach Try.prog ts ds).all (· ≤ reachBytes) = true) (hjt : ts[j]? = some 37) (hjd : ds[j]? = some d) :
    ∃ a b : ByteArray, v = .agg #[.string a, .string b] ∧ a.size ≤ 140737488351232 ∧ b.size ≤ 140737488351232 := by
  have ht := Try.underlying37
  have he := Try.underlying9
  have hc : Try.prog.cellsOf 9 = 1 := by kernel_rfl
  have hct : Try.prog.cellsOf 37 = 2 := by kernel_rfl
  unfold Value.okWide at hv
  rw [ht] at hv
  obtain ⟨cs, rfl, hs2, _⟩ := hv
  obtain ⟨fuel, hf⟩ := h
  obtain ⟨xs, m, _, hx, _, hxl, hxs⟩ := DataW.trod_array ht hf
  simp only [Value.cells] at hxs
  rw [hct] at hs2
  have hd : d = .agg (xs.map (·.1)) := congrArg Prod.fst hx
  have hcell : ∀ i, i < 2 → ∃ z : ByteArray, cs.toList[i]? = some (.string z) ∧ z.size ≤ 140737488351232 := by
    intro i hi
    have h1 := hxs i hi
    rw [hc, Nat.mul_one] at h1
    obtain ⟨y, hy⟩ : ∃ y, xs[i]? = some y := ⟨xs[i]'(by omega), List.getElem?_eq_getElem (by omega)⟩
    rw [hy] at h1
    obtain ⟨z, hz, hz2, _⟩ := DataW.trod_string he h1
    refine ⟨z, ?_, reach8 hsz hjt hjd ?_⟩
    · have h2 : ((cs.toList.drop i).take 1)[0]? = some (.string z) := by rw [hz]; rfl
      rw [List.getElem?_take, if_pos (by decide), List.getElem?_drop, Nat.add_zero] at h2
      exact h2
    · rw [hd]
      simp only [DataW.weights, ht]
      refine weights8 (d := y.1) ?_ (List.mem_map.2 ⟨y, List.mem_of_getElem? hy, rfl⟩)
      rw [hz2]
      have : z.data.toList.length = z.size := by rw [Array.length_toList]; rfl
      simp only [DataW.weights]
      rw [this]; simp
  obtain ⟨a, ha, ha2⟩ := hcell 0 (by decide)
  obtain ⟨b, hb, hb2⟩ := hcell 1 (by decide)
  refine ⟨a, b, ?_, ha2, hb2⟩
  obtain ⟨l⟩ := cs
  match l, hs2 with
  | [x, y], _ => simp at ha hb; rw [ha, hb]
end Go.Proofs.Ytjnmckchicmmgaa
