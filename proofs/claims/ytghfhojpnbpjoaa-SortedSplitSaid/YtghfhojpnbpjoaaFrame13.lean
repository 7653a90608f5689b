/-
  Opening a law's argument: a mark and a number (bucketlinelaw10.Look).
-/
import Derived.Test.YtghfhojpnbpjoaaFrame6
namespace Go.Proofs.Ytghfhojpnbpjoaa
set_option linter.unusedVariables false
set_option maxRecDepth 100000
open Go.ChangeShapes Go.WideShapes Go.ChangeAt Go.RowKit Go.Deep

/-- what is looked for -/
def lookV (m : Mk) (t : Int) : Value := .agg #[.string m.k, .int .u64 (m.s : Int), .bool m.g, .int .i64 t]
section
variable {H : Type} {enc : TypeId × Value → H} {W : World}
theorem trod_look {base : Nat} {sp : Nat → Bool} {held : Bool} {fuel : Nat} {cs : List Value} {x : DataW H × List MemPlace} (h : DataW.trod enc Try.prog W base sp held fuel 53 cs = some x) :
    ∃ (m : Mk) (t : Int), cs = [.string m.k, .int .u64 (m.s : Int), .bool m.g, .int .i64 t] ∧ m.s < 18446744073709551616 ∧ (-9223372036854775808 ≤ t ∧ t ≤ 9223372036854775807) ∧ m.k.size ∈ DataW.weights Try.prog 53 x.1 := by
  obtain ⟨y0, y1, n, rfl, hl, h0, h1⟩ := trod_struct2 Try.underlying53 h
  obtain ⟨m, e0, ms, mw⟩ := trod_mark h0
  obtain ⟨t, e1, _, wt⟩ := DataW.trod_int Try.underlying3 h1
  have ht := wf_i64 wt
  have hC : Try.prog.cellsOf 53 = 4 := by kernel_rfl
  have c0 : Try.prog.cellsOf 38 = 3 := by kernel_rfl
  have c1 : Try.prog.cellsOf 3 = 1 := by kernel_rfl
  rw [hC] at hl
  simp only [c0] at e0; simp only [c1] at e1
  refine ⟨m, t, ?_, ms, by omega, ?_⟩
  · match cs, hl with
    | [a, b, c, d], _ => simp at e0 e1; simp [e0, e1]
  · simp only [DataW.weights, Try.underlying53, List.map_cons, List.map_nil, DataW.weightsEach]
    exact List.mem_append_left _ mw
/-- an argument that is a mark and a number -/
theorem fr_look {v : Value} {d : DataW H} {p : List MemPlace} {ts : List TypeId} {ds : List (DataW H)} {j base : Nat}
    (hv : Value.okWide Try.prog W .any base 53 v) (h : DataW.Trod enc Try.prog W 0 (fun _ => true) true 53 v d p) (hsz : (DataW.weightsEach Try.prog ts ds).all (· ≤ reachBytes) = true) (hjt : ts[j]? = some 53) (hjd : ds[j]? = some d) :
    ∃ (m : Mk) (t : Int), v = lookV m t ∧ m.s < 18446744073709551616 ∧ m.k.size ≤ 140737488351232 ∧ (-9223372036854775808 ≤ t ∧ t ≤ 9223372036854775807) := by
  obtain ⟨cs, rfl, _⟩ := okWide_struct Try.underlying53 hv
  obtain ⟨fuel, hf⟩ := h
  obtain ⟨m, t, e, ms, ht, mw⟩ := trod_look hf
  refine ⟨m, t, ?_, ms, reach_of hsz hjt hjd mw, ht⟩
  obtain ⟨l⟩ := cs
  have : l = [.string m.k, .int .u64 (m.s : Int), .bool m.g, .int .i64 t] := by simpa [Value.cells] using e
  rw [this]; rfl
end
end Go.Proofs.Ytghfhojpnbpjoaa
