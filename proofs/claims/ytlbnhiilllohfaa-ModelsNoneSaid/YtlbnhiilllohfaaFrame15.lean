/-
  Opening a law's arguments: a request, of which only its cells are told.
-/
import Derived.Test.YtlbnhiilllohfaaFrame
import Derived.WideShapes
namespace Go.Proofs.Ytlbnhiilllohfaa
set_option linter.unusedVariables false
set_option maxRecDepth 100000
open Go.ChangeShapes Go.WideShapes Go.ChangeAt Go.RowKit

section
variable {H : Type} {enc : TypeId × Value → H} {W : World}
/-- an argument that is a request: eight values -/
theorem fr_ask {v : Value} {d : DataW H} {p : List MemPlace} {base : Nat}
    (hv : Value.okWide Try.prog W .any base 26 v) (h : DataW.Trod enc Try.prog W 0 (fun _ => true) true 26 v d p) :
    ∃ v0 v1 v2 v3 v4 v5 v6 v7 : Value, v = .agg #[v0, v1, v2, v3, v4, v5, v6, v7] := by
  obtain ⟨⟨l⟩, rfl, hl⟩ := okWide_struct Try.underlying26 hv
  have hC : Try.prog.cellsOf 26 = 8 := by kernel_rfl
  rw [hC] at hl
  match l, hl with
  | [a, b, c, d, e, f, g, h], _ => exact ⟨a, b, c, d, e, f, g, h, rfl⟩
end
end Go.Proofs.Ytlbnhiilllohfaa
