/-
  Opening a law's arguments: arrays of arrays of bytes, lists of arrays of bytes.
-/
import Derived.Test.YtcbeimoolndomaaFrame
namespace Go.Proofs.Ytcbeimoolndomaa
set_option linter.unusedVariables false
open Go.ChangeShapes Go.WideShapes Go.ChangeAt Go.RowKit

theorem bytes_all : ∀ (l : List Value), (∀ u ∈ l, ∃ z : Int, u = .int .u8 z ∧ (Lit.int .u8 z).wf = true) → ∃ q : List UInt8, l = q.map bv := by
  intro l
  induction l with
  | nil => exact fun _ => ⟨[], rfl⟩
  | cons u l ih =>
    intro hl
    obtain ⟨q, hq⟩ := ih (fun x hx => hl x (by simp [hx]))
    obtain ⟨z, rfl, hw⟩ := hl u (by simp)
    have h0 := wf_u8 hw
    refine ⟨UInt8.ofNat z.toNat :: q, ?_⟩
    rw [List.map_cons, ← hq]
    congr 1
    unfold bv
    rw [UInt8.toNat_ofNat']
    congr 1
    omega

/-- an argument that is an array of arrays of bytes -/
theorem fr_arrs {H : Type} {enc : TypeId × Value → H} {W : World} {t e f : TypeId} {n m : Nat} {v : Value} {d : DataW H} {p : List MemPlace} {base : Nat} (ht : Try.prog.underlying t = some (.array n e)) (he : Try.prog.underlying e = some (.array m f)) (hf : Try.prog.underlying f = some (.int .u8)) (hcf : Try.prog.cellsOf f = 1) (hce : Try.prog.cellsOf e = m) (hct : Try.prog.cellsOf t = n * m) (hm : 0 < m)
    (hv : Value.okWide Try.prog W .any base t v) (h : DataW.Trod enc Try.prog W 0 (fun _ => true) true t v d p) :
    ∃ l : List UInt8, v = .agg (l.map bv).toArray ∧ l.length = n * m := by
  unfold Value.okWide at hv
  rw [ht] at hv
  obtain ⟨cs, rfl, hsz, _⟩ := hv
  obtain ⟨fuel, hfu⟩ := h
  obtain ⟨xs, k1, _, _, _, hxl, hxs⟩ := DataW.trod_array ht hfu
  simp only [Value.cells] at hxs
  rw [hct] at hsz
  have hcell : ∀ i, i < n * m → ∃ z : Int, cs.toList[i]? = some (.int .u8 z) ∧ (Lit.int .u8 z).wf = true := by
    intro i hi
    have hq : i / m < n := Nat.div_lt_of_lt_mul (by rw [Nat.mul_comm]; exact hi)
    have h1 := hxs (i / m) hq
    rw [hce] at h1
    obtain ⟨y, hy⟩ : ∃ y, xs[i / m]? = some y := ⟨xs[i / m]'(by omega), List.getElem?_eq_getElem (by omega)⟩
    rw [hy] at h1
    obtain ⟨ys, k2, _, _, _, hyl, hys⟩ := DataW.trod_array he h1
    have hr : i % m < m := Nat.mod_lt _ hm
    have h2 := hys (i % m) hr
    rw [hcf, Nat.mul_one] at h2
    obtain ⟨y2, hy2⟩ : ∃ y, ys[i % m]? = some y := ⟨ys[i % m]'(by omega), List.getElem?_eq_getElem (by omega)⟩
    rw [hy2] at h2
    obtain ⟨z, hz, _, hw⟩ := DataW.trod_int hf h2
    refine ⟨z, ?_, hw⟩
    have h3 := congrArg (fun l : List Value => l[0]?) hz
    simp only [List.getElem?_take, List.getElem?_drop, List.getElem?_cons_zero] at h3
    rw [if_pos (by decide), if_pos (by omega)] at h3
    rw [← h3]
    congr 1
    have := Nat.div_add_mod i m
    rw [Nat.mul_comm] at this
    omega
  obtain ⟨q, hq⟩ := bytes_all cs.toList (fun u hu => by
    obtain ⟨i, hi, hiu⟩ := List.getElem_of_mem hu
    have hi2 : i < n * m := by rw [← hsz]; simpa using hi
    obtain ⟨z, hz, hw⟩ := hcell i hi2
    rw [List.getElem?_eq_getElem hi, hiu] at hz
    injection hz with hz
    exact ⟨z, hz, hw⟩)
  refine ⟨q, ?_, ?_⟩
  · rw [← hq]
  · have := congrArg List.length hq
    simp at this
    omega
end Go.Proofs.Ytcbeimoolndomaa
