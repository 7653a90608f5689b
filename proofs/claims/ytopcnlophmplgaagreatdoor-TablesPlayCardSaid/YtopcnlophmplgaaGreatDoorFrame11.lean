/-
  Opening a law's arguments: lists of layer 7's acts.
-/
import Derived.Test.YtopcnlophmplgaaGreatDoorFrame6
import Derived.Test.YtopcnlophmplgaaGreatDoorActs7
namespace Go.Proofs.YtopcnlophmplgaaGreatDoor
set_option linter.unusedVariables false
set_option maxRecDepth 100000
open Go.ChangeShapes Go.WideShapes Go.ChangeAt Go.RowKit Go.Deep

section
variable {H : Type} {enc : TypeId × Value → H} {W : World}
/-- cells that read as an act -/
theorem trod_act7 {fuel : Nat} {cs : List Value} {x : DataW H × List MemPlace} (h : DataW.trod enc Tryz.prog W 0 (fun _ => true) true fuel 85 cs = some x) :
    ∃ q : Ac7, cs = q.cs ∧ ((∀ z, z ∈ DataW.weights Tryz.prog 85 x.1 → z ≤ 140737488351232) → q.Ok) := by
  obtain ⟨y0, y1, y2, n, hx, hl, h0, h1, h2⟩ := trod_struct3 Tryz.underlying85 h
  obtain ⟨k, e0, _, w0⟩ := DataW.trod_int Tryz.underlying5 h0
  obtain ⟨m, e1, ms, mk, mx⟩ := trod_entry h1
  obtain ⟨a, e2, _, w2⟩ := DataW.trod_int Tryz.underlying3 h2
  have hk := wf_u8 w0
  obtain ⟨kk, rfl⟩ := Int.eq_ofNat_of_zero_le hk.1
  have h2w := wf_i64 w2
  have hC : Tryz.prog.cellsOf 85 = 6 := by kernel_rfl
  have c0 : Tryz.prog.cellsOf 5 = 1 := by kernel_rfl
  have c1 : Tryz.prog.cellsOf 83 = 4 := by kernel_rfl
  have c2 : Tryz.prog.cellsOf 3 = 1 := by kernel_rfl
  rw [hC] at hl
  simp only [c0] at e0; simp only [c1] at e1; simp only [c2] at e2
  have hW : DataW.weights Tryz.prog 85 x.1 = DataW.weightsEach Tryz.prog [5, 83, 3] [y0.1, y1.1, y2.1] := by
    rw [hx]
    simp only [DataW.weights, Tryz.underlying85]
    rfl
  refine ⟨⟨kk, m, a⟩, ?_, fun hb => ?_⟩
  · match cs, hl with
    | [a0, b, c, d, e, f], _ => simp at e0 e1 e2; simp [Ac7.cs, e0, e1, e2]
  · have hin : ∀ z, z ∈ DataW.weights Tryz.prog 83 y1.1 → z ≤ 140737488351232 := fun z hz => hb z (by rw [hW]; exact DataW.weights_mem_each (j := 1) rfl rfl _ hz)
    exact ⟨by show kk < 256; omega, ms, hin _ mk, hin _ mx, h2w.1, h2w.2⟩
/-- an argument that is a list of acts -/
theorem fr_acts7 {v : Value} {d : DataW H} {p : List MemPlace} {ts : List TypeId} {ds : List (DataW H)} {j base : Nat}
    (hv : Value.okWide Tryz.prog W .any base 71 v) (h : DataW.Trod enc Tryz.prog W 0 (fun _ => true) true 71 v d p) (hsz : (DataW.weightsEach Tryz.prog ts ds).all (· ≤ reachBytes) = true) (hjt : ts[j]? = some 71) (hjd : ds[j]? = some d) :
    ∃ (A : Option Addr) (n c : Nat) (l : List Ac7), v = .slice A n c ∧ Lies W W.heap.size 6 A n (acs7 l) ∧ (∀ x ∈ l, x.Ok) ∧ n ≤ c ∧ c ≤ 140737488351232 := by
  obtain ⟨A, n, c, rfl⟩ := okWide_slice Tryz.underlying71 hv
  obtain ⟨fuel, hf⟩ := h
  rcases Go.Deep.open_slice Tryz.underlying71 hf with ⟨hcs, hx⟩ | ⟨a, len, cap, m, k, D, Pl, hcs, _, hl, hm, hmm, hx, hcell⟩
  · simp [Value.cells] at hcs
    obtain ⟨rfl, rfl, rfl⟩ := hcs
    exact ⟨none, 0, 0, [], rfl, Lies.none_ _ _ _ _, (fun m h => by cases h), Nat.le_refl _, by omega⟩
  · simp [Value.cells] at hcs
    obtain ⟨rfl, rfl, rfl⟩ := hcs
    simp only [Prod.mk.injEq] at hx
    obtain ⟨rfl, _⟩ := hx
    have hmc : m = c := by simpa using hmm
    subst hmc
    have hs := sized_slice hsz hjt hjd Tryz.underlying71
    have hb : 1 ≤ Tryz.prog.bytesOf 85 := of_decide_eq_true (by kernel_rfl)
    simp only [List.length_map, List.length_range, reachBytes] at hs
    have hc2 : m ≤ 140737488351232 := by
      have : m * 1 ≤ (n + (m - n)) * Tryz.prog.bytesOf 85 := Nat.mul_le_mul (by omega) hb
      omega
    have hC : Tryz.prog.cellsOf 85 = 6 := by kernel_rfl
    have hone : ∀ i, i < n → ∃ q : Ac7, q.Ok ∧ ∀ j, j < 6 → W.cell? (a.add (i * 6 + j)) = (Ac7.cs q)[j]? := by
      intro i hi
      obtain ⟨cs', hc', ht'⟩ := hcell i (by omega)
      rw [hC] at hc'
      obtain ⟨q, e, hq⟩ := trod_act7 ht'
      obtain ⟨_, _, hat⟩ := World.cells?_some hc'
      have hmem : ∀ z, z ∈ DataW.weights Tryz.prog 85 (D i) → z ∈ DataW.weights Tryz.prog 71 (DataW.slice ((List.range n).map D) ((List.range (m - n)).map fun j => D (n + j)) : DataW H) := fun z hz => by
        simp only [DataW.weights, Tryz.underlying71]
        exact List.mem_cons_of_mem _ (List.mem_append_left _ (weights_all6 hz (List.mem_map_of_mem (List.mem_range.2 hi))))
      refine ⟨q, hq fun z hz => reach_of hsz hjt hjd (hmem z hz), fun j hj => ?_⟩
      rw [← add_add, hat j hj, e]
    obtain ⟨l, hll, hly, hat⟩ := list_lies (W := W) (fun q : {q : Ac7 // q.Ok} => Ac7.cs q.1) 6 (fun _ => rfl) (by decide) a n (fun i hi => by
      obtain ⟨q, hq, hc⟩ := hone i hi
      exact ⟨⟨q, hq⟩, hc⟩)
    refine ⟨some a, n, m, l.map (·.1), rfl, ?_, fun q hq => ?_, hl, hc2⟩
    · unfold acs7; rw [List.flatMap_map]; exact hly
    · obtain ⟨q', _, rfl⟩ := List.mem_map.1 hq
      exact q'.2
end
end Go.Proofs.YtopcnlophmplgaaGreatDoor
