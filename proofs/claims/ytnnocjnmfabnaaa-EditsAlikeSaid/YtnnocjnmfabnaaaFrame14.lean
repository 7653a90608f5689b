/-
  Opening a law's arguments: lists of files; edits.
-/
import Derived.Test.YtnnocjnmfabnaaaFrame6
import Derived.Test.YtnnocjnmfabnaaaEdN
import Derived.Test.YtnnocjnmfabnaaaEdC
namespace Go.Proofs.Ytnnocjnmfabnaaa
set_option linter.unusedVariables false
set_option maxRecDepth 100000
open Go.ChangeShapes Go.WideShapes Go.ChangeAt Go.RowKit Go.Deep

section
variable {H : Type} {enc : TypeId × Value → H} {W : World}
theorem trod_structA {t : TypeId} {f0 f1 f2 f3 : Field} {fuel : Nat} {cs : List Value} {x : DataW H × List MemPlace} (ht : Try.prog.underlying t = some (.struct #[f0, f1, f2, f3])) (h : DataW.trod enc Try.prog W 0 (fun _ => true) true fuel t cs = some x) :
    ∃ y0 y1 y2 y3 n, x.1 = .agg [y0.1, y1.1, y2.1, y3.1] ∧ cs.length = Try.prog.cellsOf t ∧ DataW.trod enc Try.prog W 0 (fun _ => true) true n f0.type ((cs.drop f0.offset).take (Try.prog.cellsOf f0.type)) = some y0 ∧
      DataW.trod enc Try.prog W 0 (fun _ => true) true n f1.type ((cs.drop f1.offset).take (Try.prog.cellsOf f1.type)) = some y1 ∧ DataW.trod enc Try.prog W 0 (fun _ => true) true n f2.type ((cs.drop f2.offset).take (Try.prog.cellsOf f2.type)) = some y2 ∧
      DataW.trod enc Try.prog W 0 (fun _ => true) true n f3.type ((cs.drop f3.offset).take (Try.prog.cellsOf f3.type)) = some y3 := by
  obtain ⟨xs, n, _, rfl, hl, hlen, hf⟩ := DataW.trod_struct ht h
  match xs, hlen with
  | [y0, y1, y2, y3], _ => exact ⟨y0, y1, y2, y3, n, by simp, hl, by simpa using hf 0 f0 rfl, by simpa using hf 1 f1 rfl, by simpa using hf 2 f2 rfl, by simpa using hf 3 f3 rfl⟩
theorem trod_structE {t : TypeId} {f0 f1 f2 f3 f4 : Field} {fuel : Nat} {cs : List Value} {x : DataW H × List MemPlace} (ht : Try.prog.underlying t = some (.struct #[f0, f1, f2, f3, f4])) (h : DataW.trod enc Try.prog W 0 (fun _ => true) true fuel t cs = some x) :
    ∃ y0 y1 y2 y3 y4 n, x.1 = .agg [y0.1, y1.1, y2.1, y3.1, y4.1] ∧ cs.length = Try.prog.cellsOf t ∧ DataW.trod enc Try.prog W 0 (fun _ => true) true n f0.type ((cs.drop f0.offset).take (Try.prog.cellsOf f0.type)) = some y0 ∧
      DataW.trod enc Try.prog W 0 (fun _ => true) true n f1.type ((cs.drop f1.offset).take (Try.prog.cellsOf f1.type)) = some y1 ∧ DataW.trod enc Try.prog W 0 (fun _ => true) true n f2.type ((cs.drop f2.offset).take (Try.prog.cellsOf f2.type)) = some y2 ∧
      DataW.trod enc Try.prog W 0 (fun _ => true) true n f3.type ((cs.drop f3.offset).take (Try.prog.cellsOf f3.type)) = some y3 ∧ DataW.trod enc Try.prog W 0 (fun _ => true) true n f4.type ((cs.drop f4.offset).take (Try.prog.cellsOf f4.type)) = some y4 := by
  obtain ⟨xs, n, _, rfl, hl, hlen, hf⟩ := DataW.trod_struct ht h
  match xs, hlen with
  | [y0, y1, y2, y3, y4], _ => exact ⟨y0, y1, y2, y3, y4, n, by simp, hl, by simpa using hf 0 f0 rfl, by simpa using hf 1 f1 rfl, by simpa using hf 2 f2 rfl, by simpa using hf 3 f3 rfl, by simpa using hf 4 f4 rfl⟩
theorem trod_file {fuel : Nat} {cs : List Value} {x : DataW H × List MemPlace} (h : DataW.trod enc Try.prog W 0 (fun _ => true) true fuel 37 cs = some x) :
    ∃ f : Fi, cs = f.cs ∧ ((∀ z, z ∈ DataW.weights Try.prog 37 x.1 → z ≤ 140737488351232) → szFi f) := by
  obtain ⟨y0, y1, y2, y3, n, hx, hl, h0, h1, h2, h3⟩ := trod_structA Try.underlying37 h
  · obtain ⟨a0, e0, _, w0⟩ := DataW.trod_int Try.underlying24 h0
    obtain ⟨a1, e1, _, w1⟩ := DataW.trod_int Try.underlying3 h1
    obtain ⟨s2, e2, x2, _⟩ := DataW.trod_string Try.underlying9 h2
    obtain ⟨s3, e3, x3, _⟩ := DataW.trod_string Try.underlying9 h3
    have hk := wf_u32 w0
    have hk1 := wf_i64 w1
    obtain ⟨k, rfl⟩ := Int.eq_ofNat_of_zero_le hk.1
    have hC : Try.prog.cellsOf 37 = 4 := by kernel_rfl
    have c0 : Try.prog.cellsOf 24 = 1 := by kernel_rfl
    have c1 : Try.prog.cellsOf 3 = 1 := by kernel_rfl
    have c2 : Try.prog.cellsOf 9 = 1 := by kernel_rfl
    rw [hC] at hl
    simp only [c0] at e0; simp only [c1] at e1; simp only [c2] at e2 e3
    have hW : DataW.weights Try.prog 37 x.1 = DataW.weightsEach Try.prog [24, 3, 9, 9] [y0.1, y1.1, y2.1, y3.1] := by
      rw [hx]
      simp only [DataW.weights, Try.underlying37]
      rfl
    refine ⟨⟨k, a1, s2, s3⟩, ?_, fun hb => ?_⟩
    · match cs, hl with
      | [a, b, c, d], _ => simp at e0 e1 e2 e3; simp [Fi.cs, e0, e1, e2, e3]
    · have hin : ∀ (j : Nat) (t : TypeId) (d : DataW H), [24, 3, 9, 9][j]? = some t → [y0.1, y1.1, y2.1, y3.1][j]? = some d → ∀ z, z ∈ DataW.weights Try.prog t d → z ≤ 140737488351232 := fun j t d ht hd z hz =>
        hb z (by rw [hW]; exact DataW.weights_mem_each ht hd _ hz)
      have hstr : ∀ (s : ByteArray), s.data.toList.length = s.size := fun s => by rw [Array.length_toList]; rfl
      refine ⟨by show k < 4294967296; omega, hk1, ?_, ?_⟩
      · exact hin 2 _ _ rfl rfl _ (by rw [x2]; simp only [DataW.weights]; rw [hstr]; simp)
      · exact hin 3 _ _ rfl rfl _ (by rw [x3]; simp only [DataW.weights]; rw [hstr]; simp)

theorem trod_files {fuel : Nat} {cs : List Value} {x : DataW H × List MemPlace} (h : DataW.trod enc Try.prog W 0 (fun _ => true) true fuel 22 cs = some x) :
    ∃ (A : Option Addr) (n c : Nat) (l : List Fi), cs = [.slice A n c] ∧ Lies W W.heap.size 4 A n (fcs l) ∧ n ≤ c ∧
      ((∀ z, z ∈ DataW.weights Try.prog 22 x.1 → z ≤ 140737488351232) → (∀ f ∈ l, szFi f) ∧ c ≤ 140737488351232) := by
  rcases Go.Deep.open_slice Try.underlying22 h with ⟨hcs, hx⟩ | ⟨a, n, c, m, k, D, Pl, hcs, _, hl, hm, hmm, hx, hcell⟩
  · exact ⟨none, 0, 0, [], hcs, Lies.none_ _ _ _ _, Nat.le_refl _, fun _ => ⟨(fun m h => by cases h), by omega⟩⟩
  · have hmc : m = c := by simpa using hmm
    subst hmc
    have hC : Try.prog.cellsOf 37 = 4 := by kernel_rfl
    have hby : 1 ≤ Try.prog.bytesOf 37 := of_decide_eq_true (by kernel_rfl)
    have hone : ∀ i, i < n → ∃ q : Fi, ((∀ z, z ∈ DataW.weights Try.prog 22 x.1 → z ≤ 140737488351232) → szFi q) ∧ ∀ j, j < 4 → W.cell? (a.add (i * 4 + j)) = (Fi.cs q)[j]? := by
      intro i hi
      obtain ⟨cs', hc', ht'⟩ := hcell i (by omega)
      rw [hC] at hc'
      obtain ⟨q, e, hq⟩ := trod_file ht'
      obtain ⟨_, _, hat⟩ := World.cells?_some hc'
      refine ⟨q, fun hb => hq fun z hz => hb z ?_, fun j hj => ?_⟩
      · rw [hx]
        simp only [DataW.weights, Try.underlying22]
        exact List.mem_cons_of_mem _ (List.mem_append_left _ (weights_all6 hz (List.mem_map_of_mem (List.mem_range.2 hi))))
      · rw [← add_add, hat j hj, e]
    obtain ⟨l, hll, hly, hat⟩ := list_lies (W := W) (fun q : {q : Fi // (∀ z, z ∈ DataW.weights Try.prog 22 x.1 → z ≤ 140737488351232) → szFi q} => Fi.cs q.1) 4 (fun _ => rfl) (by decide) a n (fun i hi => by
      obtain ⟨q, hq, hc⟩ := hone i hi
      exact ⟨⟨q, hq⟩, hc⟩)
    refine ⟨some a, n, m, l.map (·.1), hcs, ?_, hl, fun hb => ⟨fun q hq => ?_, ?_⟩⟩
    · unfold fcs; rw [List.flatMap_map]; exact hly
    · obtain ⟨q', _, rfl⟩ := List.mem_map.1 hq
      exact q'.2 hb
    · have hw : (n + (m - n)) * Try.prog.bytesOf 37 ∈ DataW.weights Try.prog 22 x.1 := by
        rw [hx]
        simp only [DataW.weights, Try.underlying22]
        rw [List.length_map, List.length_map, List.length_range, List.length_range]
        exact List.mem_cons_self ..
      have h1 := hb _ hw
      have h2 : m * 1 ≤ (n + (m - n)) * Try.prog.bytesOf 37 := Nat.mul_le_mul (by omega) hby
      omega

theorem trod_u32s {fuel : Nat} {cs : List Value} {x : DataW H × List MemPlace} (h : DataW.trod enc Try.prog W 0 (fun _ => true) true fuel 23 cs = some x) :
    ∃ (A : Option Addr) (n c : Nat) (l : List Nat), cs = [.slice A n c] ∧ Lies W W.heap.size 1 A n (kvs l) ∧ (∀ k ∈ l, k < 4294967296) ∧ n ≤ c ∧ ((∀ z, z ∈ DataW.weights Try.prog 23 x.1 → z ≤ 140737488351232) → c ≤ 140737488351232) := by
  have hby : 1 ≤ Try.prog.bytesOf 24 := of_decide_eq_true (by kernel_rfl)
  rcases open_ints Try.underlying23 Try.underlying24 (by kernel_rfl) h with ⟨hcs, hx⟩ | ⟨y, n, c, zs, hcs, _, hl, hm, hz, hx, hc, hwz⟩
  · exact ⟨none, 0, 0, [], hcs, Lies.none_ _ _ _ _, (fun k hk => by cases hk), Nat.le_refl _, fun _ => by omega⟩
  · have hz2 : zs.length = c := by simpa using hz
    obtain ⟨bs, hbs⟩ := nums_nat (k := .u32) (zs := zs.take n) (fun m hm => hwz m (List.mem_of_mem_take hm)) (fun m hm => (wf_u32 hm).1)
    refine ⟨some y, n, c, bs, hcs, ?_, ?_, hl, fun hb => ?_⟩
    · have h1 := lies_nums (k := .u32) (n := n) (by omega) hc
      rw [hbs, List.map_map] at h1
      exact h1
    · intro k hk
      have h1 : ((k : Nat) : Int) ∈ zs.take n := by rw [hbs]; exact List.mem_map_of_mem hk
      have h2 := wf_u32 (hwz _ (List.mem_of_mem_take h1))
      omega
    · have hw : ((lits .u32 (zs.take n) : List (DataW H)).length + (lits .u32 (zs.drop n) : List (DataW H)).length) * Try.prog.bytesOf 24 ∈ DataW.weights Try.prog 23 x.1 := by
        rw [hx]
        simp only [DataW.weights, Try.underlying23]
        exact List.mem_cons_self ..
      have h1 := hb _ hw
      have h2 : c * 1 ≤ ((lits .u32 (zs.take n) : List (DataW H)).length + (lits .u32 (zs.drop n) : List (DataW H)).length) * Try.prog.bytesOf 24 := Nat.mul_le_mul (by simp [lits]; omega) hby
      omega

/-- an argument that is a list of files -/
theorem fr_files {v : Value} {d : DataW H} {p : List MemPlace} {ts : List TypeId} {ds : List (DataW H)} {j base : Nat}
    (hv : Value.okWide Try.prog W .any base 22 v) (h : DataW.Trod enc Try.prog W 0 (fun _ => true) true 22 v d p) (hsz : (DataW.weightsEach Try.prog ts ds).all (· ≤ reachBytes) = true) (hjt : ts[j]? = some 22) (hjd : ds[j]? = some d) :
    ∃ (A : Option Addr) (n c : Nat) (l : List Fi), v = .slice A n c ∧ Lies W W.heap.size 4 A n (fcs l) ∧ (∀ x ∈ l, szFi x) ∧ n ≤ c ∧ c ≤ 140737488351232 := by
  obtain ⟨A, n, c, rfl⟩ := okWide_slice Try.underlying22 hv
  obtain ⟨fuel, hf⟩ := h
  obtain ⟨A', n', c', l, hcs, hly, hnc, hb⟩ := trod_files hf
  simp [Value.cells] at hcs
  obtain ⟨rfl, rfl, rfl⟩ := hcs
  obtain ⟨h1, h2⟩ := hb fun z hz => reach_of hsz hjt hjd hz
  exact ⟨A, n, c, l, rfl, hly, h1, hnc, h2⟩

/-- an edit's value -/
def edV (A1 : Option Addr) (n1 c1 : Nat) (A2 : Option Addr) (n2 c2 : Nat) (x : Edt) : Value := .agg #[.slice A1 n1 c1, .slice A2 n2 c2, .int .u32 (x.jn : Int), .int .u32 (x.nx : Int), .int .u64 (x.sq : Int)]
/-- an argument that is an edit -/
theorem fr_edit {v : Value} {d : DataW H} {p : List MemPlace} {ts : List TypeId} {ds : List (DataW H)} {j base : Nat}
    (hv : Value.okWide Try.prog W .any base 27 v) (h : DataW.Trod enc Try.prog W 0 (fun _ => true) true 27 v d p) (hsz : (DataW.weightsEach Try.prog ts ds).all (· ≤ reachBytes) = true) (hjt : ts[j]? = some 27) (hjd : ds[j]? = some d) :
    ∃ (A1 : Option Addr) (n1 c1 : Nat) (A2 : Option Addr) (n2 c2 : Nat) (x : Edt), v = edV A1 n1 c1 A2 n2 c2 x ∧ Lies W W.heap.size 4 A1 n1 (fcs x.add) ∧ Lies W W.heap.size 1 A2 n2 (kvs x.rem) ∧ (∀ f ∈ x.add, szFi f) ∧ SzEd x ∧ (n1 ≤ c1 ∧ c1 ≤ 140737488351232) ∧ (n2 ≤ c2 ∧ c2 ≤ 140737488351232) := by
  obtain ⟨cs, rfl, _⟩ := okWide_struct Try.underlying27 hv
  obtain ⟨fuel, hf⟩ := h
  obtain ⟨y0, y1, y2, y3, y4, n, hx, hl, h0, h1, h2, h3, h4⟩ := trod_structE Try.underlying27 hf
  · obtain ⟨A1, n1, c1, l, e0, hly1, hnc1, hb1⟩ := trod_files h0
    obtain ⟨A2, n2, c2, r, e1, hly2, hr, hnc2, hb2⟩ := trod_u32s h1
    obtain ⟨a2, e2, _, w2⟩ := DataW.trod_int Try.underlying24 h2
    obtain ⟨a3, e3, _, w3⟩ := DataW.trod_int Try.underlying24 h3
    obtain ⟨a4, e4, _, w4⟩ := DataW.trod_int Try.underlying25 h4
    have k2 := wf_u32 w2
    have k3 := wf_u32 w3
    have k4 := wf_u64 w4
    obtain ⟨jn, rfl⟩ := Int.eq_ofNat_of_zero_le k2.1
    obtain ⟨nx, rfl⟩ := Int.eq_ofNat_of_zero_le k3.1
    obtain ⟨sq, rfl⟩ := Int.eq_ofNat_of_zero_le k4.1
    have hC : Try.prog.cellsOf 27 = 5 := by kernel_rfl
    have c0 : Try.prog.cellsOf 22 = 1 := by kernel_rfl
    have c1' : Try.prog.cellsOf 23 = 1 := by kernel_rfl
    have c2' : Try.prog.cellsOf 24 = 1 := by kernel_rfl
    have c3' : Try.prog.cellsOf 25 = 1 := by kernel_rfl
    rw [hC] at hl
    simp only [c0] at e0; simp only [c1'] at e1; simp only [c2'] at e2 e3; simp only [c3'] at e4
    have hW : DataW.weights Try.prog 27 d = DataW.weightsEach Try.prog [22, 23, 24, 24, 25] [y0.1, y1.1, y2.1, y3.1, y4.1] := by
      rw [show d = _ from hx]
      simp only [DataW.weights, Try.underlying27]
      rfl
    have hin : ∀ (i : Nat) (t : TypeId) (d : DataW H), [22, 23, 24, 24, 25][i]? = some t → [y0.1, y1.1, y2.1, y3.1, y4.1][i]? = some d → ∀ z, z ∈ DataW.weights Try.prog t d → z ≤ 140737488351232 := fun i t d ht hd z hz =>
      reach_of hsz hjt hjd (by rw [hW]; exact DataW.weights_mem_each ht hd _ hz)
    obtain ⟨g1, g2⟩ := hb1 (hin 0 _ _ rfl rfl)
    have g3 := hb2 (hin 1 _ _ rfl rfl)
    have l1 := hly1.flen
    have l2 := hly2.klen
    refine ⟨A1, n1, c1, A2, n2, c2, ⟨l, r, jn, nx, sq⟩, ?_, hly1, hly2, g1, ⟨fun f hf => (g1 f hf).1, hr, by show jn < _; omega, by show nx < _; omega, by show sq < _; omega, by show l.length < _; omega, by show r.length < _; omega⟩, ⟨hnc1, g2⟩, ⟨hnc2, g3⟩⟩
    obtain ⟨l'⟩ := cs
    have : l' = [.slice A1 n1 c1, .slice A2 n2 c2, .int .u32 (jn : Int), .int .u32 (nx : Int), .int .u64 (sq : Int)] := by
      simp only [Value.cells] at hl e0 e1 e2 e3 e4
      match l', hl with
      | [a, b, c, d, e], _ => simp at e0 e1 e2 e3 e4; simp [e0, e1, e2, e3, e4]
    rw [this]; rfl
end
end Go.Proofs.Ytnnocjnmfabnaaa
