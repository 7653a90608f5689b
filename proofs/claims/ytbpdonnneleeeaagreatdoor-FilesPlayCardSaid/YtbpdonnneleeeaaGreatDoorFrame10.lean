/-
  Opening arguments: lists of acts.
-/
import Derived.Test.YtbpdonnneleeeaaGreatDoorFrameZ
import Derived.Test.YtbpdonnneleeeaaGreatDoorActs
namespace Go.Proofs.YtbpdonnneleeeaaGreatDoor
open Go.ChangeShapes Go.WideShapes Go.ChangeAt Go.RowKit Go.Deep
set_option linter.unusedVariables false
set_option maxRecDepth 100000

section
variable {H : Type} {enc : TypeId × Value → H} {W : World}
theorem trod_struct7 {t : TypeId} {f0 f1 f2 f3 f4 f5 f6 : Field} {fuel : Nat} {cs : List Value} {x : DataW H × List MemPlace} (ht : Tryz.prog.underlying t = some (.struct #[f0, f1, f2, f3, f4, f5, f6])) (h : DataW.trod enc Tryz.prog W 0 (fun _ => true) true fuel t cs = some x) :
    ∃ y0 y1 y2 y3 y4 y5 y6 n, x.1 = .agg [y0.1, y1.1, y2.1, y3.1, y4.1, y5.1, y6.1] ∧ cs.length = Tryz.prog.cellsOf t ∧ DataW.trod enc Tryz.prog W 0 (fun _ => true) true n f0.type ((cs.drop f0.offset).take (Tryz.prog.cellsOf f0.type)) = some y0 ∧
      DataW.trod enc Tryz.prog W 0 (fun _ => true) true n f1.type ((cs.drop f1.offset).take (Tryz.prog.cellsOf f1.type)) = some y1 ∧ DataW.trod enc Tryz.prog W 0 (fun _ => true) true n f2.type ((cs.drop f2.offset).take (Tryz.prog.cellsOf f2.type)) = some y2 ∧
      DataW.trod enc Tryz.prog W 0 (fun _ => true) true n f3.type ((cs.drop f3.offset).take (Tryz.prog.cellsOf f3.type)) = some y3 ∧ DataW.trod enc Tryz.prog W 0 (fun _ => true) true n f4.type ((cs.drop f4.offset).take (Tryz.prog.cellsOf f4.type)) = some y4 ∧
      DataW.trod enc Tryz.prog W 0 (fun _ => true) true n f5.type ((cs.drop f5.offset).take (Tryz.prog.cellsOf f5.type)) = some y5 ∧ DataW.trod enc Tryz.prog W 0 (fun _ => true) true n f6.type ((cs.drop f6.offset).take (Tryz.prog.cellsOf f6.type)) = some y6 := by
  obtain ⟨xs, n, _, rfl, hl, hlen, hf⟩ := DataW.trod_struct ht h
  match xs, hlen with
  | [y0, y1, y2, y3, y4, y5, y6], _ => exact ⟨y0, y1, y2, y3, y4, y5, y6, n, by simp, hl, by simpa using hf 0 f0 rfl, by simpa using hf 1 f1 rfl, by simpa using hf 2 f2 rfl, by simpa using hf 3 f3 rfl, by simpa using hf 4 f4 rfl, by simpa using hf 5 f5 rfl, by simpa using hf 6 f6 rfl⟩

theorem trod_bytes {fuel : Nat} {cs : List Value} {x : DataW H × List MemPlace} (h : DataW.trod enc Tryz.prog W 0 (fun _ => true) true fuel 46 cs = some x) :
    ∃ (A : Option Addr) (n c : Nat) (l : List UInt8), cs = [.slice A n c] ∧ Lies W W.heap.size 1 A n (l.map bv) ∧ n ≤ c ∧ (c = 0 ∨ c ∈ DataW.weights Tryz.prog 46 x.1) := by
  have hby : Tryz.prog.bytesOf 5 = 1 := by kernel_rfl
  rcases open_ints Tryz.underlying46 Tryz.underlying5 (by kernel_rfl) h with ⟨hcs, hx⟩ | ⟨y, l, c', zs, hcs, _, hl', hm', hz, hx, hc, hwz⟩
  · exact ⟨none, 0, 0, [], hcs, Lies.none_ _ _ _ _, Nat.le_refl _, .inl rfl⟩
  · have hz2 : zs.length = c' := by simpa using hz
    obtain ⟨bs, hbs⟩ := bytes_of_nums (zs := zs.take l) (fun m hm => hwz m (List.mem_of_mem_take hm))
    refine ⟨some y, l, c', bs, hcs, ?_, hl', .inr ?_⟩
    · rw [← hbs]
      exact lies_nums (by omega) hc
    · rw [hx]
      have e1 : c' = ((lits .u8 (zs.take l) : List (DataW H)).length + (lits .u8 (zs.drop l) : List (DataW H)).length) * Tryz.prog.bytesOf 5 := by
        rw [hby]; simp [lits]; omega
      simp only [DataW.weights, Tryz.underlying46]
      rw [e1]
      exact List.mem_cons_self ..

/-- cells that read as an act -/
theorem trod_act {fuel : Nat} {cs : List Value} {x : DataW H × List MemPlace} (h : DataW.trod enc Tryz.prog W 0 (fun _ => true) true fuel 48 cs = some x) :
    ∃ q : AcC, cs = q.cs ∧ ((∀ z, z ∈ DataW.weights Tryz.prog 48 x.1 → z ≤ 140737488351232) → q.Ok W W.heap.size) := by
  obtain ⟨y0, y1, y2, y3, y4, y5, y6, n, hx, hl, h0, h1, h2, h3, h4, h5, h6⟩ := trod_struct7 Tryz.underlying48 h
  obtain ⟨k, e0, _, w0⟩ := DataW.trod_int Tryz.underlying5 h0
  obtain ⟨s1, e1, x1, _⟩ := DataW.trod_string Tryz.underlying9 h1
  obtain ⟨s2, e2, x2, _⟩ := DataW.trod_string Tryz.underlying9 h2
  obtain ⟨A, m, c, l, e3, hly, hmc, hcw⟩ := trod_bytes h3
  obtain ⟨a4, e4, _, w4⟩ := DataW.trod_int Tryz.underlying3 h4
  obtain ⟨a5, e5, _, w5⟩ := DataW.trod_int Tryz.underlying3 h5
  obtain ⟨b6, e6, _⟩ := DataW.trod_bool Tryz.underlying4 h6
  have hk := wf_u8 w0
  obtain ⟨kk, rfl⟩ := Int.eq_ofNat_of_zero_le hk.1
  have h4w := wf_i64 w4
  have h5w := wf_i64 w5
  have hC : Tryz.prog.cellsOf 48 = 7 := by kernel_rfl
  have c0 : Tryz.prog.cellsOf 5 = 1 := by kernel_rfl
  have c1 : Tryz.prog.cellsOf 9 = 1 := by kernel_rfl
  have c3 : Tryz.prog.cellsOf 46 = 1 := by kernel_rfl
  have c4 : Tryz.prog.cellsOf 3 = 1 := by kernel_rfl
  have c6 : Tryz.prog.cellsOf 4 = 1 := by kernel_rfl
  rw [hC] at hl
  simp only [c0] at e0; simp only [c1] at e1 e2; simp only [c3] at e3; simp only [c4] at e4 e5; simp only [c6] at e6
  have hW : DataW.weights Tryz.prog 48 x.1 = DataW.weightsEach Tryz.prog [5, 9, 9, 46, 3, 3, 4] [y0.1, y1.1, y2.1, y3.1, y4.1, y5.1, y6.1] := by
    rw [hx]
    simp only [DataW.weights, Tryz.underlying48]
    rfl
  refine ⟨⟨kk, s1, s2, A, m, c, l, a4, a5, b6⟩, ?_, fun hb => ?_⟩
  · match cs, hl with
    | [a, b, c, d, e, f, g], _ => simp at e0 e1 e2 e3 e4 e5 e6; simp [AcC.cs, e0, e1, e2, e3, e4, e5, e6]
  · have hin : ∀ (j : Nat) (t : TypeId) (d : DataW H), [5, 9, 9, 46, 3, 3, 4][j]? = some t → [y0.1, y1.1, y2.1, y3.1, y4.1, y5.1, y6.1][j]? = some d → ∀ z, z ∈ DataW.weights Tryz.prog t d → z ≤ 140737488351232 := fun j t d ht hd z hz =>
      hb z (by rw [hW]; exact DataW.weights_mem_each ht hd _ hz)
    have hstr : ∀ (s : ByteArray), s.data.toList.length = s.size := fun s => by rw [Array.length_toList]; rfl
    refine ⟨by show kk < 256; omega, ?_, ?_, hly, hmc, ?_, h4w.1, h4w.2, h5w.1, h5w.2⟩
    · exact hin 1 _ _ rfl rfl _ (by rw [x1]; simp only [DataW.weights]; rw [hstr]; simp)
    · exact hin 2 _ _ rfl rfl _ (by rw [x2]; simp only [DataW.weights]; rw [hstr]; simp)
    · rcases hcw with hcw | hcw
      · show c ≤ _; omega
      · exact hin 3 _ _ rfl rfl _ hcw

/-- an argument that is a list of acts -/
theorem fr_acts {v : Value} {d : DataW H} {p : List MemPlace} {ts : List TypeId} {ds : List (DataW H)} {j base : Nat}
    (hv : Value.okWide Tryz.prog W .any base 22 v) (h : DataW.Trod enc Tryz.prog W 0 (fun _ => true) true 22 v d p) (hsz : (DataW.weightsEach Tryz.prog ts ds).all (· ≤ reachBytes) = true) (hjt : ts[j]? = some 22) (hjd : ds[j]? = some d) :
    ∃ (A : Option Addr) (n c : Nat) (l : List AcC), v = .slice A n c ∧ Lies W W.heap.size 7 A n (acs l) ∧ Acts W W.heap.size l ∧ n ≤ c ∧ c ≤ 140737488351232 := by
  obtain ⟨A, n, c, rfl⟩ := okWide_slice Tryz.underlying22 hv
  obtain ⟨fuel, hf⟩ := h
  rcases Go.Deep.open_slice Tryz.underlying22 hf with ⟨hcs, hx⟩ | ⟨a, len, cap, m, k, D, Pl, hcs, _, hl, hm, hmm, hx, hcell⟩
  · simp [Value.cells] at hcs
    obtain ⟨rfl, rfl, rfl⟩ := hcs
    exact ⟨none, 0, 0, [], rfl, Lies.none_ _ _ _ _, (fun m h => by cases h), Nat.le_refl _, by omega⟩
  · simp [Value.cells] at hcs
    obtain ⟨rfl, rfl, rfl⟩ := hcs
    simp only [Prod.mk.injEq] at hx
    obtain ⟨rfl, _⟩ := hx
    have hmc : m = c := by simpa using hmm
    subst hmc
    have hs := sized_slice hsz hjt hjd Tryz.underlying22
    have hb : 1 ≤ Tryz.prog.bytesOf 48 := of_decide_eq_true (by kernel_rfl)
    simp only [List.length_map, List.length_range, reachBytes] at hs
    have hc2 : m ≤ 140737488351232 := by
      have : m * 1 ≤ (n + (m - n)) * Tryz.prog.bytesOf 48 := Nat.mul_le_mul (by omega) hb
      omega
    have hC : Tryz.prog.cellsOf 48 = 7 := by kernel_rfl
    have hone : ∀ i, i < n → ∃ q : AcC, q.Ok W W.heap.size ∧ ∀ j, j < 7 → W.cell? (a.add (i * 7 + j)) = (AcC.cs q)[j]? := by
      intro i hi
      obtain ⟨cs', hc', ht'⟩ := hcell i (by omega)
      rw [hC] at hc'
      obtain ⟨q, e, hq⟩ := trod_act ht'
      obtain ⟨_, _, hat⟩ := World.cells?_some hc'
      refine ⟨q, hq fun z hz => reach8 hsz hjt hjd ?_, fun j hj => ?_⟩
      · simp only [DataW.weights, Tryz.underlying22]
        exact List.mem_cons_of_mem _ (List.mem_append_left _ (weights8 hz (List.mem_map_of_mem (List.mem_range.2 hi))))
      · rw [← add_add, hat j hj, e]
    have hall : ∀ k, k ≤ n → ∃ l : List AcC, l.length = k ∧ ∀ i q, l[i]? = some q → q.Ok W W.heap.size ∧ ∀ j, j < 7 → W.cell? (a.add (i * 7 + j)) = (AcC.cs q)[j]? := by
      intro k
      induction k with
      | zero => exact fun _ => ⟨[], rfl, fun i p hp => by simp at hp⟩
      | succ k ih =>
        intro hk
        obtain ⟨l, hl, hl2⟩ := ih (by omega)
        obtain ⟨q, hq⟩ := hone k (by omega)
        refine ⟨l ++ [q], by simp [hl], fun i p hp => ?_⟩
        by_cases hik : i < k
        · rw [List.getElem?_append_left (by omega)] at hp
          exact hl2 i p hp
        · have : i = k := by
            have := (List.getElem?_eq_some_iff.1 hp).1
            simp at this; omega
          subst this
          rw [List.getElem?_append_right (by omega), hl] at hp
          simp at hp
          subst hp
          exact hq
    obtain ⟨l, hll, hat⟩ := hall n (Nat.le_refl _)
    refine ⟨some a, n, m, l, rfl, ⟨by rw [acs_len, hll], fun q hq => ?_⟩, fun q hq => ?_, hl, hc2⟩
    · rw [acs_len] at hq
      have hi : q / 7 < l.length := by omega
      have hj : q % 7 < 7 := by omega
      have hqe : q / 7 * 7 + q % 7 = q := by omega
      have h1 := (hat (q / 7) l[q / 7] (List.getElem?_eq_getElem hi)).2 (q % 7) hj
      have h2 := flat_getA AcC.cs 7 (fun _ => rfl) l (q / 7) (q % 7) l[q / 7] (List.getElem?_eq_getElem hi) hj
      rw [hqe] at h1 h2
      have h3 : (AcC.cs l[q / 7])[q % 7]? = some ((AcC.cs l[q / 7])[q % 7]'(hj)) := List.getElem?_eq_getElem _
      refine ⟨a, _, rfl, ?_, h2.trans h3, h1.trans h3⟩
      have := World.block_lt_of_cell? W _ (h1.trans h3)
      rw [add_block] at this; exact this
    · obtain ⟨i, hi, rfl⟩ := List.getElem_of_mem hq
      exact (hat i _ (List.getElem?_eq_getElem hi)).1
end
end Go.Proofs.YtbpdonnneleeeaaGreatDoor
