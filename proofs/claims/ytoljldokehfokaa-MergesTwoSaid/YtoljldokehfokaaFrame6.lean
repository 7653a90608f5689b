/-
  Opening a law's arguments: marks, entries, and lists of them.
-/
import Derived.Test.YtoljldokehfokaaFrame
import Derived.Test.YtoljldokehfokaaPlTx
import Derived.Deep.Slices
import Derived.Deep.Strs
import Derived.ChangeSame
namespace Go.Proofs.Ytoljldokehfokaa
set_option linter.unusedVariables false
set_option maxRecDepth 100000
open Go.ChangeShapes Go.WideShapes Go.ChangeAt Go.RowKit Go.Deep

section
variable {H : Type} {enc : TypeId × Value → H} {W : World} {base : Nat} {sp : Nat → Bool} {held : Bool}

/-- cells that read as a mark -/
theorem trod_mark {fuel : Nat} {cs : List Value} {x : DataW H × List MemPlace} (h : DataW.trod enc Try.prog W base sp held fuel 29 cs = some x) :
    ∃ m : Mk, cs = [.string m.k, .int .u64 (m.s : Int), .bool m.g] ∧ m.s < 18446744073709551616 ∧ m.k.size ∈ DataW.weights Try.prog 29 x.1 := by
  obtain ⟨y0, y1, y2, n, rfl, hl, h0, h1, h2⟩ := trod_struct3 Try.underlying29 h
  obtain ⟨k, e0, hx0, _⟩ := DataW.trod_string Try.underlying9 h0
  obtain ⟨s, e1, _, ws⟩ := DataW.trod_int Try.underlying27 h1
  obtain ⟨g, e2, _⟩ := DataW.trod_bool Try.underlying4 h2
  have hs := wf_u64 ws
  obtain ⟨m, rfl⟩ := Int.eq_ofNat_of_zero_le hs.1
  have hC : Try.prog.cellsOf 29 = 3 := by kernel_rfl
  have c0 : Try.prog.cellsOf 9 = 1 := by kernel_rfl
  have c1 : Try.prog.cellsOf 27 = 1 := by kernel_rfl
  have c2 : Try.prog.cellsOf 4 = 1 := by kernel_rfl
  rw [hC] at hl
  simp only [c0] at e0; simp only [c1] at e1; simp only [c2] at e2
  refine ⟨⟨k, m, g⟩, ?_, (by show m < 18446744073709551616; omega), ?_⟩
  · match cs, hl with
    | [a, b, c], _ => simp at e0 e1 e2; simp [e0, e1, e2]
  · simp only [DataW.weights, Try.underlying29, List.map_cons, List.map_nil, DataW.weightsEach, hx0]
    have : k.data.toList.length = k.size := by rw [Array.length_toList]; rfl
    rw [this]; simp
/-- cells that read as an entry -/
theorem trod_entry {fuel : Nat} {cs : List Value} {x : DataW H × List MemPlace} (h : DataW.trod enc Try.prog W base sp held fuel 31 cs = some x) :
    ∃ m : En, cs = [.string m.m.k, .int .u64 (m.m.s : Int), .bool m.m.g, .string m.x] ∧ m.m.s < 18446744073709551616 ∧ m.m.k.size ∈ DataW.weights Try.prog 31 x.1 ∧ m.x.size ∈ DataW.weights Try.prog 31 x.1 := by
  obtain ⟨y0, y1, n, rfl, hl, h0, h1⟩ := trod_struct2 Try.underlying31 h
  obtain ⟨m, e0, ms, mw⟩ := trod_mark h0
  obtain ⟨v, e1, hx1, _⟩ := DataW.trod_string Try.underlying9 h1
  have hC : Try.prog.cellsOf 31 = 4 := by kernel_rfl
  have c0 : Try.prog.cellsOf 29 = 3 := by kernel_rfl
  have c1 : Try.prog.cellsOf 9 = 1 := by kernel_rfl
  rw [hC] at hl
  simp only [c0] at e0; simp only [c1] at e1
  refine ⟨⟨m, v⟩, ?_, ms, ?_, ?_⟩
  · match cs, hl with
    | [a, b, c, d], _ => simp at e0 e1; simp [e0, e1]
  · simp only [DataW.weights, Try.underlying31, List.map_cons, List.map_nil, DataW.weightsEach, hx1]
    exact List.mem_append_left _ mw
  · simp only [DataW.weights, Try.underlying31, List.map_cons, List.map_nil, DataW.weightsEach, hx1]
    have : v.data.toList.length = v.size := by rw [Array.length_toList]; rfl
    rw [this]; simp
end

section
variable {H : Type} {enc : TypeId × Value → H} {W : World}
theorem reach_of {ts : List TypeId} {ds : List (DataW H)} {j : Nat} {t : TypeId} {d : DataW H} {x : Nat} (hsz : (DataW.weightsEach Try.prog ts ds).all (· ≤ reachBytes) = true) (hjt : ts[j]? = some t) (hjd : ds[j]? = some d) (hx : x ∈ DataW.weights Try.prog t d) : x ≤ 140737488351232 := by
  have h3 := List.all_eq_true.1 hsz _ (DataW.weights_mem_each hjt hjd _ hx)
  have h4 : x ≤ reachBytes := of_decide_eq_true h3
  unfold reachBytes at h4
  exact h4

/-- an argument that is a mark -/
theorem fr_mark {v : Value} {d : DataW H} {p : List MemPlace} {ts : List TypeId} {ds : List (DataW H)} {j base : Nat}
    (hv : Value.okWide Try.prog W .any base 29 v) (h : DataW.Trod enc Try.prog W 0 (fun _ => true) true 29 v d p) (hsz : (DataW.weightsEach Try.prog ts ds).all (· ≤ reachBytes) = true) (hjt : ts[j]? = some 29) (hjd : ds[j]? = some d) :
    ∃ m : Mk, v = m.v ∧ m.s < 18446744073709551616 ∧ m.k.size ≤ 140737488351232 := by
  obtain ⟨cs, rfl, _⟩ := okWide_struct Try.underlying29 hv
  obtain ⟨fuel, hf⟩ := h
  obtain ⟨m, e, ms, mw⟩ := trod_mark hf
  refine ⟨m, ?_, ms, reach_of hsz hjt hjd mw⟩
  obtain ⟨l⟩ := cs
  have : l = [.string m.k, .int .u64 (m.s : Int), .bool m.g] := by simpa [Value.cells] using e
  rw [this]; rfl
/-- an argument that is an entry -/
theorem fr_entry {v : Value} {d : DataW H} {p : List MemPlace} {ts : List TypeId} {ds : List (DataW H)} {j base : Nat}
    (hv : Value.okWide Try.prog W .any base 31 v) (h : DataW.Trod enc Try.prog W 0 (fun _ => true) true 31 v d p) (hsz : (DataW.weightsEach Try.prog ts ds).all (· ≤ reachBytes) = true) (hjt : ts[j]? = some 31) (hjd : ds[j]? = some d) :
    ∃ x : En, v = x.v ∧ x.m.s < 18446744073709551616 ∧ x.m.k.size ≤ 140737488351232 ∧ x.x.size ≤ 140737488351232 := by
  obtain ⟨cs, rfl, _⟩ := okWide_struct Try.underlying31 hv
  obtain ⟨fuel, hf⟩ := h
  obtain ⟨m, e, ms, mw, mx⟩ := trod_entry hf
  refine ⟨m, ?_, ms, reach_of hsz hjt hjd mw, reach_of hsz hjt hjd mx⟩
  obtain ⟨l⟩ := cs
  have : l = [.string m.m.k, .int .u64 (m.m.s : Int), .bool m.m.g, .string m.x] := by simpa [Value.cells] using e
  rw [this]; rfl

theorem weights_all6 {P : Program} {e : TypeId} {d : DataW H} {x : Nat} (hx : x ∈ DataW.weights P e d) : ∀ {l : List (DataW H)}, d ∈ l → x ∈ DataW.weightsAll P e l
  | a :: l, h => by
    simp only [DataW.weightsAll]
    rcases List.mem_cons.1 h with rfl | h
    · exact List.mem_append_left _ hx
    · exact List.mem_append_right _ (weights_all6 hx h)

/-- a list of k cells each, read one by one -/
theorem list_lies {α : Type} (f : α → List Value) (k : Nat) (hk : ∀ a, (f a).length = k) (hk0 : 0 < k) (x : Addr) (n : Nat)
    (h : ∀ i, i < n → ∃ a : α, ∀ j, j < k → W.cell? (x.add (i * k + j)) = (f a)[j]?) : ∃ l : List α, l.length = n ∧ Lies W W.heap.size k (some x) n (l.flatMap f) ∧ ∀ i a, l[i]? = some a → ∀ j, j < k → W.cell? (x.add (i * k + j)) = (f a)[j]? := by
  have hall : ∀ m, m ≤ n → ∃ l : List α, l.length = m ∧ ∀ i a, l[i]? = some a → ∀ j, j < k → W.cell? (x.add (i * k + j)) = (f a)[j]? := by
    intro m
    induction m with
    | zero => exact fun _ => ⟨[], rfl, fun i a ha => by simp at ha⟩
    | succ m ih =>
      intro hm
      obtain ⟨l, hl, hl2⟩ := ih (by omega)
      obtain ⟨a, ha⟩ := h m (by omega)
      refine ⟨l ++ [a], by simp [hl], fun i b hb => ?_⟩
      by_cases him : i < m
      · rw [List.getElem?_append_left (by omega)] at hb
        exact hl2 i b hb
      · have : i = m := by
          have := (List.getElem?_eq_some_iff.1 hb).1
          simp at this; omega
        subst this
        rw [List.getElem?_append_right (by omega), hl] at hb
        simp at hb
        subst hb
        exact ha
  obtain ⟨l, hl, hl2⟩ := hall n (Nat.le_refl _)
  have flen : ∀ l : List α, (l.flatMap f).length = l.length * k := flat_len f k hk
  have fget : ∀ (l : List α) (i j : Nat) (a : α), l[i]? = some a → j < k → (l.flatMap f)[i * k + j]? = (f a)[j]? := flat_get f k hk
  refine ⟨l, hl, ⟨by rw [flen, hl], fun q hq => ?_⟩, hl2⟩
  rw [flen] at hq
  have hi : q / k < l.length := Nat.div_lt_of_lt_mul (by rw [Nat.mul_comm]; exact hq)
  have hj : q % k < k := Nat.mod_lt _ hk0
  have hqe : q / k * k + q % k = q := by rw [Nat.mul_comm]; exact Nat.div_add_mod q k
  have h1 := hl2 (q / k) l[q / k] (List.getElem?_eq_getElem hi) (q % k) hj
  have h2 := fget l (q / k) (q % k) l[q / k] (List.getElem?_eq_getElem hi) hj
  rw [hqe] at h1 h2
  have h3 : (f l[q / k])[q % k]? = some ((f l[q / k])[q % k]'(by rw [hk]; exact hj)) := List.getElem?_eq_getElem _
  refine ⟨x, _, rfl, ?_, h2.trans h3, h1.trans h3⟩
  have := World.block_lt_of_cell? W _ (h1.trans h3)
  rw [add_block] at this; exact this

/-- an argument that is a list of entries -/
theorem fr_entries {v : Value} {d : DataW H} {p : List MemPlace} {ts : List TypeId} {ds : List (DataW H)} {j base : Nat}
    (hv : Value.okWide Try.prog W .any base 22 v) (h : DataW.Trod enc Try.prog W 0 (fun _ => true) true 22 v d p) (hsz : (DataW.weightsEach Try.prog ts ds).all (· ≤ reachBytes) = true) (hjt : ts[j]? = some 22) (hjd : ds[j]? = some d) :
    ∃ (A : Option Addr) (n c : Nat) (l : List En), v = .slice A n c ∧ Lies W W.heap.size 4 A n (ecs l) ∧ (∀ x ∈ l, x.m.s < 18446744073709551616 ∧ x.m.k.size ≤ 140737488351232 ∧ x.x.size ≤ 140737488351232) ∧ l.length = n ∧ n ≤ c ∧ c ≤ 140737488351232 := by
  obtain ⟨A, n, c, rfl⟩ := okWide_slice Try.underlying22 hv
  obtain ⟨fuel, hf⟩ := h
  rcases Go.Deep.open_slice Try.underlying22 hf with ⟨hcs, hx⟩ | ⟨a, len, cap, m, k, D, Pl, hcs, _, hl, hm, hmm, hx, hcell⟩
  · simp [Value.cells] at hcs
    obtain ⟨rfl, rfl, rfl⟩ := hcs
    exact ⟨none, 0, 0, [], rfl, Lies.none_ _ _ _ _, (fun m h => by cases h), rfl, Nat.le_refl _, by omega⟩
  · simp [Value.cells] at hcs
    obtain ⟨rfl, rfl, rfl⟩ := hcs
    simp only [Prod.mk.injEq] at hx
    obtain ⟨rfl, _⟩ := hx
    have hmc : m = c := by simpa using hmm
    subst hmc
    have hs := sized_slice hsz hjt hjd Try.underlying22
    have hb : 1 ≤ Try.prog.bytesOf 31 := of_decide_eq_true (by kernel_rfl)
    simp only [List.length_map, List.length_range, reachBytes] at hs
    have hc2 : m ≤ 140737488351232 := by
      have : m * 1 ≤ (n + (m - n)) * Try.prog.bytesOf 31 := Nat.mul_le_mul (by omega) hb
      omega
    have hC : Try.prog.cellsOf 31 = 4 := by kernel_rfl
    have hone : ∀ i, i < n → ∃ q : En, (q.m.s < 18446744073709551616 ∧ q.m.k.size ≤ 140737488351232 ∧ q.x.size ≤ 140737488351232) ∧ ∀ j, j < 4 → W.cell? (a.add (i * 4 + j)) = (En.cs q)[j]? := by
      intro i hi
      obtain ⟨cs', hc', ht'⟩ := hcell i (by omega)
      rw [hC] at hc'
      obtain ⟨q, e, qs, qw, qx⟩ := trod_entry ht'
      obtain ⟨_, _, hat⟩ := World.cells?_some hc'
      have hmem : ∀ z, z ∈ DataW.weights Try.prog 31 (D i) → z ∈ DataW.weights Try.prog 22 (DataW.slice ((List.range n).map D) ((List.range (m - n)).map fun j => D (n + j)) : DataW H) := fun z hz => by
        simp only [DataW.weights, Try.underlying22]
        exact List.mem_cons_of_mem _ (List.mem_append_left _ (weights_all6 hz (List.mem_map_of_mem (List.mem_range.2 hi))))
      refine ⟨q, ⟨qs, reach_of hsz hjt hjd (hmem _ qw), reach_of hsz hjt hjd (hmem _ qx)⟩, fun j hj => ?_⟩
      rw [← add_add, hat j hj, e]; rfl
    obtain ⟨l, hll, hly, hat⟩ := list_lies (W := W) (fun q : {q : En // q.m.s < 18446744073709551616 ∧ q.m.k.size ≤ 140737488351232 ∧ q.x.size ≤ 140737488351232} => En.cs q.1) 4 (fun _ => rfl) (by decide) a n (fun i hi => by
      obtain ⟨q, hq, hc⟩ := hone i hi
      exact ⟨⟨q, hq⟩, hc⟩)
    refine ⟨some a, n, m, l.map (·.1), rfl, ?_, fun q hq => ?_, by simp [hll], hl, hc2⟩
    · unfold ecs; rw [List.flatMap_map]; exact hly
    · obtain ⟨q', _, rfl⟩ := List.mem_map.1 hq
      exact q'.2
end
end Go.Proofs.Ytoljldokehfokaa
