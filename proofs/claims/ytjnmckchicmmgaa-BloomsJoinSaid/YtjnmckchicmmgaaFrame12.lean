/-
  Opening a law's arguments: lists of two strings each.
-/
import Derived.Test.YtjnmckchicmmgaaFrame8
import Derived.Test.YtjnmckchicmmgaaPairs
import Derived.Deep.Slices
namespace Go.Proofs.Ytjnmckchicmmgaa
set_option linter.unusedVariables false
set_option maxRecDepth 100000
open Go.ChangeShapes Go.WideShapes Go.ChangeAt Go.RowKit Go.Deep

/-- an argument that is a list of two strings each -/
theorem fr_pairs {H : Type} {enc : TypeId × Value → H} {W : World} {t e f : TypeId} {v : Value} {d : DataW H} {p : List MemPlace} {ts : List TypeId} {ds : List (DataW H)} {j base : Nat} (ht : Try.prog.underlying t = some (.slice e)) (he : Try.prog.underlying e = some (.array 2 f)) (hf : Try.prog.underlying f = some .string) (hcf : Try.prog.cellsOf f = 1) (hce : Try.prog.cellsOf e = 2) (hby : Try.prog.bytesOf e = 32)
    (hv : Value.okWide Try.prog W .any base t v) (h : DataW.Trod enc Try.prog W 0 (fun _ => true) true t v d p) (hsz : (DataW.weightsEach Try.prog ts ds).all (· ≤ reachBytes) = true) (hjt : ts[j]? = some t) (hjd : ds[j]? = some d) :
    ∃ (A : Option Addr) (n c : Nat) (l : List (ByteArray × ByteArray)), v = .slice A n c ∧ Pairs W W.heap.size A n l ∧ (∀ p ∈ l, p.1.size ≤ 140737488351232 ∧ p.2.size ≤ 140737488351232) ∧ n ≤ c ∧ c ≤ 140737488351232 := by
  obtain ⟨A, n, c, rfl⟩ := okWide_slice ht hv
  obtain ⟨fuel, hfu⟩ := h
  rcases Go.Deep.open_slice ht hfu with ⟨hcs, hx⟩ | ⟨a, len, cap, m, k, D, Pl, hcs, _, hl, hm, hmm, hx, hcell⟩
  · simp [Value.cells] at hcs
    obtain ⟨rfl, rfl, rfl⟩ := hcs
    exact ⟨none, 0, 0, [], rfl, ⟨rfl, fun i p hp => by simp at hp⟩, (fun p hp => by cases hp), Nat.le_refl _, by omega⟩
  · simp [Value.cells] at hcs
    obtain ⟨rfl, rfl, rfl⟩ := hcs
    simp only [Prod.mk.injEq] at hx
    obtain ⟨rfl, _⟩ := hx
    have hmc : m = c := by simpa using hmm
    subst hmc
    have hs := sized_slice hsz hjt hjd ht
    rw [hby] at hs
    simp only [List.length_map, List.length_range, reachBytes] at hs
    have hsp0 : 0 < n → (match a with | ⟨_, _, sp⟩ => sp) = none := by
      intro hn
      obtain ⟨cs', h1, h2⟩ := hcell 0 (by omega)
      rw [hce] at h1
      obtain ⟨_, hlen, hat⟩ := World.cells?_some h1
      have h3 := hat 0 (by omega)
      rw [List.getElem?_eq_getElem (by omega)] at h3
      have h4 := World.cell?_spot h3
      obtain ⟨b, o, sp⟩ := a
      simpa [Addr.add] using h4
    have hone : ∀ i, i < n → ∃ q : ByteArray × ByteArray, (q.1.size ≤ 140737488351232 ∧ q.2.size ≤ 140737488351232) ∧ ∃ b o, a = ⟨b, o, none⟩ ∧ b < W.heap.size ∧ W.cell? ⟨b, o + i * 2, none⟩ = some (.string q.1) ∧ W.cell? ⟨b, o + i * 2 + 1, none⟩ = some (.string q.2) := by
      intro i hi
      obtain ⟨cs', h1, h2⟩ := hcell i (by omega)
      rw [hce] at h1
      obtain ⟨_, hlen, hat⟩ := World.cells?_some h1
      obtain ⟨ys, k2, _, hx2, _, hyl, hys⟩ := DataW.trod_array he h2
      have hd : D i = .agg (ys.map (·.1)) := congrArg Prod.fst hx2
      have hb : ∀ r, r < 2 → ∃ x : ByteArray, cs'[r]? = some (.string x) ∧ x.size ≤ 140737488351232 := by
        intro r hr
        have h3 := hys r hr
        rw [hcf, Nat.mul_one] at h3
        obtain ⟨y2, hy2⟩ : ∃ y, ys[r]? = some y := ⟨ys[r]'(by omega), List.getElem?_eq_getElem (by omega)⟩
        rw [hy2] at h3
        obtain ⟨z, hz, hz2, _⟩ := DataW.trod_string hf h3
        refine ⟨z, ?_, ?_⟩
        · have h4 := congrArg (fun l : List Value => l[0]?) hz
          simp only [List.getElem?_take, List.getElem?_drop, List.getElem?_cons_zero] at h4
          rw [if_pos (by decide), Nat.add_zero] at h4
          exact h4
        · refine reach8 hsz hjt hjd ?_
          simp only [DataW.weights, ht]
          refine List.mem_cons_of_mem _ (List.mem_append_left _ (weights8 (d := D i) ?_ (List.mem_map_of_mem (List.mem_range.2 hi))))
          rw [hd]
          simp only [DataW.weights, he]
          refine weights8 (d := y2.1) ?_ (List.mem_map.2 ⟨y2, List.mem_of_getElem? hy2, rfl⟩)
          rw [hz2]
          have : z.data.toList.length = z.size := by rw [Array.length_toList]; rfl
          simp only [DataW.weights]
          rw [this]; simp
      obtain ⟨x0, e0, s0⟩ := hb 0 (by omega)
      obtain ⟨x1, e1, s1⟩ := hb 1 (by omega)
      have f0 := (hat 0 (by omega)).trans e0
      have f1 := (hat 1 (by omega)).trans e1
      have hsp := hsp0 (by omega)
      obtain ⟨b, o, sp⟩ := a
      simp only at hsp
      subst hsp
      rw [add_lit, add_lit] at f0 f1
      refine ⟨(x0, x1), ⟨s0, s1⟩, b, o, rfl, ?_, f0, f1⟩
      exact World.block_lt_of_cell? W _ f0
    have hall : ∀ k, k ≤ n → ∃ l : List (ByteArray × ByteArray), l.length = k ∧ ∀ i p, l[i]? = some p → (p.1.size ≤ 140737488351232 ∧ p.2.size ≤ 140737488351232) ∧ ∃ b o, a = ⟨b, o, none⟩ ∧ b < W.heap.size ∧ W.cell? ⟨b, o + i * 2, none⟩ = some (.string p.1) ∧ W.cell? ⟨b, o + i * 2 + 1, none⟩ = some (.string p.2) := by
      intro k
      induction k with
      | zero => exact fun _ => ⟨[], rfl, fun i p hp => by simp at hp⟩
      | succ k ih =>
        intro hk
        obtain ⟨l, hl, hl2⟩ := ih (by omega)
        obtain ⟨q, hq⟩ := hone k (by omega)
        refine ⟨l ++ [q], by simp [hl], fun i p hp => ?_⟩
        by_cases hik : i < k
        · rw [List.getElem?_append_left (by omega)] at hp
          exact hl2 i p hp
        · have : i = k := by
            have := (List.getElem?_eq_some_iff.1 hp).1
            simp at this; omega
          subst this
          rw [List.getElem?_append_right (by omega), hl] at hp
          simp at hp
          subst hp
          exact hq
    obtain ⟨l, hl1, hl2⟩ := hall n (Nat.le_refl _)
    refine ⟨some a, n, m, l, rfl, ⟨hl1, fun i p hp => ?_⟩, fun p hp => ?_, hl, by omega⟩
    · obtain ⟨_, b, o, rfl, r⟩ := hl2 i p hp
      exact ⟨b, o, rfl, r⟩
    · obtain ⟨i, hi⟩ := List.getElem?_of_mem hp
      exact (hl2 i p hi).1
end Go.Proofs.Ytjnmckchicmmgaa
