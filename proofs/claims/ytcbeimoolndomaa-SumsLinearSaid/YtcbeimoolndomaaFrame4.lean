/-
  Opening a law's arguments: lists of three bytes each.
-/
import Derived.Test.YtcbeimoolndomaaFrame3
import Derived.Test.YtcbeimoolndomaaRows3
import Derived.Deep.Slices
namespace Go.Proofs.Ytcbeimoolndomaa
set_option linter.unusedVariables false
open Go.ChangeShapes Go.WideShapes Go.ChangeAt Go.RowKit Go.Deep

theorem byte_of {z : Int} (hw : (Lit.int .u8 z).wf = true) : ∃ x : UInt8, Value.int .u8 z = bv x := by
  have h0 := wf_u8 hw
  refine ⟨UInt8.ofNat z.toNat, ?_⟩
  unfold bv
  rw [UInt8.toNat_ofNat']
  congr 1
  omega

/-- an argument that is a list of three bytes each -/
theorem fr_rows3 {H : Type} {enc : TypeId × Value → H} {W : World} {t e f : TypeId} {v : Value} {d : DataW H} {p : List MemPlace} {ts : List TypeId} {ds : List (DataW H)} {j base : Nat} (ht : Try.prog.underlying t = some (.slice e)) (he : Try.prog.underlying e = some (.array 3 f)) (hf : Try.prog.underlying f = some (.int .u8)) (hcf : Try.prog.cellsOf f = 1) (hce : Try.prog.cellsOf e = 3) (hby : Try.prog.bytesOf e = 3)
    (hv : Value.okWide Try.prog W .any base t v) (h : DataW.Trod enc Try.prog W 0 (fun _ => true) true t v d p) (hsz : (DataW.weightsEach Try.prog ts ds).all (· ≤ reachBytes) = true) (hjt : ts[j]? = some t) (hjd : ds[j]? = some d) :
    ∃ (A : Option Addr) (n c : Nat) (l : List (UInt8 × UInt8 × UInt8)), v = .slice A n c ∧ Rows3 W W.heap.size A n l ∧ n ≤ c ∧ c ≤ 140737488351232 := by
  obtain ⟨A, n, c, rfl⟩ := okWide_slice ht hv
  obtain ⟨fuel, hfu⟩ := h
  rcases Go.Deep.open_slice ht hfu with ⟨hcs, hx⟩ | ⟨a, len, cap, m, k, D, Pl, hcs, _, hl, hm, hmm, hx, hcell⟩
  · simp [Value.cells] at hcs
    obtain ⟨rfl, rfl, rfl⟩ := hcs
    exact ⟨none, 0, 0, [], rfl, ⟨rfl, fun i p hp => by simp at hp⟩, Nat.le_refl _, by omega⟩
  · simp [Value.cells] at hcs
    obtain ⟨rfl, rfl, rfl⟩ := hcs
    simp only [Prod.mk.injEq] at hx
    obtain ⟨rfl, _⟩ := hx
    have hmc : m = c := by simpa using hmm
    subst hmc
    have hs := sized_slice hsz hjt hjd ht
    rw [hby] at hs
    simp only [List.length_map, List.length_range, reachBytes] at hs
    have hsp0 : 0 < n → (match a with | ⟨_, _, sp⟩ => sp) = none := by
      intro hn
      obtain ⟨cs', h1, h2⟩ := hcell 0 (by omega)
      rw [hce] at h1
      obtain ⟨_, hlen, hat⟩ := World.cells?_some h1
      have h3 := hat 0 (by omega)
      rw [List.getElem?_eq_getElem (by omega)] at h3
      have h4 := World.cell?_spot h3
      obtain ⟨b, o, sp⟩ := a
      simpa [Addr.add] using h4
    have hone : ∀ i, i < n → ∃ q : UInt8 × UInt8 × UInt8, ∃ b o, a = ⟨b, o, none⟩ ∧ b < W.heap.size ∧ W.cell? ⟨b, o + i * 3, none⟩ = some (bv q.1) ∧ W.cell? ⟨b, o + i * 3 + 1, none⟩ = some (bv q.2.1) ∧ W.cell? ⟨b, o + i * 3 + 2, none⟩ = some (bv q.2.2) := by
      intro i hi
      obtain ⟨cs', h1, h2⟩ := hcell i (by omega)
      rw [hce] at h1
      obtain ⟨_, hlen, hat⟩ := World.cells?_some h1
      obtain ⟨ys, k2, _, _, _, hyl, hys⟩ := DataW.trod_array he h2
      have hb : ∀ r, r < 3 → ∃ x : UInt8, cs'[r]? = some (bv x) := by
        intro r hr
        have h3 := hys r hr
        rw [hcf, Nat.mul_one] at h3
        obtain ⟨y2, hy2⟩ : ∃ y, ys[r]? = some y := ⟨ys[r]'(by omega), List.getElem?_eq_getElem (by omega)⟩
        rw [hy2] at h3
        obtain ⟨z, hz, _, hw⟩ := DataW.trod_int hf h3
        obtain ⟨x, hx⟩ := byte_of hw
        refine ⟨x, ?_⟩
        have h4 := congrArg (fun l : List Value => l[0]?) hz
        simp only [List.getElem?_take, List.getElem?_drop, List.getElem?_cons_zero] at h4
        rw [if_pos (by decide), Nat.add_zero, hx] at h4
        exact h4
      obtain ⟨x0, e0⟩ := hb 0 (by omega)
      obtain ⟨x1, e1⟩ := hb 1 (by omega)
      obtain ⟨x2, e2⟩ := hb 2 (by omega)
      have f0 := (hat 0 (by omega)).trans e0
      have f1 := (hat 1 (by omega)).trans e1
      have f2 := (hat 2 (by omega)).trans e2
      have hsp := hsp0 (by omega)
      obtain ⟨b, o, sp⟩ := a
      simp only at hsp
      subst hsp
      rw [add_lit, add_lit] at f0 f1 f2
      refine ⟨(x0, x1, x2), b, o, rfl, ?_, f0, f1, f2⟩
      exact World.block_lt_of_cell? W _ f0
    have hall : ∀ k, k ≤ n → ∃ l : List (UInt8 × UInt8 × UInt8), l.length = k ∧ ∀ i p, l[i]? = some p → ∃ b o, a = ⟨b, o, none⟩ ∧ b < W.heap.size ∧ W.cell? ⟨b, o + i * 3, none⟩ = some (bv p.1) ∧ W.cell? ⟨b, o + i * 3 + 1, none⟩ = some (bv p.2.1) ∧ W.cell? ⟨b, o + i * 3 + 2, none⟩ = some (bv p.2.2) := by
      intro k
      induction k with
      | zero => exact fun _ => ⟨[], rfl, fun i p hp => by simp at hp⟩
      | succ k ih =>
        intro hk
        obtain ⟨l, hl, hl2⟩ := ih (by omega)
        obtain ⟨q, hq⟩ := hone k (by omega)
        refine ⟨l ++ [q], by simp [hl], fun i p hp => ?_⟩
        by_cases hik : i < k
        · rw [List.getElem?_append_left (by omega)] at hp
          exact hl2 i p hp
        · have : i = k := by
            have := (List.getElem?_eq_some_iff.1 hp).1
            simp at this; omega
          subst this
          rw [List.getElem?_append_right (by omega), hl] at hp
          simp at hp
          subst hp
          exact hq
    obtain ⟨l, hl1, hl2⟩ := hall n (Nat.le_refl _)
    refine ⟨some a, n, m, l, rfl, ⟨hl1, fun i p hp => ?_⟩, hl, by omega⟩
    obtain ⟨b, o, rfl, r⟩ := hl2 i p hp
    exact ⟨b, o, rfl, r⟩
end Go.Proofs.Ytcbeimoolndomaa
