/-
  Opening a law's arguments: lists of byte lists.
-/
import Derived.Test.YtomfkfdnpmpbgaaFrame
import Derived.Test.YtomfkfdnpmpbgaaRcd
import Derived.Deep.Slices
namespace Go.Proofs.Ytomfkfdnpmpbgaa
set_option linter.unusedVariables false
set_option maxRecDepth 100000
open Go.ChangeShapes Go.WideShapes Go.ChangeAt Go.RowKit Go.Deep

theorem weights_all {H : Type} {P : Program} {e : TypeId} {d : DataW H} {x : Nat} (hx : x ∈ DataW.weights P e d) : ∀ {l : List (DataW H)}, d ∈ l → x ∈ DataW.weightsAll P e l
  | a :: l, h => by
    simp only [DataW.weightsAll]
    rcases List.mem_cons.1 h with rfl | h
    · exact List.mem_append_left _ hx
    · exact List.mem_append_right _ (weights_all hx h)

/-- an argument that is a list of byte lists -/
theorem fr_recs {H : Type} {enc : TypeId × Value → H} {W : World} {t e f : TypeId} {v : Value} {d : DataW H} {p : List MemPlace} {ts : List TypeId} {ds : List (DataW H)} {j base : Nat} (ht : Try.prog.underlying t = some (.slice e)) (he : Try.prog.underlying e = some (.slice f)) (hf : Try.prog.underlying f = some (.int .u8)) (hce : Try.prog.cellsOf e = 1) (hcf : Try.prog.cellsOf f = 1) (hbe : Try.prog.bytesOf e = 24) (hbf : Try.prog.bytesOf f = 1)
    (hv : Value.okWide Try.prog W .any base t v) (h : DataW.Trod enc Try.prog W 0 (fun _ => true) true t v d p) (hsz : (DataW.weightsEach Try.prog ts ds).all (· ≤ reachBytes) = true) (hjt : ts[j]? = some t) (hjd : ds[j]? = some d) :
    ∃ (A : Option Addr) (n c : Nat) (rs : List Rcd), v = .slice A n c ∧ Lies W W.heap.size 1 A n (rs.map Rcd.v) ∧ Rcds W W.heap.size rs ∧ n ≤ c ∧ c ≤ 140737488351232 := by
  obtain ⟨A, n, c, rfl⟩ := okWide_slice ht hv
  obtain ⟨fuel, hfu⟩ := h
  rcases Go.Deep.open_slice1 ht hce hfu with ⟨hcs, hx⟩ | ⟨a, len, cap, m, k, V, D, Pl, hcs, _, hl, hm, hmm, hx, hcell⟩
  · simp [Value.cells] at hcs
    obtain ⟨rfl, rfl, rfl⟩ := hcs
    exact ⟨none, 0, 0, [], rfl, Lies.none_ _ _ _ _, (fun r hr => by cases hr), Nat.le_refl _, by omega⟩
  · simp [Value.cells] at hcs
    obtain ⟨rfl, rfl, rfl⟩ := hcs
    simp only [Prod.mk.injEq] at hx
    obtain ⟨rfl, _⟩ := hx
    have hmc : m = c := by simpa using hmm
    subst hmc
    have hs := sized_slice hsz hjt hjd ht
    rw [hbe] at hs
    simp only [List.length_map, List.length_range, reachBytes] at hs
    have hone : ∀ i, i < n → ∃ r : Rcd, W.cell? (a.add i) = some r.v ∧ Lies W W.heap.size 1 r.A r.n (r.l.map bv) ∧ r.n ≤ r.c ∧ r.c ≤ 140737488351232 := by
      intro i hi
      obtain ⟨h1, h2⟩ := hcell i (by omega)
      rcases open_ints he hf hcf h2 with ⟨hcs, hx⟩ | ⟨x, l, c', zs, hcs, _, hl', hm', hz, hx, hc, hwz⟩
      · injection hcs with hcs _
        refine ⟨⟨none, 0, 0, []⟩, ?_, Lies.none_ _ _ _ _, Nat.le_refl _, by decide⟩
        rw [h1, hcs]; rfl
      · injection hcs with hcs _
        simp only [Prod.mk.injEq] at hx
        have hz2 : zs.length = c' := by simpa using hz
        obtain ⟨bs, hbs⟩ := bytes_of_nums (zs := zs.take l) (fun m hm => hwz m (List.mem_of_mem_take hm))
        refine ⟨⟨some x, l, c', bs⟩, ?_, ?_, hl', ?_⟩
        · rw [h1, hcs]; rfl
        · show Lies W W.heap.size 1 (some x) l (bs.map bv)
          rw [← hbs]
          exact lies_nums (by omega) hc
        · show c' ≤ 140737488351232
          have hw : c' ∈ DataW.weights Try.prog e (D i) := by
            rw [hx.1]
            have e1 : c' = ((lits .u8 (zs.take l) : List (DataW H)).length + (lits .u8 (zs.drop l) : List (DataW H)).length) * Try.prog.bytesOf f := by
              rw [hbf]; simp [lits]; omega
            simp only [DataW.weights, he]
            rw [e1]
            exact List.mem_cons_self ..
          have hmem : c' ∈ DataW.weights Try.prog t (DataW.slice ((List.range n).map D) ((List.range (m - n)).map fun j => D (n + j)) : DataW H) := by
            simp only [DataW.weights, ht]
            refine List.mem_cons_of_mem _ (List.mem_append_left _ (weights_all hw ?_))
            exact List.mem_map_of_mem (List.mem_range.2 hi)
          have h3 := List.all_eq_true.1 hsz _ (DataW.weights_mem_each hjt hjd _ hmem)
          have h4 : c' ≤ reachBytes := of_decide_eq_true h3
          unfold reachBytes at h4
          omega
    have hall : ∀ k, k ≤ n → ∃ l : List Rcd, l.length = k ∧ ∀ i r, l[i]? = some r → W.cell? (a.add i) = some r.v ∧ Lies W W.heap.size 1 r.A r.n (r.l.map bv) ∧ r.n ≤ r.c ∧ r.c ≤ 140737488351232 := by
      intro k
      induction k with
      | zero => exact fun _ => ⟨[], rfl, fun i p hp => by simp at hp⟩
      | succ k ih =>
        intro hk
        obtain ⟨l, hl, hl2⟩ := ih (by omega)
        obtain ⟨q, hq⟩ := hone k (by omega)
        refine ⟨l ++ [q], by simp [hl], fun i p hp => ?_⟩
        by_cases hik : i < k
        · rw [List.getElem?_append_left (by omega)] at hp
          exact hl2 i p hp
        · have : i = k := by
            have := (List.getElem?_eq_some_iff.1 hp).1
            simp at this; omega
          subst this
          rw [List.getElem?_append_right (by omega), hl] at hp
          simp at hp
          subst hp
          exact hq
    obtain ⟨l, hl1, hl2⟩ := hall n (Nat.le_refl _)
    refine ⟨some a, n, m, l, rfl, ⟨by simp; omega, fun i hi => ?_⟩, fun r hr => ?_, hl, by omega⟩
    · have hi2 : i < l.length := by simpa using hi
      obtain ⟨h1, _⟩ := hl2 i l[i] (List.getElem?_eq_getElem hi2)
      refine ⟨a, _, rfl, ?_, ?_, h1⟩
      · have := World.block_lt_of_cell? W _ h1; rw [add_block] at this; exact this
      · rw [List.getElem?_map, List.getElem?_eq_getElem hi2]; rfl
    · obtain ⟨i, hi, rfl⟩ := List.getElem_of_mem hr
      exact (hl2 i _ (List.getElem?_eq_getElem hi)).2
end Go.Proofs.Ytomfkfdnpmpbgaa
