/-
  Opening a law's arguments: marks, entries, and lists of them.
-/
import Derived.Test.YtnnocjnmfabnaaaFrame
import Derived.Test.YtnnocjnmfabnaaaPlTx
import Derived.Deep.Slices
import Derived.Deep.Strs
import Derived.ChangeSame
namespace Go.Proofs.Ytnnocjnmfabnaaa
set_option linter.unusedVariables false
set_option maxRecDepth 100000
open Go.ChangeShapes Go.WideShapes Go.ChangeAt Go.RowKit Go.Deep

section
variable {H : Type} {enc : TypeId × Value → H} {W : World} {base : Nat} {sp : Nat → Bool} {held : Bool}

end

section
variable {H : Type} {enc : TypeId × Value → H} {W : World}
theorem reach_of {ts : List TypeId} {ds : List (DataW H)} {j : Nat} {t : TypeId} {d : DataW H} {x : Nat} (hsz : (DataW.weightsEach Try.prog ts ds).all (· ≤ reachBytes) = true) (hjt : ts[j]? = some t) (hjd : ds[j]? = some d) (hx : x ∈ DataW.weights Try.prog t d) : x ≤ 140737488351232 := by
  have h3 := List.all_eq_true.1 hsz _ (DataW.weights_mem_each hjt hjd _ hx)
  have h4 : x ≤ reachBytes := of_decide_eq_true h3
  unfold reachBytes at h4
  exact h4

theorem weights_all6 {P : Program} {e : TypeId} {d : DataW H} {x : Nat} (hx : x ∈ DataW.weights P e d) : ∀ {l : List (DataW H)}, d ∈ l → x ∈ DataW.weightsAll P e l
  | a :: l, h => by
    simp only [DataW.weightsAll]
    rcases List.mem_cons.1 h with rfl | h
    · exact List.mem_append_left _ hx
    · exact List.mem_append_right _ (weights_all6 hx h)

/-- a list of k cells each, read one by one -/
theorem list_lies {α : Type} (f : α → List Value) (k : Nat) (hk : ∀ a, (f a).length = k) (hk0 : 0 < k) (x : Addr) (n : Nat)
    (h : ∀ i, i < n → ∃ a : α, ∀ j, j < k → W.cell? (x.add (i * k + j)) = (f a)[j]?) : ∃ l : List α, l.length = n ∧ Lies W W.heap.size k (some x) n (l.flatMap f) ∧ ∀ i a, l[i]? = some a → ∀ j, j < k → W.cell? (x.add (i * k + j)) = (f a)[j]? := by
  have hall : ∀ m, m ≤ n → ∃ l : List α, l.length = m ∧ ∀ i a, l[i]? = some a → ∀ j, j < k → W.cell? (x.add (i * k + j)) = (f a)[j]? := by
    intro m
    induction m with
    | zero => exact fun _ => ⟨[], rfl, fun i a ha => by simp at ha⟩
    | succ m ih =>
      intro hm
      obtain ⟨l, hl, hl2⟩ := ih (by omega)
      obtain ⟨a, ha⟩ := h m (by omega)
      refine ⟨l ++ [a], by simp [hl], fun i b hb => ?_⟩
      by_cases him : i < m
      · rw [List.getElem?_append_left (by omega)] at hb
        exact hl2 i b hb
      · have : i = m := by
          have := (List.getElem?_eq_some_iff.1 hb).1
          simp at this; omega
        subst this
        rw [List.getElem?_append_right (by omega), hl] at hb
        simp at hb
        subst hb
        exact ha
  obtain ⟨l, hl, hl2⟩ := hall n (Nat.le_refl _)
  have flen : ∀ l : List α, (l.flatMap f).length = l.length * k := flat_len f k hk
  have fget : ∀ (l : List α) (i j : Nat) (a : α), l[i]? = some a → j < k → (l.flatMap f)[i * k + j]? = (f a)[j]? := flat_get f k hk
  refine ⟨l, hl, ⟨by rw [flen, hl], fun q hq => ?_⟩, hl2⟩
  rw [flen] at hq
  have hi : q / k < l.length := Nat.div_lt_of_lt_mul (by rw [Nat.mul_comm]; exact hq)
  have hj : q % k < k := Nat.mod_lt _ hk0
  have hqe : q / k * k + q % k = q := by rw [Nat.mul_comm]; exact Nat.div_add_mod q k
  have h1 := hl2 (q / k) l[q / k] (List.getElem?_eq_getElem hi) (q % k) hj
  have h2 := fget l (q / k) (q % k) l[q / k] (List.getElem?_eq_getElem hi) hj
  rw [hqe] at h1 h2
  have h3 : (f l[q / k])[q % k]? = some ((f l[q / k])[q % k]'(by rw [hk]; exact hj)) := List.getElem?_eq_getElem _
  refine ⟨x, _, rfl, ?_, h2.trans h3, h1.trans h3⟩
  have := World.block_lt_of_cell? W _ (h1.trans h3)
  rw [add_block] at this; exact this

end
end Go.Proofs.Ytnnocjnmfabnaaa
