/-
  What laws that keep a Book share: the same bytes; a twin and two answers that lie apart.
-/
import Derived.Test.YtjeijgkkobmdbaaGreatDoorBookH
import Derived.Test.YtjeijgkkobmdbaaGreatDoorSame
namespace Go.Proofs.YtjeijgkkobmdbaaGreatDoor
open Go.RowKit
set_option linter.unusedVariables false

/-- the same bytes -/
theorem same_yes (A A2 : Option Addr) (n c c2 : Nat) (base base2 : Nat) (l : List UInt8) (w : World) (h1 : w.ownsRow base 5 1 (.slice A n c) n (l.map bv)) (h2 : w.ownsRow base2 5 1 (.slice A2 n c2) n (l.map bv)) (hn : n ≤ 4611686018427387904) :
    Calls Tryz.prog 8 #[.slice A n c, .slice A2 n c2] w fun e w' => e = .returned (.bool true) ∧ ∃ q, w' = w.drewN q := by
  have h := same_any A A2 n n c c2 w.heap.size l l w (Lies.of_own h1) (Lies.of_own h2) hn
  rw [sameB_self] at h
  exact h
/-- what was answered: a slice of m bytes, in new memory -/
def Res (w : World) (m : Nat) (L : List UInt8) (A : Option Addr) (c : Nat) (w' : World) : Prop :=
  m ≤ c ∧ c ≤ maxLen ∧ w'.ownsRow w.heap.size 5 1 (.slice A m c) m (L.map bv) ∧ Below w.heap.size w w'
/-- one list in a block of its own, two more made behind it, one after the other -/
theorem dis3 {b1 b2 b3 : BL} {g1 M : Nat} (e1 : b1.v.ownBlock = some g1) (h2 : ∀ g, b2.v.ownBlock = some g → g1 < g ∧ g < M) (h1 : g1 < M) (h3 : ∀ g, b3.v.ownBlock = some g → M ≤ g) : Dis [b1, b2, b3] := by
  have key : ∀ (x y : Option Nat), (∀ g g', x = some g → y = some g' → g ≠ g') → x = none ∨ x ≠ y := by
    intro x y h
    cases x with
    | none => exact .inl rfl
    | some g => exact .inr (fun e => h g g rfl e.symm rfl)
  intro i j bi bj hij hi hj
  refine key _ _ fun g g' hx hy => ?_
  rcases i with _ | _ | _ | i <;> rcases j with _ | _ | _ | j <;> simp at hi hj hij <;> subst hi <;> subst hj
  · rw [e1] at hx; injection hx with hx; have := h2 g' hy; omega
  · rw [e1] at hx; injection hx with hx; have := h3 g' hy; omega
  · rw [e1] at hy; injection hy with hy; have := h2 g hx; omega
  · have := h2 g hx; have := h3 g' hy; omega
  · rw [e1] at hy; injection hy with hy; have := h3 g hx; omega
  · have := h3 g hx; have := h2 g' hy; omega
end Go.Proofs.YtjeijgkkobmdbaaGreatDoor
