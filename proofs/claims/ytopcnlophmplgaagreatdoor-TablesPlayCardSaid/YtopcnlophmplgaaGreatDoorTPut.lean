/-
  Layer 7's 'put': a table of entries, put one by one.
-/
import Derived.Test.YtopcnlophmplgaaGreatDoorAlive7
import Derived.Deep.DeepCutAuto
import Derived.BigQuiet
namespace Go.Proofs.YtopcnlophmplgaaGreatDoor
open Go.RowKit
set_option linter.unusedVariables false
set_option maxRecDepth 100000

/-- is one of these, that may be, of that mark? -/
def thB (l : List En) (m : Mk) : Bool := l.any fun y => decide (y.m = m) && fineE y
theorem thB_iff (l : List En) (m : Mk) : thB l m = true ↔ thereE l m := by
  unfold thB thereE
  rw [List.any_eq_true]
  constructor
  · rintro ⟨y, hy, h⟩
    rw [Bool.and_eq_true, decide_eq_true_eq] at h
    obtain ⟨k, hk⟩ := List.getElem?_of_mem hy
    exact ⟨k, y, hk, h.2, h.1⟩
  · rintro ⟨k, y, hk, h1, h2⟩
    exact ⟨y, List.mem_of_getElem? hk, by rw [Bool.and_eq_true, decide_eq_true_eq]; exact ⟨h2, h1⟩⟩
theorem thB_bld (l : List En) (m : Mk) : thB l m = hasM (bld l) m := by
  rw [Bool.eq_iff_iff, thB_iff, hasM_iff]
  exact (built l).there m
theorem thB_next {l : List En} {k : Nat} {y : En} (h : l[k]? = some y) (m : Mk) : thB (l.take (k + 1)) m = (thB (l.take k) m || (decide (y.m = m) && fineE y)) := by
  unfold thB
  rw [List.take_add_one, h]; simp
theorem put_step {S : List En} (hS : S.length < 4096) (x : En) (c : Nat) (h1 : 1 ≤ c) (h8 : c ≤ 8) :
    putE S x (c : Int) = (if fineE x then (if hasM S x.m then 8 else 0) else 1) ∧ putS S x (c : Int) = stepE S x := by
  have hc : okK (c : Int) = true := decide_eq_true (by omega)
  have e1 : putE S x (c : Int) = (if fineE x then (if hasM S x.m then 8 else 0) else 1) := by
    unfold putE
    rw [hc]
    cases fineE x <;> cases hasM S x.m <;> simp <;> omega
  refine ⟨e1, ?_⟩
  unfold putS stepE
  rw [e1]
  cases fineE x <;> cases hasM S x.m <;> simp

def PutRel (w : World) (t : Nat) (l : List En) (n : Nat) (j : Nat) (i : Value) (wr : World) : Prop := ∃ k, k + j = n ∧ i = .int .i64 (k : Int) ∧ Tb w wr t (bld (l.take k))
def ThRel (W : World) (l : List En) (m : Mk) (k : Nat) (j : Nat) (th i : Value) (wr : World) : Prop := ∃ p, p + j = k ∧ i = .int .i64 (p : Int) ∧ th = .bool (thB (l.take p) m) ∧ Below W.heap.size W wr

end Go.Proofs.YtopcnlophmplgaaGreatDoor
