/-
  Contracts of package order: the reader's parts.
-/
import Derived.Test.YtiodiiedgmobjaaOrdA
import Derived.Test.YtiodiiedgmobjaaIntsE
namespace Go.Proofs.Ytiodiiedgmobjaa
open Go.RowKit
set_option linter.unusedVariables false
set_option maxRecDepth 100000

theorem grown_below {w w' : World} (h : Below w.heap.size w w') (row : Option Nat) : w.grownBy w' row := ⟨h.os, h.tape, h.output, h.size, fun k hk _ => h.block k hk⟩
theorem grown_set (w : World) (p : Addr) (u : Value) : w.grownBy (w.setCell p u) (some p.block) :=
  ⟨rfl, rfl, rfl, by simp [World.setCell], fun k _ hne => Below.heap_setCell w p u k (fun e => hne (by rw [e]))⟩
theorem grown_trans {a b c : World} {row : Option Nat} (h : a.grownBy b row) (k : b.grownBy c row) : a.grownBy c row :=
  ⟨k.os.trans h.os, k.tape.trans h.tape, k.output.trans h.output, Nat.le_trans h.size k.size, fun i hi hne => (k.block i (Nat.lt_of_lt_of_le hi h.size) hne).trans (h.block i hi hne)⟩
theorem below_grown {B g : Nat} {w w' : World} (h : w.grownBy w' (some g)) (hB : B ≤ g) (hs : B ≤ w.heap.size) : Below B w w' :=
  ⟨h.os, h.tape, h.output, h.size, fun k hk => h.block k (by omega) (fun e => by injection e; omega)⟩

theorem get_took (l : List UInt8) : (Vi.get l).2.1 ≤ l.length := by
  rcases hg : Vi.get l with ⟨k, t, e⟩
  by_cases he : e = 0
  · subst he
    exact (Vi.get_back l k t hg).2.2.2.1
  · have := (Vi.get_bad l k t e hg he).2.1
    show t ≤ _
    omega
theorem getText_took (l : List UInt8) : (getText l).2.1 ≤ l.length ∧ (getText l).1.length ≤ l.length ∧ (getText l).2.2 ≤ 5 := by
  have h1 := get_took l
  have h2 := (Vi.get_lt l).2.2
  unfold getText
  split
  · exact ⟨Nat.zero_le _, Nat.zero_le _, h2⟩
  · split
    · exact ⟨Nat.zero_le _, Nat.zero_le _, by decide⟩
    · refine ⟨?_, ?_, Nat.zero_le _⟩
      · show (Vi.get l).2.1 + (Vi.get l).1 ≤ l.length
        omega
      · simp; omega

end Go.Proofs.Ytiodiiedgmobjaa
