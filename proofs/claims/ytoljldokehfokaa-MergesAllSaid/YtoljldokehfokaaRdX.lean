/-
  Contracts of package order: the reader's parts.
  Contracts of package order: the reader's key, value, gone.
  Contracts of package order: the reader's entry.
  Contracts of package order: the reader's entry, behind its key.
  Contracts of package order: Get.
-/
import Derived.Test.YtoljldokehfokaaOrdA
import Derived.Test.YtoljldokehfokaaInC
import Derived.Test.YtoljldokehfokaaPlTx
import Derived.Deep.RegionWith
import Derived.Deep.RegionHeld3
namespace Go.Proofs.Ytoljldokehfokaa
open Go.RowKit
set_option linter.unusedVariables false
set_option maxRecDepth 100000

theorem grown_below {w w' : World} (h : Below w.heap.size w w') (row : Option Nat) : w.grownBy w' row := ⟨h.os, h.tape, h.output, h.size, fun k hk _ => h.block k hk⟩
theorem grown_set (w : World) (p : Addr) (u : Value) : w.grownBy (w.setCell p u) (some p.block) :=
  ⟨rfl, rfl, rfl, by simp [World.setCell], fun k _ hne => Below.heap_setCell w p u k (fun e => hne (by rw [e]))⟩
theorem grown_trans {a b c : World} {row : Option Nat} (h : a.grownBy b row) (k : b.grownBy c row) : a.grownBy c row :=
  ⟨k.os.trans h.os, k.tape.trans h.tape, k.output.trans h.output, Nat.le_trans h.size k.size, fun i hi hne => (k.block i (Nat.lt_of_lt_of_le hi h.size) hne).trans (h.block i hi hne)⟩
theorem below_grown {B g : Nat} {w w' : World} (h : w.grownBy w' (some g)) (hB : B ≤ g) (hs : B ≤ w.heap.size) : Below B w w' :=
  ⟨h.os, h.tape, h.output, h.size, fun k hk => h.block k (by omega) (fun e => by injection e; omega)⟩

theorem get_took (l : List UInt8) : (Vi.get l).2.1 ≤ l.length := by
  rcases hg : Vi.get l with ⟨k, t, e⟩
  by_cases he : e = 0
  · subst he
    exact (Vi.get_back l k t hg).2.2.2.1
  · have := (Vi.get_bad l k t e hg he).2.1
    show t ≤ _
    omega
theorem getText_took (l : List UInt8) : (getText l).2.1 ≤ l.length ∧ (getText l).1.length ≤ l.length ∧ (getText l).2.2 ≤ 5 := by
  have h1 := get_took l
  have h2 := (Vi.get_lt l).2.2
  unfold getText
  split
  · exact ⟨Nat.zero_le _, Nat.zero_le _, h2⟩
  · split
    · exact ⟨Nat.zero_le _, Nat.zero_le _, by decide⟩
    · refine ⟨?_, ?_, Nat.zero_le _⟩
      · show (Vi.get l).2.1 + (Vi.get l).1 ≤ l.length
        omega
      · simp; omega

end Go.Proofs.Ytoljldokehfokaa

namespace Go.Proofs.Ytoljldokehfokaa
open Go.RowKit
set_option linter.unusedVariables false
set_option maxRecDepth 100000

/-- the key that bytes begin with, and the error -/
def keyT (l : List UInt8) : List UInt8 × Nat := if (getText l).2.2 = 0 ∧ chk ⟨(getText l).1.toArray⟩ = false then ([], 4) else ((getText l).1, (getText l).2.2)
/-- the value -/
def valT (l : List UInt8) : List UInt8 × Nat := if (getText l).2.2 = 0 ∧ 256 < (getText l).1.length then ([], 4) else ((getText l).1, (getText l).2.2)

end Go.Proofs.Ytoljldokehfokaa

namespace Go.Proofs.Ytoljldokehfokaa
open Go.RowKit
set_option linter.unusedVariables false
set_option maxRecDepth 100000

theorem EnAt.kept {w w' : World} {r : Nat} {x : En} {row : Option Nat} (h : EnAt w r x) (hg : w.grownBy w' row) (hne : some r ≠ row) : EnAt w' r x := (hg.block r (Array.getElem?_eq_some_iff.1 h).1 hne).trans h
theorem EnAt.frozen {w : World} {r : Nat} {x : En} (h : EnAt w r x) (j : Nat) : w.frozen? ⟨r, j, none⟩ = false := by
  unfold EnAt at h
  simp [World.frozen?, h]
theorem EnAt.lt {w : World} {r : Nat} {x : En} (h : EnAt w r x) : r < w.heap.size := (Array.getElem?_eq_some_iff.1 h).1

theorem grown_up {w w1 : World} {g : Nat} (h : w.grownBy w1 (some g)) {p : Addr} (hp : w.heap.size ≤ p.block) (u : Value) : w.grownBy (w1.setCell p u) (some g) :=
  ⟨h.os, h.tape, h.output, by simpa [World.setCell] using h.size, fun k hk hne => (Below.heap_setCell w1 p u k (by omega)).trans (h.block k hk hne)⟩
theorem grown_new {w w1 : World} {g : Nat} {o : Obj} (h : (w.alloc o).grownBy w1 (some g)) : w.grownBy w1 (some g) := grown_trans (World.grownBy_alloc w o _) h

theorem EnAt.set0 {w : World} {r : Nat} {x : En} (h : EnAt w r x) (k : ByteArray) : EnAt (w.setCell ⟨r, 0, none⟩ (.string k)) r ⟨⟨k, x.m.s, x.m.g⟩, x.x⟩ := by
  unfold EnAt at h ⊢
  simp [World.setCell, Array.getElem?_modify, h]
theorem EnAt.set1 {w : World} {r : Nat} {x : En} (h : EnAt w r x) (s : Nat) : EnAt (w.setCell ⟨r, 1, none⟩ (.int .u64 (s : Int))) r ⟨⟨x.m.k, s, x.m.g⟩, x.x⟩ := by
  unfold EnAt at h ⊢
  simp [World.setCell, Array.getElem?_modify, h]
theorem EnAt.set2 {w : World} {r : Nat} {x : En} (h : EnAt w r x) (g : Bool) : EnAt (w.setCell ⟨r, 2, none⟩ (.bool g)) r ⟨⟨x.m.k, x.m.s, g⟩, x.x⟩ := by
  unfold EnAt at h ⊢
  simp [World.setCell, Array.getElem?_modify, h]
theorem EnAt.set3 {w : World} {r : Nat} {x : En} (h : EnAt w r x) (y : ByteArray) : EnAt (w.setCell ⟨r, 3, none⟩ (.string y)) r ⟨x.m, y⟩ := by
  unfold EnAt at h ⊢
  simp [World.setCell, Array.getElem?_modify, h]
/-- all four cells are stored -/
def stE (w : World) (r : Nat) (x : En) : World :=
  (((w.setCell ⟨r, 0, none⟩ (.string x.m.k)).setCell ⟨r, 1, none⟩ (.int .u64 (x.m.s : Int))).setCell ⟨r, 2, none⟩ (.bool x.m.g)).setCell ⟨r, 3, none⟩ (.string x.x)
theorem EnAt.put4 {w : World} {r : Nat} {x : En} (h : EnAt w r x) (y : En) : EnAt (stE w r y) r y := (((h.set0 y.m.k).set1 y.m.s).set2 y.m.g).set3 y.x
theorem grown_put4 {w w1 : World} {g r : Nat} (h : w.grownBy w1 (some g)) (hr : w.heap.size ≤ r) (y : En) : w.grownBy (stE w1 r y) (some g) :=
  grown_up (grown_up (grown_up (grown_up h (p := ⟨r, 0, none⟩) hr _) (p := ⟨r, 1, none⟩) hr _) (p := ⟨r, 2, none⟩) hr _) (p := ⟨r, 3, none⟩) hr _

end Go.Proofs.Ytoljldokehfokaa

namespace Go.Proofs.Ytoljldokehfokaa
open Go.RowKit
set_option linter.unusedVariables false
set_option maxRecDepth 100000

end Go.Proofs.Ytoljldokehfokaa

namespace Go.Proofs.Ytoljldokehfokaa
open Go.RowKit
set_option linter.unusedVariables false
set_option maxRecDepth 100000

theorem below_put4 {B : Nat} {w w1 : World} (h : Below B w w1) {r : Nat} (hr : B ≤ r) (y : En) : Below B w (stE w1 r y) :=
  (((h.setCell (p := ⟨r, 0, none⟩) hr _).setCell (p := ⟨r, 1, none⟩) hr _).setCell (p := ⟨r, 2, none⟩) hr _).setCell (p := ⟨r, 3, none⟩) hr _
/-- no entry -/
def En.zero : En := ⟨⟨ByteArray.empty, 0, false⟩, ByteArray.empty⟩
/-- what Get answers: the entry, how many bytes it took, the error -/
def gotE (l : List UInt8) : En × Nat × Nat :=
  if (keyT l).2 ≠ 0 then (En.zero, 0, (keyT l).2)
  else if (Vi.get (l.drop (getText l).2.1)).2.2 ≠ 0 then (En.zero, 0, (Vi.get (l.drop (getText l).2.1)).2.2)
  else match (l.drop (getText l).2.1).drop (Vi.get (l.drop (getText l).2.1)).2.1 with
    | [] => (En.zero, 0, 5)
    | x :: l3 =>
      if 1 < x.toNat then (En.zero, 0, 4)
      else if x.toNat = 1 then (⟨⟨⟨(keyT l).1.toArray⟩, (Vi.get (l.drop (getText l).2.1)).1, true⟩, ByteArray.empty⟩, (getText l).2.1 + (Vi.get (l.drop (getText l).2.1)).2.1 + 1, 0)
      else if (valT l3).2 ≠ 0 then (En.zero, 0, (valT l3).2)
      else (⟨⟨⟨(keyT l).1.toArray⟩, (Vi.get (l.drop (getText l).2.1)).1, false⟩, ⟨(valT l3).1.toArray⟩⟩, (getText l).2.1 + (Vi.get (l.drop (getText l).2.1)).2.1 + 1 + (getText l3).2.1, 0)

/-- what was answered of bytes -/
def GotE (w : World) (r : En × Nat × Nat) (e : Ending) (w' : World) : Prop := e = .returned (.tuple #[r.1.v, .int .i64 (r.2.1 : Int), .int .i64 (r.2.2 : Int)]) ∧ Below w.heap.size w w'

end Go.Proofs.Ytoljldokehfokaa

