/-
  Contracts of package order: the reader's entry.
-/
import Derived.Test.YtiodiiedgmobjaaRdB
namespace Go.Proofs.Ytiodiiedgmobjaa
open Go.RowKit
set_option linter.unusedVariables false
set_option maxRecDepth 100000

theorem EnAt.kept {w w' : World} {r : Nat} {x : En} {row : Option Nat} (h : EnAt w r x) (hg : w.grownBy w' row) (hne : some r ≠ row) : EnAt w' r x := (hg.block r (Array.getElem?_eq_some_iff.1 h).1 hne).trans h
theorem EnAt.frozen {w : World} {r : Nat} {x : En} (h : EnAt w r x) (j : Nat) : w.frozen? ⟨r, j, none⟩ = false := by
  unfold EnAt at h
  simp [World.frozen?, h]
theorem EnAt.lt {w : World} {r : Nat} {x : En} (h : EnAt w r x) : r < w.heap.size := (Array.getElem?_eq_some_iff.1 h).1

theorem grown_up {w w1 : World} {g : Nat} (h : w.grownBy w1 (some g)) {p : Addr} (hp : w.heap.size ≤ p.block) (u : Value) : w.grownBy (w1.setCell p u) (some g) :=
  ⟨h.os, h.tape, h.output, by simpa [World.setCell] using h.size, fun k hk hne => (Below.heap_setCell w1 p u k (by omega)).trans (h.block k hk hne)⟩
theorem grown_new {w w1 : World} {g : Nat} {o : Obj} (h : (w.alloc o).grownBy w1 (some g)) : w.grownBy w1 (some g) := grown_trans (World.grownBy_alloc w o _) h

theorem EnAt.set0 {w : World} {r : Nat} {x : En} (h : EnAt w r x) (k : ByteArray) : EnAt (w.setCell ⟨r, 0, none⟩ (.string k)) r ⟨⟨k, x.m.s, x.m.g⟩, x.x⟩ := by
  unfold EnAt at h ⊢
  simp [World.setCell, Array.getElem?_modify, h]
theorem EnAt.set1 {w : World} {r : Nat} {x : En} (h : EnAt w r x) (s : Nat) : EnAt (w.setCell ⟨r, 1, none⟩ (.int .u64 (s : Int))) r ⟨⟨x.m.k, s, x.m.g⟩, x.x⟩ := by
  unfold EnAt at h ⊢
  simp [World.setCell, Array.getElem?_modify, h]
theorem EnAt.set2 {w : World} {r : Nat} {x : En} (h : EnAt w r x) (g : Bool) : EnAt (w.setCell ⟨r, 2, none⟩ (.bool g)) r ⟨⟨x.m.k, x.m.s, g⟩, x.x⟩ := by
  unfold EnAt at h ⊢
  simp [World.setCell, Array.getElem?_modify, h]
theorem EnAt.set3 {w : World} {r : Nat} {x : En} (h : EnAt w r x) (y : ByteArray) : EnAt (w.setCell ⟨r, 3, none⟩ (.string y)) r ⟨x.m, y⟩ := by
  unfold EnAt at h ⊢
  simp [World.setCell, Array.getElem?_modify, h]
/-- all four cells are stored -/
def stE (w : World) (r : Nat) (x : En) : World :=
  (((w.setCell ⟨r, 0, none⟩ (.string x.m.k)).setCell ⟨r, 1, none⟩ (.int .u64 (x.m.s : Int))).setCell ⟨r, 2, none⟩ (.bool x.m.g)).setCell ⟨r, 3, none⟩ (.string x.x)
theorem EnAt.put4 {w : World} {r : Nat} {x : En} (h : EnAt w r x) (y : En) : EnAt (stE w r y) r y := (((h.set0 y.m.k).set1 y.m.s).set2 y.m.g).set3 y.x
theorem grown_put4 {w w1 : World} {g r : Nat} (h : w.grownBy w1 (some g)) (hr : w.heap.size ≤ r) (y : En) : w.grownBy (stE w1 r y) (some g) :=
  grown_up (grown_up (grown_up (grown_up h (p := ⟨r, 0, none⟩) hr _) (p := ⟨r, 1, none⟩) hr _) (p := ⟨r, 2, none⟩) hr _) (p := ⟨r, 3, none⟩) hr _

end Go.Proofs.Ytiodiiedgmobjaa
