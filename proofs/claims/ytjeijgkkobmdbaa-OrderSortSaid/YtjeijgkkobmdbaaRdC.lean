/-
  Contracts of package order: the reader's entry.
-/
import Derived.Test.YtjeijgkkobmdbaaRdB
namespace Go.Proofs.Ytjeijgkkobmdbaa
open Go.RowKit
set_option linter.unusedVariables false

theorem EnAt.kept {w w' : World} {r : Nat} {x : En} {row : Option Nat} (h : EnAt w r x) (hg : w.grownBy w' row) (hne : some r ≠ row) : EnAt w' r x := (hg.block r (Array.getElem?_eq_some_iff.1 h).1 hne).trans h
theorem EnAt.frozen {w : World} {r : Nat} {x : En} (h : EnAt w r x) (j : Nat) : w.frozen? ⟨r, j, none⟩ = false := by
  unfold EnAt at h
  simp [World.frozen?, h]
theorem EnAt.lt {w : World} {r : Nat} {x : En} (h : EnAt w r x) : r < w.heap.size := (Array.getElem?_eq_some_iff.1 h).1

theorem grown_up {w w1 : World} {g : Nat} (h : w.grownBy w1 (some g)) {p : Addr} (hp : w.heap.size ≤ p.block) (u : Value) : w.grownBy (w1.setCell p u) (some g) :=
  ⟨h.os, h.tape, h.output, by simpa [World.setCell] using h.size, fun k hk hne => (Below.heap_setCell w1 p u k (by omega)).trans (h.block k hk hne)⟩
theorem grown_new {w w1 : World} {g : Nat} {o : Obj} (h : (w.alloc o).grownBy w1 (some g)) : w.grownBy w1 (some g) := grown_trans (World.grownBy_alloc w o _) h

theorem EnAt.set0 {w : World} {r : Nat} {x : En} (h : EnAt w r x) (k : ByteArray) : EnAt (w.setCell ⟨r, 0, none⟩ (.string k)) r ⟨⟨k, x.m.s, x.m.g⟩, x.x⟩ := by
  unfold EnAt at h ⊢
  simp [World.setCell, Array.getElem?_modify, h]
theorem EnAt.set1 {w : World} {r : Nat} {x : En} (h : EnAt w r x) (s : Nat) : EnAt (w.setCell ⟨r, 1, none⟩ (.int .u64 (s : Int))) r ⟨⟨x.m.k, s, x.m.g⟩, x.x⟩ := by
  unfold EnAt at h ⊢
  simp [World.setCell, Array.getElem?_modify, h]
theorem EnAt.set2 {w : World} {r : Nat} {x : En} (h : EnAt w r x) (g : Bool) : EnAt (w.setCell ⟨r, 2, none⟩ (.bool g)) r ⟨⟨x.m.k, x.m.s, g⟩, x.x⟩ := by
  unfold EnAt at h ⊢
  simp [World.setCell, Array.getElem?_modify, h]
theorem EnAt.set3 {w : World} {r : Nat} {x : En} (h : EnAt w r x) (y : ByteArray) : EnAt (w.setCell ⟨r, 3, none⟩ (.string y)) r ⟨x.m, y⟩ := by
  unfold EnAt at h ⊢
  simp [World.setCell, Array.getElem?_modify, h]
/-- all four cells are stored -/
def stE (w : World) (r : Nat) (x : En) : World :=
  (((w.setCell ⟨r, 0, none⟩ (.string x.m.k)).setCell ⟨r, 1, none⟩ (.int .u64 (x.m.s : Int))).setCell ⟨r, 2, none⟩ (.bool x.m.g)).setCell ⟨r, 3, none⟩ (.string x.x)
theorem EnAt.put4 {w : World} {r : Nat} {x : En} (h : EnAt w r x) (y : En) : EnAt (stE w r y) r y := (((h.set0 y.m.k).set1 y.m.s).set2 y.m.g).set3 y.x
theorem grown_put4 {w w1 : World} {g r : Nat} (h : w.grownBy w1 (some g)) (hr : w.heap.size ≤ r) (y : En) : w.grownBy (stE w1 r y) (some g) :=
  grown_up (grown_up (grown_up (grown_up h (p := ⟨r, 0, none⟩) hr _) (p := ⟨r, 1, none⟩) hr _) (p := ⟨r, 2, none⟩) hr _) (p := ⟨r, 3, none⟩) hr _

/-- the reader's state, and what is left of a call -/
def EntR (w : World) (B g : Nat) (x : En) (n : Nat) (l : List UInt8) (A : Option Addr) (c : Nat) (w' : World) : Prop := Rd w' B g n l A c ∧ w.grownBy w' (some g)

set_option maxHeartbeats 1000000 in
theorem entry_key (B g n c : Nat) (l : List UInt8) (A : Option Addr) (w : World) (h : Rd w B g n l A c) (he : (keyT l).2 ≠ 0) :
    Calls Try.prog 37 #[.pointer (some ⟨g, 0, none⟩)] w fun e w' => ∃ x : En, e = .returned (.tuple #[x.v, .int .i64 ((keyT l).2 : Int)]) ∧ w.grownBy w' (some g) := by
  have hr : Rd (w.alloc (.cells #[.string ByteArray.empty, .int .u64 0, .bool false, .string ByteArray.empty] 32)) B g n l A c := h.kept (World.grownBy_alloc w _ none) (fun k hk => by cases hk)
  have HK := key_any B g n c l A _ hr
  have hgl := h.lt
  obtain ⟨e0, he0⟩ : ∃ e0, (keyT l).2 = e0 := ⟨_, rfl⟩
  obtain ⟨s, hs⟩ : ∃ s : ByteArray, (⟨(keyT l).1.toArray⟩ : ByteArray) = s := ⟨_, rfl⟩
  rw [he0] at he HK ⊢
  rw [hs] at HK
  have HKK := Lib.hid HK
  have hne : ((e0 : Int) != 0) = true := by simp; omega
  clear hs he0 HK hr h
  go_enter Try.func37, Try.ntmps37
  go_wp2_with fail
  refine HKK.out.mono ?_
  rintro e w1 ⟨rfl, hp⟩
  have HP := Lib.hid hp; clear hp
  have he1 : EnAt w1 w.heap.size ⟨⟨ByteArray.empty, 0, false⟩, ByteArray.empty⟩ := (EnAt.new w ⟨⟨ByteArray.empty, 0, false⟩, ByteArray.empty⟩).kept HP.out.2 (fun e => by injection e with e; omega)
  have h1 := he1.cell
  have hf0 := he1.frozen 0; have hf1 := he1.frozen 1; have hf2 := he1.frozen 2; have hf3 := he1.frozen 3
  go_wp2
  have HE := he1.set0 s |>.put4 ⟨⟨s, 0, false⟩, ByteArray.empty⟩
  change bodyPost _ _ _ _ _ (stE (w1.setCell ⟨w.heap.size, 0, none⟩ (.string s)) w.heap.size ⟨⟨s, 0, false⟩, ByteArray.empty⟩)
  have HG : w.grownBy (stE (w1.setCell ⟨w.heap.size, 0, none⟩ (.string s)) w.heap.size ⟨⟨s, 0, false⟩, ByteArray.empty⟩) (some g) := grown_put4 (grown_up (grown_new HP.out.2) (p := ⟨w.heap.size, 0, none⟩) (Nat.le_refl _) _) (Nat.le_refl _) _
  generalize stE (w1.setCell ⟨w.heap.size, 0, none⟩ (.string s)) w.heap.size ⟨⟨s, 0, false⟩, ByteArray.empty⟩ = W at HE HG ⊢
  obtain ⟨q0, q1, q2, q3⟩ := HE.cell
  exact bodyPost_ret (v := .tuple #[(En.mk (Mk.mk s 0 false) ByteArray.empty).v, .int .i64 (e0 : Int)]) (by simp [results, Try.results37, go_sem, q0, q1, q2, q3, En.v]) rfl ⟨_, rfl, HG⟩
end Go.Proofs.Ytjeijgkkobmdbaa
