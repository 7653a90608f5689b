/-
  What a call leaves of memory where it writes blocks of a set alone.
-/
import Derived.Test.YtjnmckchicmmgaaGreatDoorMem
namespace Go.Proofs.YtjnmckchicmmgaaGreatDoor
open Go.RowKit
set_option linter.unusedVariables false

/-- only some blocks are written -/
structure Wrote (S : Nat → Prop) (W W' : World) : Prop where
  os : W'.os = W.os
  tape : W'.tape = W.tape
  output : W'.output = W.output
  size : W.heap.size ≤ W'.heap.size
  block : ∀ i, i < W.heap.size → ¬ S i → W'.heap[i]? = W.heap[i]?
theorem Wrote.refl (S : Nat → Prop) (W : World) : Wrote S W W := ⟨rfl, rfl, rfl, Nat.le_refl _, fun _ _ _ => rfl⟩
theorem Wrote.trans {S : Nat → Prop} {A B C : World} (h : Wrote S A B) (k : Wrote S B C) : Wrote S A C :=
  ⟨k.os.trans h.os, k.tape.trans h.tape, k.output.trans h.output, Nat.le_trans h.size k.size, fun i hi hs => (k.block i (Nat.lt_of_lt_of_le hi h.size) hs).trans (h.block i hi hs)⟩
theorem Wrote.mono {S S' : Nat → Prop} {A B : World} (h : Wrote S A B) (hs : ∀ i, i < A.heap.size → S i → S' i) : Wrote S' A B := ⟨h.os, h.tape, h.output, h.size, fun i hi hn => h.block i hi fun hS => hn (hs i hi hS)⟩
theorem Wrote.grown {W W' : World} {row : Option Nat} (h : W.grownBy W' row) : Wrote (fun i => row = some i) W W' := ⟨h.os, h.tape, h.output, h.size, fun i hi hs => h.block i hi fun e => hs e.symm⟩
theorem Wrote.alloc {S : Nat → Prop} {A B : World} (h : Wrote S A B) (o : Obj) : Wrote S A (B.alloc o) :=
  ⟨h.os, h.tape, h.output, by simp; have := h.size; omega, fun i hi hs => (Below.heap_alloc B o i (Nat.lt_of_lt_of_le hi h.size)).trans (h.block i hi hs)⟩
theorem Wrote.set {S : Nat → Prop} {A B : World} (h : Wrote S A B) {p : Addr} (hp : S p.block) (u : Value) : Wrote S A (B.setCell p u) :=
  ⟨h.os, h.tape, h.output, by have := h.size; simpa [World.setCell] using this, fun i hi hs => (Below.heap_setCell B p u i (fun e => hs (by rw [e]; exact hp))).trans (h.block i hi hs)⟩
theorem Wrote.drew {S : Nat → Prop} {A B : World} (h : Wrote S A B) : Wrote S A B.drew := ⟨h.os, h.tape, h.output, h.size, h.block⟩
theorem Wrote.below {S : Nat → Prop} {A B : World} (h : Wrote S A B) {n : Nat} (hn : ∀ i, S i → n ≤ i) (hA : n ≤ A.heap.size) : Below n A B :=
  ⟨h.os, h.tape, h.output, h.size, fun i hi => h.block i (Nat.lt_of_lt_of_le hi hA) fun hs => by have := hn i hs; omega⟩
theorem Wrote.of_below {S : Nat → Prop} {A B : World} (h : Below A.heap.size A B) : Wrote S A B := ⟨h.os, h.tape, h.output, h.size, fun i hi _ => h.block i hi⟩
theorem Wrote.row {S : Nat → Prop} {A B : World} (h : Wrote S A B) {base e k n : Nat} {v : Value} {xs : List Value} (hr : A.ownsRow base e k v n xs) (hs : ∀ g, v.ownBlock = some g → ¬ S g) : B.ownsRow base e k v n xs := by
  refine ⟨hr.1, ?_⟩
  rcases hr.2 with h0 | ⟨g, cap, cur, rfl, hb, hh, r⟩
  · exact .inl h0
  · exact .inr ⟨g, cap, cur, rfl, hb, (h.block g (Array.getElem?_eq_some_iff.1 hh).1 (hs g rfl)).trans hh, r⟩
end Go.Proofs.YtjnmckchicmmgaaGreatDoor
