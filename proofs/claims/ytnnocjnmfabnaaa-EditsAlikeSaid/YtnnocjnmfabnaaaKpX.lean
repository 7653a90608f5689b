/-
  Two worlds' worth of facts in one word.
  append onto a row of the call's own, whatever is appended: at a step of a region that draws its order.
  What a call leaves of memory where it writes blocks of a set alone.
  SameEntries, where both lists hold the same entries.
  Contracts of the laws' helpers: SameBytes.
-/
import Derived.Test.YtnnocjnmfabnaaaMem
import Derived.Test.YtnnocjnmfabnaaaBase
import Derived.Deep.RegionLaw
import Derived.Test.YtnnocjnmfabnaaaPlTx
import Derived.LoopTactic
import Derived.Deep.QuietTactic
import Derived.BigQuiet
namespace Go.Proofs.Ytnnocjnmfabnaaa
open Go.RowKit
set_option linter.unusedVariables false

/-- what lay there lies there still -/
def Kept (w W : World) : Prop := Below w.heap.size w W
theorem Kept.self (w : World) : Kept w w := Below.refl _ _
theorem Kept.drew {w W : World} (h : Kept w W) : Kept w W.drew := Below.drew h
theorem Kept.on {w W W' : World} (h : Kept w W) (h' : Below W.heap.size W W') : Kept w W' := Below.trans h (h'.mono h.size)
theorem Kept.lies {w W : World} (h : Kept w W) {A : Option Addr} {n : Nat} {l : List UInt8} (L : Lies w w.heap.size 1 A n (l.map bv)) : Lies W W.heap.size 1 A n (l.map bv) := (L.below h).more h.size
theorem Kept.new {w W : World} (h : Kept w W) (o : Obj) : Kept w (W.alloc o) := Below.alloc h h.size o
end Go.Proofs.Ytnnocjnmfabnaaa

namespace Go.Proofs.Ytnnocjnmfabnaaa
open Go.RowKit
set_option linter.unusedVariables false


/-- append(v, s...) as a step of a region that draws -/
theorem step_app {P : Program} (w : World) {ops : Array Oper} {o : Oper} {a : Act} {K : Act → World → Prop} {Q : Exit → Act → World → Prop} {E : Prop} (hgd : o.guard = none) (s x : Operand) (t : TypeId)
    (ho : o.op = .call { callee := .builtin .append, args := #[s, x], argTypes := #[t, t] })
    (base : Nat) (e : TypeId) (i : TypeInfo) (z : Value) (size bytes : Nat) (ht : P.underlying t = some (.slice e)) (hi : P.info? e = some i) (hz : i.zero = some z)
    (hsize : i.size = size) (hby : i.bytes = bytes) (hzs : z.cells.size = size) (hsz : 0 < size)
    (v : Value) (n : Nat) (xs : List Value) (hs : a.eval s = v) (hown : w.ownsRow base e size v n xs)
    (B : Nat) (A : Option Addr) (m c : Nat) (news : List Value) (hx : a.eval x = .slice A m c) (hr : Lies w B size A m news) (h1 : ∀ u ∈ news, u.oneCell' = true)
    (h63 : n + m ≤ maxLen) (hbytes : (n + m) * bytes ≤ 140737488355328) (hbase : base ≤ w.heap.size)
    (h : ∀ v' w', w'.ownsRow base e size v' (n + m) (xs ++ news) → w.grownBy w' v.ownBlock → (v'.ownBlock = v.ownBlock ∨ v'.ownBlock = some w.heap.size) → K (a.put o.dst v') w') :
    if Region.wanted o (yielded ops a.tmps) = true then Oper.wp P o a w K Q else E := by
  have hw : Region.wanted o (yielded ops a.tmps) = true := by simp [Region.wanted, hgd]
  rw [if_pos hw]
  obtain ⟨v', w', hrun, h2, h3, h4⟩ := run_app (P := P) w base t o.type e i z size bytes ht hi hz hsize hby hzs hsz v n xs hown B A m c news hr h1 h63 hbytes hbase
  unfold Oper.wp execOp
  simp only [ho, resolve, invoke, builtin, Sem.run_bind, Sem.run_pure, Result.andThen_ok, List.map_toArray, List.map_cons, List.map_nil, hs, hx, hrun]
  exact h v' w' h2 h3 h4
end Go.Proofs.Ytnnocjnmfabnaaa

namespace Go.Proofs.Ytnnocjnmfabnaaa
open Go.RowKit
set_option linter.unusedVariables false

/-- only some blocks are written -/
structure Wrote (S : Nat → Prop) (W W' : World) : Prop where
  os : W'.os = W.os
  tape : W'.tape = W.tape
  output : W'.output = W.output
  size : W.heap.size ≤ W'.heap.size
  block : ∀ i, i < W.heap.size → ¬ S i → W'.heap[i]? = W.heap[i]?
theorem Wrote.refl (S : Nat → Prop) (W : World) : Wrote S W W := ⟨rfl, rfl, rfl, Nat.le_refl _, fun _ _ _ => rfl⟩
theorem Wrote.trans {S : Nat → Prop} {A B C : World} (h : Wrote S A B) (k : Wrote S B C) : Wrote S A C :=
  ⟨k.os.trans h.os, k.tape.trans h.tape, k.output.trans h.output, Nat.le_trans h.size k.size, fun i hi hs => (k.block i (Nat.lt_of_lt_of_le hi h.size) hs).trans (h.block i hi hs)⟩
theorem Wrote.mono {S S' : Nat → Prop} {A B : World} (h : Wrote S A B) (hs : ∀ i, i < A.heap.size → S i → S' i) : Wrote S' A B := ⟨h.os, h.tape, h.output, h.size, fun i hi hn => h.block i hi fun hS => hn (hs i hi hS)⟩
theorem Wrote.grown {W W' : World} {row : Option Nat} (h : W.grownBy W' row) : Wrote (fun i => row = some i) W W' := ⟨h.os, h.tape, h.output, h.size, fun i hi hs => h.block i hi fun e => hs e.symm⟩
theorem Wrote.alloc {S : Nat → Prop} {A B : World} (h : Wrote S A B) (o : Obj) : Wrote S A (B.alloc o) :=
  ⟨h.os, h.tape, h.output, by simp; have := h.size; omega, fun i hi hs => (Below.heap_alloc B o i (Nat.lt_of_lt_of_le hi h.size)).trans (h.block i hi hs)⟩
theorem Wrote.set {S : Nat → Prop} {A B : World} (h : Wrote S A B) {p : Addr} (hp : S p.block) (u : Value) : Wrote S A (B.setCell p u) :=
  ⟨h.os, h.tape, h.output, by have := h.size; simpa [World.setCell] using this, fun i hi hs => (Below.heap_setCell B p u i (fun e => hs (by rw [e]; exact hp))).trans (h.block i hi hs)⟩
theorem Wrote.drew {S : Nat → Prop} {A B : World} (h : Wrote S A B) : Wrote S A B.drew := ⟨h.os, h.tape, h.output, h.size, h.block⟩
theorem Wrote.below {S : Nat → Prop} {A B : World} (h : Wrote S A B) {n : Nat} (hn : ∀ i, S i → n ≤ i) (hA : n ≤ A.heap.size) : Below n A B :=
  ⟨h.os, h.tape, h.output, h.size, fun i hi => h.block i (Nat.lt_of_lt_of_le hi hA) fun hs => by have := hn i hs; omega⟩
theorem Wrote.of_below {S : Nat → Prop} {A B : World} (h : Below A.heap.size A B) : Wrote S A B := ⟨h.os, h.tape, h.output, h.size, fun i hi _ => h.block i hi⟩
theorem Wrote.row {S : Nat → Prop} {A B : World} (h : Wrote S A B) {base e k n : Nat} {v : Value} {xs : List Value} (hr : A.ownsRow base e k v n xs) (hs : ∀ g, v.ownBlock = some g → ¬ S g) : B.ownsRow base e k v n xs := by
  refine ⟨hr.1, ?_⟩
  rcases hr.2 with h0 | ⟨g, cap, cur, rfl, hb, hh, r⟩
  · exact .inl h0
  · exact .inr ⟨g, cap, cur, rfl, hb, (h.block g (Array.getElem?_eq_some_iff.1 hh).1 (hs g rfl)).trans hh, r⟩
end Go.Proofs.Ytnnocjnmfabnaaa

namespace Go.Proofs.Ytnnocjnmfabnaaa
open Go.RowKit
set_option linter.unusedVariables false
set_option maxRecDepth 100000

end Go.Proofs.Ytnnocjnmfabnaaa

namespace Go.Proofs.Ytnnocjnmfabnaaa
open Go.RowKit
set_option linter.unusedVariables false

/-- are two lists of bytes the same? -/
def sameB (a b : List UInt8) : Bool := decide (a = b)
theorem sameB_self (a : List UInt8) : sameB a a = true := by simp [sameB]

end Go.Proofs.Ytnnocjnmfabnaaa

