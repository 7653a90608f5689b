/-
  A list of byte lists in memory.
  Contracts of slices.Grow (of nothing) and slices.Concat, of byte lists.
-/
import Derived.Test.YtoljldokehfokaaMem
import Derived.Lib.AppendZeros
import Derived.LoopTactic
namespace Go.Proofs.Ytoljldokehfokaa
open Go.RowKit
set_option linter.unusedVariables false

/-- a byte list of a list: where it lies, how long it is, its room, its bytes -/
structure Rcd where
  A : Option Addr
  n : Nat
  c : Nat
  l : List UInt8
def Rcd.v (r : Rcd) : Value := .slice r.A r.n r.c
/-- the byte lists of a list, where they lie -/
def Rcds (w : World) (B : Nat) (rs : List Rcd) : Prop := ∀ r ∈ rs, Lies w B 1 r.A r.n (r.l.map bv) ∧ r.n ≤ r.c ∧ r.c ≤ 140737488351232
theorem Rcds.below {w w' : World} {B : Nat} {rs : List Rcd} (h : Rcds w B rs) (hb : Below B w w') : Rcds w' B rs := fun r hr => ⟨(h r hr).1.below hb, (h r hr).2⟩
theorem Rcds.more {w : World} {B B' : Nat} {rs : List Rcd} (h : Rcds w B rs) (hb : B ≤ B') : Rcds w B' rs := fun r hr => ⟨(h r hr).1.more hb, (h r hr).2⟩
theorem Rcds.len {w : World} {B : Nat} {rs : List Rcd} (h : Rcds w B rs) {r : Rcd} (hr : r ∈ rs) : r.l.length = r.n := (h r hr).1.blen
/-- one of them -/
theorem Lies.rcd {w : World} {B n k : Nat} {A : Option Addr} {rs : List Rcd} (h : Lies w B 1 A n (rs.map Rcd.v)) (hk : k < n) :
    ∃ b o r, A = some ⟨b, o, none⟩ ∧ b < B ∧ rs[k]? = some r ∧ w.cell? ⟨b, o + k, none⟩ = some (.slice r.A r.n r.c) := by
  obtain ⟨b, o, u, e, hb, hu, hc⟩ := h.at_ hk
  rw [List.getElem?_map] at hu
  cases hx : rs[k]? with
  | none => rw [hx] at hu; cases hu
  | some x =>
    rw [hx] at hu
    injection hu with hu
    subst hu
    exact ⟨b, o, x, e, hb, rfl, hc⟩
theorem Lies.rlen {w : World} {B n : Nat} {A : Option Addr} {rs : List Rcd} (h : Lies w B 1 A n (rs.map Rcd.v)) : rs.length = n := by have := h.len; simp at this; exact this
end Go.Proofs.Ytoljldokehfokaa

namespace Go.Proofs.Ytoljldokehfokaa
open Go.RowKit
set_option linter.unusedVariables false
set_option maxRecDepth 100000

/-- a row of bytes that was made, with room, and nothing in it yet -/
theorem own_zeros (w : World) (n c base : Nat) (hb : base ≤ w.heap.size) (hc : c ≤ maxLen) (cs : Array Value) (hs : cs.size = c) :
    (w.drew.alloc (.cells cs 5)).ownsRow base 5 1 (.slice (some ⟨w.heap.size, 0, none⟩) 0 c) 0 (([] : List UInt8).map bv) := by
  refine ⟨rfl, .inr ⟨w.heap.size, c, cs, rfl, hb, ?_, Nat.zero_le _, hc, by omega, by simp⟩⟩
  have := heap_alloc_new w.drew (.cells cs 5)
  exact this

/-- the bytes of all -/
def cat (rs : List Rcd) : List UInt8 := (rs.map Rcd.l).flatten
theorem cat_snoc (rs : List Rcd) (k : Nat) (r : Rcd) (h : rs[k]? = some r) : cat (rs.take (k + 1)) = cat (rs.take k) ++ r.l := by
  unfold cat
  rw [List.take_add_one, h]; simp
theorem cat_le (rs : List Rcd) (k : Nat) : (cat (rs.take k)).length ≤ (cat rs).length := by
  have h : cat rs = cat (rs.take k) ++ cat (rs.drop k) := by
    unfold cat
    rw [← List.flatten_append, ← List.map_append, List.take_append_drop]
  rw [h, List.length_append]; omega
/-- each of them lies -/
def LyAll (w : World) (B : Nat) (rs : List Rcd) : Prop := ∀ r ∈ rs, Lies w B 1 r.A r.n (r.l.map bv)

def CRel (w : World) (rs : List Rcd) (n : Nat) (v i : Value) (wr : World) : Prop :=
  ∃ k : Nat, k ≤ n ∧ i = .int .i64 (k : Int) ∧ wr.ownsRow w.heap.size 5 1 v (cat (rs.take k)).length ((cat (rs.take k)).map bv) ∧ Below w.heap.size w wr

end Go.Proofs.Ytoljldokehfokaa

