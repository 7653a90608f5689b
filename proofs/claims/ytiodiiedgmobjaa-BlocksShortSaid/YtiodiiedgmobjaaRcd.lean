/-
  A list of byte lists in memory.
-/
import Derived.Test.YtiodiiedgmobjaaMem
namespace Go.Proofs.Ytiodiiedgmobjaa
open Go.RowKit
set_option linter.unusedVariables false

/-- a byte list of a list: where it lies, how long it is, its room, its bytes -/
structure Rcd where
  A : Option Addr
  n : Nat
  c : Nat
  l : List UInt8
def Rcd.v (r : Rcd) : Value := .slice r.A r.n r.c
/-- the byte lists of a list, where they lie -/
def Rcds (w : World) (B : Nat) (rs : List Rcd) : Prop := ∀ r ∈ rs, Lies w B 1 r.A r.n (r.l.map bv) ∧ r.n ≤ r.c ∧ r.c ≤ 140737488351232
theorem Rcds.below {w w' : World} {B : Nat} {rs : List Rcd} (h : Rcds w B rs) (hb : Below B w w') : Rcds w' B rs := fun r hr => ⟨(h r hr).1.below hb, (h r hr).2⟩
theorem Rcds.more {w : World} {B B' : Nat} {rs : List Rcd} (h : Rcds w B rs) (hb : B ≤ B') : Rcds w B' rs := fun r hr => ⟨(h r hr).1.more hb, (h r hr).2⟩
theorem Rcds.len {w : World} {B : Nat} {rs : List Rcd} (h : Rcds w B rs) {r : Rcd} (hr : r ∈ rs) : r.l.length = r.n := (h r hr).1.blen
/-- one of them -/
theorem Lies.rcd {w : World} {B n k : Nat} {A : Option Addr} {rs : List Rcd} (h : Lies w B 1 A n (rs.map Rcd.v)) (hk : k < n) :
    ∃ b o r, A = some ⟨b, o, none⟩ ∧ b < B ∧ rs[k]? = some r ∧ w.cell? ⟨b, o + k, none⟩ = some (.slice r.A r.n r.c) := by
  obtain ⟨b, o, u, e, hb, hu, hc⟩ := h.at_ hk
  rw [List.getElem?_map] at hu
  cases hx : rs[k]? with
  | none => rw [hx] at hu; cases hu
  | some x =>
    rw [hx] at hu
    injection hu with hu
    subst hu
    exact ⟨b, o, x, e, hb, rfl, hc⟩
theorem Lies.rlen {w : World} {B n : Nat} {A : Option Addr} {rs : List Rcd} (h : Lies w B 1 A n (rs.map Rcd.v)) : rs.length = n := by have := h.len; simp at this; exact this
end Go.Proofs.Ytiodiiedgmobjaa
