/-
  Lists of three bytes each, in memory.
-/
import Derived.Test.YtcbeimoolndomaaBase
namespace Go.Proofs.Ytcbeimoolndomaa
open Go.RowKit
set_option linter.unusedVariables false

/-- a list of three bytes each lies in memory, below B -/
structure Rows3 (w : World) (B : Nat) (A : Option Addr) (n : Nat) (l : List (UInt8 × UInt8 × UInt8)) : Prop where
  len : l.length = n
  spot : ∀ i p, l[i]? = some p → ∃ b o, A = some ⟨b, o, none⟩ ∧ b < B ∧ w.cell? ⟨b, o + i * 3, none⟩ = some (bv p.1) ∧ w.cell? ⟨b, o + i * 3 + 1, none⟩ = some (bv p.2.1) ∧ w.cell? ⟨b, o + i * 3 + 2, none⟩ = some (bv p.2.2)
theorem Rows3.below {w w' : World} {B n : Nat} {A : Option Addr} {l : List (UInt8 × UInt8 × UInt8)} (h : Rows3 w B A n l) (hb : Below B w w') : Rows3 w' B A n l :=
  ⟨h.len, fun i p hp => by
    obtain ⟨b, o, e, hB, c0, c1, c2⟩ := h.spot i p hp
    exact ⟨b, o, e, hB, (hb.cell (p := ⟨b, o + i * 3, none⟩) hB).trans c0, (hb.cell (p := ⟨b, o + i * 3 + 1, none⟩) hB).trans c1, (hb.cell (p := ⟨b, o + i * 3 + 2, none⟩) hB).trans c2⟩⟩
end Go.Proofs.Ytcbeimoolndomaa
