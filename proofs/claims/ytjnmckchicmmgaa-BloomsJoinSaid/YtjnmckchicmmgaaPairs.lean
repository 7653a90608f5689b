/-
  Lists of two strings each, in memory.
-/
import Derived.Test.YtjnmckchicmmgaaBase
namespace Go.Proofs.Ytjnmckchicmmgaa
open Go.RowKit
set_option linter.unusedVariables false

/-- a list of two strings each lies in memory, below B -/
structure Pairs (w : World) (B : Nat) (A : Option Addr) (n : Nat) (l : List (ByteArray × ByteArray)) : Prop where
  len : l.length = n
  spot : ∀ i p, l[i]? = some p → ∃ b o, A = some ⟨b, o, none⟩ ∧ b < B ∧ w.cell? ⟨b, o + i * 2, none⟩ = some (.string p.1) ∧ w.cell? ⟨b, o + i * 2 + 1, none⟩ = some (.string p.2)
theorem Pairs.below {w w' : World} {B n : Nat} {A : Option Addr} {l : List (ByteArray × ByteArray)} (h : Pairs w B A n l) (hb : Below B w w') : Pairs w' B A n l :=
  ⟨h.len, fun i p hp => by
    obtain ⟨b, o, e, hB, c0, c1⟩ := h.spot i p hp
    exact ⟨b, o, e, hB, (hb.cell (p := ⟨b, o + i * 2, none⟩) hB).trans c0, (hb.cell (p := ⟨b, o + i * 2 + 1, none⟩) hB).trans c1⟩⟩
end Go.Proofs.Ytjnmckchicmmgaa
