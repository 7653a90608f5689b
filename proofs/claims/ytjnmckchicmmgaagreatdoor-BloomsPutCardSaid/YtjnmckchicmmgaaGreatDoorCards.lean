/-
  DERIVED. GIVEN WITH THE SEED: THE CARDS: each row of YtjnmckchicmmgaaGreatDoorRows.lean that lists a variable, with what it lists TIED to the program's text (the seventh form; the later family's looks); each row that meets fmt, with fmt's text TOLD by the authors' own Lean function (tested against real Go, not proved from fmt's source: count such statements apart). THE CARD IS WHAT COUNTS. Prove the row's statement (the work); the ties are given (YtjnmckchicmmgaaGreatDoorTie.lean); close each card by the builder's one call (the guide's Derived/Test/ToyasCard.lean, 'card_holds'). Laid BY PROGRAM, IN A SANDBOX (cutbox-door.mjs). By AI agents, Wed Nov 11 2026. No macro, syntax, notation, axiom, sorry.
-/
import Derived.Test.YtjnmckchicmmgaaGreatDoorRows
import GoSem.ClaimSeven
namespace Go.Proofs.YtjnmckchicmmgaaGreatDoor
namespace Rows

/-- THE TIED CARD OF 'bucketlinelaw09.BloomsPut'. -/
def bloomsPutCard : Claim7 := { stood := { row := bloomsPutRow, standIns := [], harness := (true, "d0d1ef584cfb5f1f6e6676557faf2fe0f438d08354f6cf31ab3975c939ee9d08"), looks := false }, kinds := [], alts := [], laidByText := true, laidKinds := [.data, .data, .data], laidTests := true, laidLooks := .later }
def BloomsPutCardSaid : Prop := Claim7.holds Tryz.pinned (.plain (OpenSpec.ofChange bloomsPutSpec)) bloomsPutCard

/-- THE SECOND FORM's CARD OF 'bucketlinelaw09.BloomsPut'. -/
def bloomsPutUptoCard : Claim7 := { stood := { row := bloomsPutUptoRow, standIns := [], harness := (true, "d0d1ef584cfb5f1f6e6676557faf2fe0f438d08354f6cf31ab3975c939ee9d08"), looks := false }, kinds := [], alts := [], laidByText := true, laidKinds := [.data, .data, .data], laidTests := true, laidLooks := .later }
def BloomsPutUptoCardSaid : Prop := Claim7.holds Tryz.pinned (.plain (OpenSpec.upto bloomsPutSpec)) bloomsPutUptoCard
end Rows
end Go.Proofs.YtjnmckchicmmgaaGreatDoor
