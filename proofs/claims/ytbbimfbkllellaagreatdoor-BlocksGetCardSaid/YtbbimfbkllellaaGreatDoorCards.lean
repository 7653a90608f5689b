/-
  DERIVED. GIVEN WITH THE SEED: THE CARDS: each row of YtbbimfbkllellaaGreatDoorRows.lean that lists a variable, with what it lists TIED to the program's text (the seventh form; the later family's looks); each row that meets fmt, with fmt's text TOLD by the authors' own Lean function (tested against real Go, not proved from fmt's source: count such statements apart). THE CARD IS WHAT COUNTS. Prove the row's statement (the work); the ties are given (YtbbimfbkllellaaGreatDoorTie.lean); close each card by the builder's one call (the guide's Derived/Test/ToyasCard.lean, 'card_holds'). Laid BY PROGRAM, IN A SANDBOX (cutbox-door.mjs). By AI agents, Wed Nov 11 2026. No macro, syntax, notation, axiom, sorry.
-/
import Derived.Test.YtbbimfbkllellaaGreatDoorRows
import GoSem.ClaimSeven
namespace Go.Proofs.YtbbimfbkllellaaGreatDoor
namespace Rows

/-- THE TIED CARD OF 'bucketlinelaw08.BlocksGet'. -/
def blocksGetCard : Claim7 := { stood := { row := blocksGetRow, standIns := [], harness := (true, "115ed6b573a1f9182879eb38ccafdc107b0ce7af4250e4e21aafdfaa8a843df2"), looks := false }, kinds := [], alts := [], laidByText := true, laidKinds := [.data, .data, .data], laidTests := true, laidLooks := .later }
def BlocksGetCardSaid : Prop := Claim7.holds Tryz.pinned (.plain (OpenSpec.ofChange blocksGetSpec)) blocksGetCard

/-- THE SECOND FORM's CARD OF 'bucketlinelaw08.BlocksGet'. -/
def blocksGetUptoCard : Claim7 := { stood := { row := blocksGetUptoRow, standIns := [], harness := (true, "115ed6b573a1f9182879eb38ccafdc107b0ce7af4250e4e21aafdfaa8a843df2"), looks := false }, kinds := [], alts := [], laidByText := true, laidKinds := [.data, .data, .data], laidTests := true, laidLooks := .later }
def BlocksGetUptoCardSaid : Prop := Claim7.holds Tryz.pinned (.plain (OpenSpec.upto blocksGetSpec)) blocksGetUptoCard
end Rows
end Go.Proofs.YtbbimfbkllellaaGreatDoor
