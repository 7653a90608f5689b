/-
  DERIVED. GIVEN WITH THE SEED: THE CARDS: each row of YtomfkfdnpmpbgaaGreatDoorRows.lean that lists a variable, with what it lists TIED to the program's text (the seventh form; the later family's looks); each row that meets fmt, with fmt's text TOLD by the authors' own Lean function (tested against real Go, not proved from fmt's source: count such statements apart). THE CARD IS WHAT COUNTS. Prove the row's statement (the work); the ties are given (YtomfkfdnpmpbgaaGreatDoorTie.lean); close each card by the builder's one call (the guide's Derived/Test/ToyasCard.lean, 'card_holds'). Laid BY PROGRAM, IN A SANDBOX (cutbox-door.mjs). By AI agents, Wed Nov 11 2026. No macro, syntax, notation, axiom, sorry.
-/
import Derived.Test.YtomfkfdnpmpbgaaGreatDoorRows
import GoSem.ClaimSeven
namespace Go.Proofs.YtomfkfdnpmpbgaaGreatDoor
namespace Rows

/-- THE TIED CARD OF 'bucketlinelaw03.FramesPut'. -/
def framesPutCard : Claim7 := { stood := { row := framesPutRow, standIns := [], harness := (true, "a78df7edc79fcf003e85ea28ee37938dc3c493bdcb7b99b1272794f168679ee6"), looks := false }, kinds := [], alts := [], laidByText := true, laidKinds := [.data, .data, .data], laidTests := true, laidLooks := .later }
def FramesPutCardSaid : Prop := Claim7.holds Tryz.pinned (.plain (OpenSpec.ofChange framesPutSpec)) framesPutCard

/-- THE TIED CARD OF 'bucketlinelaw03.FramesGet'. -/
def framesGetCard : Claim7 := { stood := { row := framesGetRow, standIns := [], harness := (true, "a78df7edc79fcf003e85ea28ee37938dc3c493bdcb7b99b1272794f168679ee6"), looks := false }, kinds := [], alts := [], laidByText := true, laidKinds := [.data, .data, .data], laidTests := true, laidLooks := .later }
def FramesGetCardSaid : Prop := Claim7.holds Tryz.pinned (.plain (OpenSpec.ofChange framesGetSpec)) framesGetCard

/-- THE SECOND FORM's CARD OF 'bucketlinelaw03.FramesPut'. -/
def framesPutUptoCard : Claim7 := { stood := { row := framesPutUptoRow, standIns := [], harness := (true, "a78df7edc79fcf003e85ea28ee37938dc3c493bdcb7b99b1272794f168679ee6"), looks := false }, kinds := [], alts := [], laidByText := true, laidKinds := [.data, .data, .data], laidTests := true, laidLooks := .later }
def FramesPutUptoCardSaid : Prop := Claim7.holds Tryz.pinned (.plain (OpenSpec.upto framesPutSpec)) framesPutUptoCard

/-- THE SECOND FORM's CARD OF 'bucketlinelaw03.FramesGet'. -/
def framesGetUptoCard : Claim7 := { stood := { row := framesGetUptoRow, standIns := [], harness := (true, "a78df7edc79fcf003e85ea28ee37938dc3c493bdcb7b99b1272794f168679ee6"), looks := false }, kinds := [], alts := [], laidByText := true, laidKinds := [.data, .data, .data], laidTests := true, laidLooks := .later }
def FramesGetUptoCardSaid : Prop := Claim7.holds Tryz.pinned (.plain (OpenSpec.upto framesGetSpec)) framesGetUptoCard
end Rows
end Go.Proofs.YtomfkfdnpmpbgaaGreatDoor
