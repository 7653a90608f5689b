/-
  DERIVED. GIVEN WITH THE SEED: THE CARDS: each row of YtbpdonnneleeeaaGreatDoorRows.lean that lists a variable, with what it lists TIED to the program's text (the seventh form; the later family's looks); each row that meets fmt, with fmt's text TOLD by the authors' own Lean function (tested against real Go, not proved from fmt's source: count such statements apart). THE CARD IS WHAT COUNTS. Prove the row's statement (the work); the ties are given (YtbpdonnneleeeaaGreatDoorTie.lean); close each card by the builder's one call (the guide's Derived/Test/ToyasCard.lean, 'card_holds'). Laid BY PROGRAM, IN A SANDBOX (cutbox-door.mjs). By AI agents, Wed Nov 11 2026. No macro, syntax, notation, axiom, sorry.
-/
import Derived.Test.YtbpdonnneleeeaaGreatDoorRows
import GoSem.ClaimSeven
namespace Go.Proofs.YtbpdonnneleeeaaGreatDoor
namespace Rows

/-- THE TIED CARD OF 'bucketlinelaw05.FilesPlay'. -/
def filesPlayCard : Claim7 := { stood := { row := filesPlayRow, standIns := [], harness := (true, "2de325e3a36e33962ff8094e8750ff92c166b1c228f7a74b06bc4a4fa2fcea06"), looks := true }, kinds := [], alts := [], laidByText := true, laidKinds := [.data, .data, .data], laidTests := true, laidLooks := .later }
def FilesPlayCardSaid : Prop := Claim7.holds Tryz.pinned (.plain (OpenSpec.ofChange filesPlaySpec)) filesPlayCard

/-- THE TIED CARD OF 'bucketlinelaw06.JournalsPlay'. -/
def journalsPlayCard : Claim7 := { stood := { row := journalsPlayRow, standIns := [], harness := (true, "2de325e3a36e33962ff8094e8750ff92c166b1c228f7a74b06bc4a4fa2fcea06"), looks := true }, kinds := [], alts := [], laidByText := true, laidKinds := [.data, .data, .data], laidTests := true, laidLooks := .later }
def JournalsPlayCardSaid : Prop := Claim7.holds Tryz.pinned (.plain (OpenSpec.ofChange journalsPlaySpec)) journalsPlayCard

/-- THE SECOND FORM's CARD OF 'bucketlinelaw05.FilesPlay'. -/
def filesPlayUptoCard : Claim7 := { stood := { row := filesPlayUptoRow, standIns := [], harness := (true, "2de325e3a36e33962ff8094e8750ff92c166b1c228f7a74b06bc4a4fa2fcea06"), looks := true }, kinds := [], alts := [], laidByText := true, laidKinds := [.data, .data, .data], laidTests := true, laidLooks := .later }
def FilesPlayUptoCardSaid : Prop := Claim7.holds Tryz.pinned (.plain (OpenSpec.upto filesPlaySpec)) filesPlayUptoCard

/-- THE SECOND FORM's CARD OF 'bucketlinelaw06.JournalsPlay'. -/
def journalsPlayUptoCard : Claim7 := { stood := { row := journalsPlayUptoRow, standIns := [], harness := (true, "2de325e3a36e33962ff8094e8750ff92c166b1c228f7a74b06bc4a4fa2fcea06"), looks := true }, kinds := [], alts := [], laidByText := true, laidKinds := [.data, .data, .data], laidTests := true, laidLooks := .later }
def JournalsPlayUptoCardSaid : Prop := Claim7.holds Tryz.pinned (.plain (OpenSpec.upto journalsPlaySpec)) journalsPlayUptoCard
end Rows
end Go.Proofs.YtbpdonnneleeeaaGreatDoor
