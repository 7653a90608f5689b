/-
  DERIVED. GIVEN WITH THE SEED: THE CARDS: each row of YtodmgmfanpnabaaGreatDoorRows.lean that lists a variable, with what it lists TIED to the program's text (the seventh form; the later family's looks); each row that meets fmt, with fmt's text TOLD by the authors' own Lean function (tested against real Go, not proved from fmt's source: count such statements apart). THE CARD IS WHAT COUNTS. Prove the row's statement (the work); the ties are given (YtodmgmfanpnabaaGreatDoorTie.lean); close each card by the builder's one call (the guide's Derived/Test/ToyasCard.lean, 'card_holds'). Laid BY PROGRAM, IN A SANDBOX (cutbox-door.mjs). By AI agents, Wed Nov 11 2026. No macro, syntax, notation, axiom, sorry.
-/
import Derived.Test.YtodmgmfanpnabaaGreatDoorRows
import GoSem.ClaimSeven
namespace Go.Proofs.YtodmgmfanpnabaaGreatDoor
namespace Rows

/-- THE TIED CARD OF 'bucketlinelaw06.JournalsPlay'. -/
def journalsPlayCard : Claim7 := { stood := { row := journalsPlayRow, standIns := [], harness := (true, "3c99d6bc2d00ebaf1039e5123d0bbe7d90ce91145e586af011c6a26e24bb8d38"), looks := true }, kinds := [], alts := [], laidByText := true, laidKinds := [.data, .data, .data], laidTests := true, laidLooks := .later }
def JournalsPlayCardSaid : Prop := Claim7.holds Tryz.pinned (.plain (OpenSpec.ofChange journalsPlaySpec)) journalsPlayCard

/-- THE TIED CARD OF 'bucketlinelaw08.BlocksPut'. -/
def blocksPutCard : Claim7 := { stood := { row := blocksPutRow, standIns := [], harness := (true, "3c99d6bc2d00ebaf1039e5123d0bbe7d90ce91145e586af011c6a26e24bb8d38"), looks := true }, kinds := [], alts := [], laidByText := true, laidKinds := [.data, .data, .data], laidTests := true, laidLooks := .later }
def BlocksPutCardSaid : Prop := Claim7.holds Tryz.pinned (.plain (OpenSpec.ofChange blocksPutSpec)) blocksPutCard

/-- THE TIED CARD OF 'bucketlinelaw08.BlocksGet'. -/
def blocksGetCard : Claim7 := { stood := { row := blocksGetRow, standIns := [], harness := (true, "3c99d6bc2d00ebaf1039e5123d0bbe7d90ce91145e586af011c6a26e24bb8d38"), looks := true }, kinds := [], alts := [], laidByText := true, laidKinds := [.data, .data, .data], laidTests := true, laidLooks := .later }
def BlocksGetCardSaid : Prop := Claim7.holds Tryz.pinned (.plain (OpenSpec.ofChange blocksGetSpec)) blocksGetCard

/-- THE SECOND FORM's CARD OF 'bucketlinelaw06.JournalsPlay'. -/
def journalsPlayUptoCard : Claim7 := { stood := { row := journalsPlayUptoRow, standIns := [], harness := (true, "3c99d6bc2d00ebaf1039e5123d0bbe7d90ce91145e586af011c6a26e24bb8d38"), looks := true }, kinds := [], alts := [], laidByText := true, laidKinds := [.data, .data, .data], laidTests := true, laidLooks := .later }
def JournalsPlayUptoCardSaid : Prop := Claim7.holds Tryz.pinned (.plain (OpenSpec.upto journalsPlaySpec)) journalsPlayUptoCard

/-- THE SECOND FORM's CARD OF 'bucketlinelaw08.BlocksPut'. -/
def blocksPutUptoCard : Claim7 := { stood := { row := blocksPutUptoRow, standIns := [], harness := (true, "3c99d6bc2d00ebaf1039e5123d0bbe7d90ce91145e586af011c6a26e24bb8d38"), looks := true }, kinds := [], alts := [], laidByText := true, laidKinds := [.data, .data, .data], laidTests := true, laidLooks := .later }
def BlocksPutUptoCardSaid : Prop := Claim7.holds Tryz.pinned (.plain (OpenSpec.upto blocksPutSpec)) blocksPutUptoCard

/-- THE SECOND FORM's CARD OF 'bucketlinelaw08.BlocksGet'. -/
def blocksGetUptoCard : Claim7 := { stood := { row := blocksGetUptoRow, standIns := [], harness := (true, "3c99d6bc2d00ebaf1039e5123d0bbe7d90ce91145e586af011c6a26e24bb8d38"), looks := true }, kinds := [], alts := [], laidByText := true, laidKinds := [.data, .data, .data], laidTests := true, laidLooks := .later }
def BlocksGetUptoCardSaid : Prop := Claim7.holds Tryz.pinned (.plain (OpenSpec.upto blocksGetSpec)) blocksGetUptoCard
end Rows
end Go.Proofs.YtodmgmfanpnabaaGreatDoor
