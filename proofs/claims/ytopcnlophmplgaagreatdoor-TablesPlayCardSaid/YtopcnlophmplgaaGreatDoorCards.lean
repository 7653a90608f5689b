/-
  DERIVED. GIVEN WITH THE SEED: THE CARDS: each row of YtopcnlophmplgaaGreatDoorRows.lean that lists a variable, with what it lists TIED to the program's text (the seventh form; the later family's looks); each row that meets fmt, with fmt's text TOLD by the authors' own Lean function (tested against real Go, not proved from fmt's source: count such statements apart). THE CARD IS WHAT COUNTS. Prove the row's statement (the work); the ties are given (YtopcnlophmplgaaGreatDoorTie.lean); close each card by the builder's one call (the guide's Derived/Test/ToyasCard.lean, 'card_holds'). Laid BY PROGRAM, IN A SANDBOX (cutbox-door.mjs). By AI agents, Wed Nov 11 2026. No macro, syntax, notation, axiom, sorry.
-/
import Derived.Test.YtopcnlophmplgaaGreatDoorRows
import GoSem.ClaimSeven
namespace Go.Proofs.YtopcnlophmplgaaGreatDoor
namespace Rows

/-- THE TIED CARD OF 'bucketlinelaw06.JournalsPlay'. -/
def journalsPlayCard : Claim7 := { stood := { row := journalsPlayRow, standIns := [], harness := (true, "061fb6065c15eafbb33c6ff21dbd88e59690ca223f9ef2e3ed5e8fc8cb21a6d5"), looks := true }, kinds := [], alts := [], laidByText := true, laidKinds := [.data, .data, .data], laidTests := true, laidLooks := .later }
def JournalsPlayCardSaid : Prop := Claim7.holds Tryz.pinned (.plain (OpenSpec.ofChange journalsPlaySpec)) journalsPlayCard

/-- THE TIED CARD OF 'bucketlinelaw07.TablesPlay'. -/
def tablesPlayCard : Claim7 := { stood := { row := tablesPlayRow, standIns := [], harness := (true, "061fb6065c15eafbb33c6ff21dbd88e59690ca223f9ef2e3ed5e8fc8cb21a6d5"), looks := true }, kinds := [], alts := [], laidByText := true, laidKinds := [.data, .data, .data], laidTests := true, laidLooks := .later }
def TablesPlayCardSaid : Prop := Claim7.holds Tryz.pinned (.plain (OpenSpec.ofChange tablesPlaySpec)) tablesPlayCard

/-- THE SECOND FORM's CARD OF 'bucketlinelaw06.JournalsPlay'. -/
def journalsPlayUptoCard : Claim7 := { stood := { row := journalsPlayUptoRow, standIns := [], harness := (true, "061fb6065c15eafbb33c6ff21dbd88e59690ca223f9ef2e3ed5e8fc8cb21a6d5"), looks := true }, kinds := [], alts := [], laidByText := true, laidKinds := [.data, .data, .data], laidTests := true, laidLooks := .later }
def JournalsPlayUptoCardSaid : Prop := Claim7.holds Tryz.pinned (.plain (OpenSpec.upto journalsPlaySpec)) journalsPlayUptoCard

/-- THE SECOND FORM's CARD OF 'bucketlinelaw07.TablesPlay'. -/
def tablesPlayUptoCard : Claim7 := { stood := { row := tablesPlayUptoRow, standIns := [], harness := (true, "061fb6065c15eafbb33c6ff21dbd88e59690ca223f9ef2e3ed5e8fc8cb21a6d5"), looks := true }, kinds := [], alts := [], laidByText := true, laidKinds := [.data, .data, .data], laidTests := true, laidLooks := .later }
def TablesPlayUptoCardSaid : Prop := Claim7.holds Tryz.pinned (.plain (OpenSpec.upto tablesPlaySpec)) tablesPlayUptoCard
end Rows
end Go.Proofs.YtopcnlophmplgaaGreatDoor
