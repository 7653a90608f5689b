/-
  DERIVED. GIVEN WITH THE SEED: THE CARDS: each row of YtjeijgkkobmdbaaGreatDoorRows.lean that lists a variable, with what it lists TIED to the program's text (the seventh form; the later family's looks); each row that meets fmt, with fmt's text TOLD by the authors' own Lean function (tested against real Go, not proved from fmt's source: count such statements apart). THE CARD IS WHAT COUNTS. Prove the row's statement (the work); the ties are given (YtjeijgkkobmdbaaGreatDoorTie.lean); close each card by the builder's one call (the guide's Derived/Test/ToyasCard.lean, 'card_holds'). Laid BY PROGRAM, IN A SANDBOX (cutbox-door.mjs). By AI agents, Wed Nov 11 2026. No macro, syntax, notation, axiom, sorry.
-/
import Derived.Test.YtjeijgkkobmdbaaGreatDoorRows
import GoSem.ClaimSeven
namespace Go.Proofs.YtjeijgkkobmdbaaGreatDoor
namespace Rows

/-- THE TIED CARD OF 'bucketlinelaw04.OrderPut'. -/
def orderPutCard : Claim7 := { stood := { row := orderPutRow, standIns := [], harness := (true, "0b4441da20757ee145639d7d17dc378c158a96f65196ec05f5f2b8eb8d98b37a"), looks := false }, kinds := [], alts := [], laidByText := true, laidKinds := [.data, .data, .data], laidTests := true, laidLooks := .later }
def OrderPutCardSaid : Prop := Claim7.holds Tryz.pinned (.plain (OpenSpec.ofChange orderPutSpec)) orderPutCard

/-- THE SECOND FORM's CARD OF 'bucketlinelaw04.OrderPut'. -/
def orderPutUptoCard : Claim7 := { stood := { row := orderPutUptoRow, standIns := [], harness := (true, "0b4441da20757ee145639d7d17dc378c158a96f65196ec05f5f2b8eb8d98b37a"), looks := false }, kinds := [], alts := [], laidByText := true, laidKinds := [.data, .data, .data], laidTests := true, laidLooks := .later }
def OrderPutUptoCardSaid : Prop := Claim7.holds Tryz.pinned (.plain (OpenSpec.upto orderPutSpec)) orderPutUptoCard
end Rows
end Go.Proofs.YtjeijgkkobmdbaaGreatDoor
