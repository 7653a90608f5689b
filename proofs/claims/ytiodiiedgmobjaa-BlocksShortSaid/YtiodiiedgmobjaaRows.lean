/-
  No cell of these rows narrows 'for every input' (looked for: loops, veiled, ifaces, maps, wideKeys, modest, calm, conditions, laid).
  DERIVED. THE GIVEN ROWS OF THIS SEAT. 6 by the template 'for every input the law returns true; each argument reads behind the call as it read before'; 0 by the template 'total and deterministic' (their statements: YtiodiiedgmobjaaTotals.lean).
  GIVEN WITH THE SEED: the statements are not yours to turn. If you find one false, say at which input.
  Laid BY PROGRAM, IN A SANDBOX (cutbox-rows.mjs): the forced cells as the released guide's own fill.sh prints them over the translation 92f60b2f068d6171… (all of the seat's roots in one cut). By AI agents, Wed Nov 11 2026. No macro, syntax, notation, axiom, sorry.
-/
import Derived.Test.YtiodiiedgmobjaaChecked
import GoSem.Claim
import GoSem.ClaimJoined
import GoSem.ClaimMapViews
import Derived.JoinedTies
import Derived.KernelRfl
namespace Go.Proofs.Ytiodiiedgmobjaa
/- THE CELL 'sum', in the pinned program and in every row, IS THE sha256 OF THE DUMP (.gsa) THAT YtiodiiedgmobjaaProg.lean LOADS. Nothing in Lean hashes anything: it is a label: what it is worth is what the hold of that sum in a sandbox is worth. -/
noncomputable def Try.pinned : Pinned := { name := "ytiodiiedgmobjaa", sum := "92f60b2f068d6171c2c0598f87b1bb025433ae6b71ea7e180387f59b50ea6310", checked := Try.checked }
namespace Rows
def none {H : Type} : Left H := { results := [], args := [] }

/-- 'bucketlinelaw08.BlocksBack': WHATEVER THE INPUT: true; the input reads as it did. -/
def blocksBackSpec : ChangeSpec := { name := "blocksBack", fn := fun _ => fun
  | [d1, d2] => { results := [.lit (.bool true)], args := [d1, d2] }
  | _ => none }
def blocksBackRow : OpenClaim := { program := "ytiodiiedgmobjaa", sum := "92f60b2f068d6171c2c0598f87b1bb025433ae6b71ea7e180387f59b50ea6310", func := "bucketline/bucketlinelaw08.BlocksBack", spec := "blocksBack", unfollowed := true, recurses := true, apart := false }
def BlocksBackSaid : Prop := blocksBackRow.holds Try.pinned (OpenSpec.ofChange blocksBackSpec)

/-- ITS FALSE NEIGHBOUR: 'it returns false'. Refute it at one input. -/
def blocksBackWrong : ChangeSpec := { name := "blocksBack", fn := fun _ => fun
  | [d1, d2] => { results := [.lit (.bool false)], args := [d1, d2] }
  | _ => none }
def BlocksBackWrongFalsely : Prop := blocksBackRow.holds Try.pinned (OpenSpec.ofChange blocksBackWrong)

/-- 'bucketlinelaw08.BlocksSeek': WHATEVER THE INPUT: true; the input reads as it did. -/
def blocksSeekSpec : ChangeSpec := { name := "blocksSeek", fn := fun _ => fun
  | [d1, d2] => { results := [.lit (.bool true)], args := [d1, d2] }
  | _ => none }
def blocksSeekRow : OpenClaim := { program := "ytiodiiedgmobjaa", sum := "92f60b2f068d6171c2c0598f87b1bb025433ae6b71ea7e180387f59b50ea6310", func := "bucketline/bucketlinelaw08.BlocksSeek", spec := "blocksSeek", unfollowed := true, recurses := true, apart := false }
def BlocksSeekSaid : Prop := blocksSeekRow.holds Try.pinned (OpenSpec.ofChange blocksSeekSpec)

/-- ITS FALSE NEIGHBOUR: 'it returns false'. Refute it at one input. -/
def blocksSeekWrong : ChangeSpec := { name := "blocksSeek", fn := fun _ => fun
  | [d1, d2] => { results := [.lit (.bool false)], args := [d1, d2] }
  | _ => none }
def BlocksSeekWrongFalsely : Prop := blocksSeekRow.holds Try.pinned (OpenSpec.ofChange blocksSeekWrong)

/-- 'bucketlinelaw08.BlocksCut': WHATEVER THE INPUT: true; the input reads as it did. -/
def blocksCutSpec : ChangeSpec := { name := "blocksCut", fn := fun _ => fun
  | [d1, d2, d3] => { results := [.lit (.bool true)], args := [d1, d2, d3] }
  | _ => none }
def blocksCutRow : OpenClaim := { program := "ytiodiiedgmobjaa", sum := "92f60b2f068d6171c2c0598f87b1bb025433ae6b71ea7e180387f59b50ea6310", func := "bucketline/bucketlinelaw08.BlocksCut", spec := "blocksCut", unfollowed := true, recurses := true, apart := false }
def BlocksCutSaid : Prop := blocksCutRow.holds Try.pinned (OpenSpec.ofChange blocksCutSpec)

/-- ITS FALSE NEIGHBOUR: 'it returns false'. Refute it at one input. -/
def blocksCutWrong : ChangeSpec := { name := "blocksCut", fn := fun _ => fun
  | [d1, d2, d3] => { results := [.lit (.bool false)], args := [d1, d2, d3] }
  | _ => none }
def BlocksCutWrongFalsely : Prop := blocksCutRow.holds Try.pinned (OpenSpec.ofChange blocksCutWrong)

/-- 'bucketlinelaw08.BlocksShort': WHATEVER THE INPUT: true; the input reads as it did. -/
def blocksShortSpec : ChangeSpec := { name := "blocksShort", fn := fun _ => fun
  | [d1, d2, d3] => { results := [.lit (.bool true)], args := [d1, d2, d3] }
  | _ => none }
def blocksShortRow : OpenClaim := { program := "ytiodiiedgmobjaa", sum := "92f60b2f068d6171c2c0598f87b1bb025433ae6b71ea7e180387f59b50ea6310", func := "bucketline/bucketlinelaw08.BlocksShort", spec := "blocksShort", unfollowed := true, recurses := true, apart := false }
def BlocksShortSaid : Prop := blocksShortRow.holds Try.pinned (OpenSpec.ofChange blocksShortSpec)

/-- ITS FALSE NEIGHBOUR: 'it returns false'. Refute it at one input. -/
def blocksShortWrong : ChangeSpec := { name := "blocksShort", fn := fun _ => fun
  | [d1, d2, d3] => { results := [.lit (.bool false)], args := [d1, d2, d3] }
  | _ => none }
def BlocksShortWrongFalsely : Prop := blocksShortRow.holds Try.pinned (OpenSpec.ofChange blocksShortWrong)

/-- 'bucketlinelaw08.BlocksMany': WHATEVER THE INPUT: true; the input reads as it did. -/
def blocksManySpec : ChangeSpec := { name := "blocksMany", fn := fun _ => fun
  | [d1, d2] => { results := [.lit (.bool true)], args := [d1, d2] }
  | _ => none }
def blocksManyRow : OpenClaim := { program := "ytiodiiedgmobjaa", sum := "92f60b2f068d6171c2c0598f87b1bb025433ae6b71ea7e180387f59b50ea6310", func := "bucketline/bucketlinelaw08.BlocksMany", spec := "blocksMany", unfollowed := true, recurses := true, apart := false }
def BlocksManySaid : Prop := blocksManyRow.holds Try.pinned (OpenSpec.ofChange blocksManySpec)

/-- ITS FALSE NEIGHBOUR: 'it returns false'. Refute it at one input. -/
def blocksManyWrong : ChangeSpec := { name := "blocksMany", fn := fun _ => fun
  | [d1, d2] => { results := [.lit (.bool false)], args := [d1, d2] }
  | _ => none }
def BlocksManyWrongFalsely : Prop := blocksManyRow.holds Try.pinned (OpenSpec.ofChange blocksManyWrong)

/-- 'bucketlinelaw08.BlocksFours': WHATEVER THE INPUT: true; the input reads as it did. -/
def blocksFoursSpec : ChangeSpec := { name := "blocksFours", fn := fun _ => fun
  | [d1, d2] => { results := [.lit (.bool true)], args := [d1, d2] }
  | _ => none }
def blocksFoursRow : OpenClaim := { program := "ytiodiiedgmobjaa", sum := "92f60b2f068d6171c2c0598f87b1bb025433ae6b71ea7e180387f59b50ea6310", func := "bucketline/bucketlinelaw08.BlocksFours", spec := "blocksFours", unfollowed := true, recurses := true, apart := false }
def BlocksFoursSaid : Prop := blocksFoursRow.holds Try.pinned (OpenSpec.ofChange blocksFoursSpec)

/-- ITS FALSE NEIGHBOUR: 'it returns false'. Refute it at one input. -/
def blocksFoursWrong : ChangeSpec := { name := "blocksFours", fn := fun _ => fun
  | [d1, d2] => { results := [.lit (.bool false)], args := [d1, d2] }
  | _ => none }
def BlocksFoursWrongFalsely : Prop := blocksFoursRow.holds Try.pinned (OpenSpec.ofChange blocksFoursWrong)

/- THE SECOND FORM. 'bulk': how many values and letters a reading holds, each counted each time it is reached (what is shared counts as often as it is met; a slice's spare places count too). A statement '..UptoSaid' is the law's where the arguments, and the package variables that the reading takes, are together of bulk at most 1048576: NARROWER than '..Said'. Prove '..Said' where nothing that the law and all that it calls make is longer than what came in: it says more and counts as full. Else prove '..UptoSaid'. A law counts once. -/
mutual
def uptoBulk {H : Type} : DataW H → Nat
  | .lit (.string bytes) => bytes.length + 1
  | .lit _ => 1
  | .nil => 1
  | .ptr d => uptoBulk d + 1
  | .slice elems spare => uptoBulkAll elems + uptoBulkAll spare + 1
  | .agg parts => uptoBulkAll parts + 1
  | .iface _ d => uptoBulk d + 1
  | .map entries => uptoBulkEntries entries + 1
  | .held _ => 1
def uptoBulkAll {H : Type} : List (DataW H) → Nat
  | [] => 0
  | d :: r => uptoBulk d + uptoBulkAll r
def uptoBulkEntries {H : Type} : List (Lit × DataW H) → Nat
  | [] => 0
  | x :: r => uptoBulkEntry x + uptoBulkEntries r
def uptoBulkEntry {H : Type} : Lit × DataW H → Nat
  | (.string bytes, d) => bytes.length + uptoBulk d + 1
  | (_, d) => uptoBulk d + 1
 end
def uptoSmall : (H : Type) → List (DataW H) → Bool := fun _ ds => decide (uptoBulkAll ds ≤ 1048576)
def OpenSpec.upto (s : _root_.Go.ChangeSpec) : _root_.Go.OpenSpec := { _root_.Go.OpenSpec.ofChange s with cond := some uptoSmall }

/-- 'bucketlinelaw08.BlocksBack', WHERE WHAT IT READS IS OF BULK AT MOST 1048576: true; the input reads as it did. -/
def blocksBackUptoRow : OpenClaim := { program := "ytiodiiedgmobjaa", sum := "92f60b2f068d6171c2c0598f87b1bb025433ae6b71ea7e180387f59b50ea6310", func := "bucketline/bucketlinelaw08.BlocksBack", spec := "blocksBack", unfollowed := true, recurses := true, apart := false, narrowed := true }
def BlocksBackUptoSaid : Prop := blocksBackUptoRow.holds Try.pinned (OpenSpec.upto blocksBackSpec)

/-- 'bucketlinelaw08.BlocksSeek', WHERE WHAT IT READS IS OF BULK AT MOST 1048576: true; the input reads as it did. -/
def blocksSeekUptoRow : OpenClaim := { program := "ytiodiiedgmobjaa", sum := "92f60b2f068d6171c2c0598f87b1bb025433ae6b71ea7e180387f59b50ea6310", func := "bucketline/bucketlinelaw08.BlocksSeek", spec := "blocksSeek", unfollowed := true, recurses := true, apart := false, narrowed := true }
def BlocksSeekUptoSaid : Prop := blocksSeekUptoRow.holds Try.pinned (OpenSpec.upto blocksSeekSpec)

/-- 'bucketlinelaw08.BlocksCut', WHERE WHAT IT READS IS OF BULK AT MOST 1048576: true; the input reads as it did. -/
def blocksCutUptoRow : OpenClaim := { program := "ytiodiiedgmobjaa", sum := "92f60b2f068d6171c2c0598f87b1bb025433ae6b71ea7e180387f59b50ea6310", func := "bucketline/bucketlinelaw08.BlocksCut", spec := "blocksCut", unfollowed := true, recurses := true, apart := false, narrowed := true }
def BlocksCutUptoSaid : Prop := blocksCutUptoRow.holds Try.pinned (OpenSpec.upto blocksCutSpec)

/-- 'bucketlinelaw08.BlocksShort', WHERE WHAT IT READS IS OF BULK AT MOST 1048576: true; the input reads as it did. -/
def blocksShortUptoRow : OpenClaim := { program := "ytiodiiedgmobjaa", sum := "92f60b2f068d6171c2c0598f87b1bb025433ae6b71ea7e180387f59b50ea6310", func := "bucketline/bucketlinelaw08.BlocksShort", spec := "blocksShort", unfollowed := true, recurses := true, apart := false, narrowed := true }
def BlocksShortUptoSaid : Prop := blocksShortUptoRow.holds Try.pinned (OpenSpec.upto blocksShortSpec)

/-- 'bucketlinelaw08.BlocksMany', WHERE WHAT IT READS IS OF BULK AT MOST 1048576: true; the input reads as it did. -/
def blocksManyUptoRow : OpenClaim := { program := "ytiodiiedgmobjaa", sum := "92f60b2f068d6171c2c0598f87b1bb025433ae6b71ea7e180387f59b50ea6310", func := "bucketline/bucketlinelaw08.BlocksMany", spec := "blocksMany", unfollowed := true, recurses := true, apart := false, narrowed := true }
def BlocksManyUptoSaid : Prop := blocksManyUptoRow.holds Try.pinned (OpenSpec.upto blocksManySpec)

/-- 'bucketlinelaw08.BlocksFours', WHERE WHAT IT READS IS OF BULK AT MOST 1048576: true; the input reads as it did. -/
def blocksFoursUptoRow : OpenClaim := { program := "ytiodiiedgmobjaa", sum := "92f60b2f068d6171c2c0598f87b1bb025433ae6b71ea7e180387f59b50ea6310", func := "bucketline/bucketlinelaw08.BlocksFours", spec := "blocksFours", unfollowed := true, recurses := true, apart := false, narrowed := true }
def BlocksFoursUptoSaid : Prop := blocksFoursUptoRow.holds Try.pinned (OpenSpec.upto blocksFoursSpec)

end Rows
end Go.Proofs.Ytiodiiedgmobjaa
