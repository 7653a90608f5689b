/-
  No cell of these rows narrows 'for every input' (looked for: loops, veiled, ifaces, maps, wideKeys, modest, calm, conditions, laid).
  DERIVED. THE GIVEN ROWS OF THIS SEAT. 9 by the template 'for every input the law returns true; each argument reads behind the call as it read before'; 0 by the template 'total and deterministic' (their statements: YteelmgmigfeabaaTotals.lean).
  GIVEN WITH THE SEED: the statements are not yours to turn. If you find one false, say at which input.
  Laid BY PROGRAM, IN A SANDBOX (cutbox-rows.mjs): the forced cells as the released guide's own fill.sh prints them over the translation 58080366f20bde00… (all of the seat's roots in one cut). By AI agents, Wed Nov 11 2026. No macro, syntax, notation, axiom, sorry.
-/
import Derived.Test.YteelmgmigfeabaaChecked
import GoSem.Claim
import GoSem.ClaimJoined
import GoSem.ClaimMapViews
import Derived.JoinedTies
import Derived.KernelRfl
namespace Go.Proofs.Yteelmgmigfeabaa
/- THE CELL 'sum', in the pinned program and in every row, IS THE sha256 OF THE DUMP (.gsa) THAT YteelmgmigfeabaaProg.lean LOADS. Nothing in Lean hashes anything: it is a label: what it is worth is what the hold of that sum in a sandbox is worth. -/
noncomputable def Try.pinned : Pinned := { name := "yteelmgmigfeabaa", sum := "58080366f20bde00367e6364e6059fa48b41e01bb4b02c459e24ebbb838193d3", checked := Try.checked }
namespace Rows
def none {H : Type} : Left H := { results := [], args := [] }

/-- 'bucketlinelaw05.FilesNone': WHATEVER THE INPUT: true; the input reads as it did. -/
def filesNoneSpec : ChangeSpec := { name := "filesNone", fn := fun _ => fun
  | [d1, d2, d3] => { results := [.lit (.bool true)], args := [d1, d2, d3] }
  | _ => none }
def filesNoneRow : OpenClaim := { program := "yteelmgmigfeabaa", sum := "58080366f20bde00367e6364e6059fa48b41e01bb4b02c459e24ebbb838193d3", func := "bucketline/bucketlinelaw05.FilesNone", spec := "filesNone", inPlace := ["maps.clone"], unfollowed := true, recurses := true, apart := false }
def FilesNoneSaid : Prop := filesNoneRow.holds Try.pinned (OpenSpec.ofChange filesNoneSpec)

/-- ITS FALSE NEIGHBOUR: 'it returns false'. Refute it at one input. -/
def filesNoneWrong : ChangeSpec := { name := "filesNone", fn := fun _ => fun
  | [d1, d2, d3] => { results := [.lit (.bool false)], args := [d1, d2, d3] }
  | _ => none }
def FilesNoneWrongFalsely : Prop := filesNoneRow.holds Try.pinned (OpenSpec.ofChange filesNoneWrong)

/-- 'bucketlinelaw05.FilesSure': WHATEVER THE INPUT: true; the input reads as it did. -/
def filesSureSpec : ChangeSpec := { name := "filesSure", fn := fun _ => fun
  | [d1, d2, d3] => { results := [.lit (.bool true)], args := [d1, d2, d3] }
  | _ => none }
def filesSureRow : OpenClaim := { program := "yteelmgmigfeabaa", sum := "58080366f20bde00367e6364e6059fa48b41e01bb4b02c459e24ebbb838193d3", func := "bucketline/bucketlinelaw05.FilesSure", spec := "filesSure", inPlace := ["maps.clone"], unfollowed := true, recurses := true, apart := false }
def FilesSureSaid : Prop := filesSureRow.holds Try.pinned (OpenSpec.ofChange filesSureSpec)

/-- ITS FALSE NEIGHBOUR: 'it returns false'. Refute it at one input. -/
def filesSureWrong : ChangeSpec := { name := "filesSure", fn := fun _ => fun
  | [d1, d2, d3] => { results := [.lit (.bool false)], args := [d1, d2, d3] }
  | _ => none }
def FilesSureWrongFalsely : Prop := filesSureRow.holds Try.pinned (OpenSpec.ofChange filesSureWrong)

/-- 'bucketlinelaw05.FilesBytes': WHATEVER THE INPUT: true; the input reads as it did. -/
def filesBytesSpec : ChangeSpec := { name := "filesBytes", fn := fun _ => fun
  | [d1, d2, d3] => { results := [.lit (.bool true)], args := [d1, d2, d3] }
  | _ => none }
def filesBytesRow : OpenClaim := { program := "yteelmgmigfeabaa", sum := "58080366f20bde00367e6364e6059fa48b41e01bb4b02c459e24ebbb838193d3", func := "bucketline/bucketlinelaw05.FilesBytes", spec := "filesBytes", inPlace := ["maps.clone"], unfollowed := true, recurses := true, apart := false }
def FilesBytesSaid : Prop := filesBytesRow.holds Try.pinned (OpenSpec.ofChange filesBytesSpec)

/-- ITS FALSE NEIGHBOUR: 'it returns false'. Refute it at one input. -/
def filesBytesWrong : ChangeSpec := { name := "filesBytes", fn := fun _ => fun
  | [d1, d2, d3] => { results := [.lit (.bool false)], args := [d1, d2, d3] }
  | _ => none }
def FilesBytesWrongFalsely : Prop := filesBytesRow.holds Try.pinned (OpenSpec.ofChange filesBytesWrong)

/-- 'bucketlinelaw05.FilesMoves': WHATEVER THE INPUT: true; the input reads as it did. -/
def filesMovesSpec : ChangeSpec := { name := "filesMoves", fn := fun _ => fun
  | [d1, d2, d3] => { results := [.lit (.bool true)], args := [d1, d2, d3] }
  | _ => none }
def filesMovesRow : OpenClaim := { program := "yteelmgmigfeabaa", sum := "58080366f20bde00367e6364e6059fa48b41e01bb4b02c459e24ebbb838193d3", func := "bucketline/bucketlinelaw05.FilesMoves", spec := "filesMoves", inPlace := ["maps.clone"], unfollowed := true, recurses := true, apart := false }
def FilesMovesSaid : Prop := filesMovesRow.holds Try.pinned (OpenSpec.ofChange filesMovesSpec)

/-- ITS FALSE NEIGHBOUR: 'it returns false'. Refute it at one input. -/
def filesMovesWrong : ChangeSpec := { name := "filesMoves", fn := fun _ => fun
  | [d1, d2, d3] => { results := [.lit (.bool false)], args := [d1, d2, d3] }
  | _ => none }
def FilesMovesWrongFalsely : Prop := filesMovesRow.holds Try.pinned (OpenSpec.ofChange filesMovesWrong)

/-- 'bucketlinelaw05.FilesRoom': WHATEVER THE INPUT: true; the input reads as it did. -/
def filesRoomSpec : ChangeSpec := { name := "filesRoom", fn := fun _ => fun
  | [d1, d2] => { results := [.lit (.bool true)], args := [d1, d2] }
  | _ => none }
def filesRoomRow : OpenClaim := { program := "yteelmgmigfeabaa", sum := "58080366f20bde00367e6364e6059fa48b41e01bb4b02c459e24ebbb838193d3", func := "bucketline/bucketlinelaw05.FilesRoom", spec := "filesRoom", inPlace := ["maps.clone"], unfollowed := true, recurses := true, apart := false }
def FilesRoomSaid : Prop := filesRoomRow.holds Try.pinned (OpenSpec.ofChange filesRoomSpec)

/-- ITS FALSE NEIGHBOUR: 'it returns false'. Refute it at one input. -/
def filesRoomWrong : ChangeSpec := { name := "filesRoom", fn := fun _ => fun
  | [d1, d2] => { results := [.lit (.bool false)], args := [d1, d2] }
  | _ => none }
def FilesRoomWrongFalsely : Prop := filesRoomRow.holds Try.pinned (OpenSpec.ofChange filesRoomWrong)

/-- 'bucketlinelaw05.FilesNames': WHATEVER THE INPUT: true; the input reads as it did. -/
def filesNamesSpec : ChangeSpec := { name := "filesNames", fn := fun _ => fun
  | [d] => { results := [.lit (.bool true)], args := [d] }
  | _ => none }
def filesNamesRow : OpenClaim := { program := "yteelmgmigfeabaa", sum := "58080366f20bde00367e6364e6059fa48b41e01bb4b02c459e24ebbb838193d3", func := "bucketline/bucketlinelaw05.FilesNames", spec := "filesNames", inPlace := ["maps.clone"], unfollowed := true, recurses := true, apart := false }
def FilesNamesSaid : Prop := filesNamesRow.holds Try.pinned (OpenSpec.ofChange filesNamesSpec)

/-- ITS FALSE NEIGHBOUR: 'it returns false'. Refute it at one input. -/
def filesNamesWrong : ChangeSpec := { name := "filesNames", fn := fun _ => fun
  | [d] => { results := [.lit (.bool false)], args := [d] }
  | _ => none }
def FilesNamesWrongFalsely : Prop := filesNamesRow.holds Try.pinned (OpenSpec.ofChange filesNamesWrong)

/-- 'bucketlinelaw05.FilesTwice': WHATEVER THE INPUT: true; the input reads as it did. -/
def filesTwiceSpec : ChangeSpec := { name := "filesTwice", fn := fun _ => fun
  | [d1, d2, d3] => { results := [.lit (.bool true)], args := [d1, d2, d3] }
  | _ => none }
def filesTwiceRow : OpenClaim := { program := "yteelmgmigfeabaa", sum := "58080366f20bde00367e6364e6059fa48b41e01bb4b02c459e24ebbb838193d3", func := "bucketline/bucketlinelaw05.FilesTwice", spec := "filesTwice", inPlace := ["maps.clone"], unfollowed := true, recurses := true, apart := false }
def FilesTwiceSaid : Prop := filesTwiceRow.holds Try.pinned (OpenSpec.ofChange filesTwiceSpec)

/-- ITS FALSE NEIGHBOUR: 'it returns false'. Refute it at one input. -/
def filesTwiceWrong : ChangeSpec := { name := "filesTwice", fn := fun _ => fun
  | [d1, d2, d3] => { results := [.lit (.bool false)], args := [d1, d2, d3] }
  | _ => none }
def FilesTwiceWrongFalsely : Prop := filesTwiceRow.holds Try.pinned (OpenSpec.ofChange filesTwiceWrong)

/-- 'bucketlinelaw05.FilesApart': WHATEVER THE INPUT: true; the input reads as it did. -/
def filesApartSpec : ChangeSpec := { name := "filesApart", fn := fun _ => fun
  | [d1, d2, d3] => { results := [.lit (.bool true)], args := [d1, d2, d3] }
  | _ => none }
def filesApartRow : OpenClaim := { program := "yteelmgmigfeabaa", sum := "58080366f20bde00367e6364e6059fa48b41e01bb4b02c459e24ebbb838193d3", func := "bucketline/bucketlinelaw05.FilesApart", spec := "filesApart", inPlace := ["maps.clone"], unfollowed := true, recurses := true, apart := false }
def FilesApartSaid : Prop := filesApartRow.holds Try.pinned (OpenSpec.ofChange filesApartSpec)

/-- ITS FALSE NEIGHBOUR: 'it returns false'. Refute it at one input. -/
def filesApartWrong : ChangeSpec := { name := "filesApart", fn := fun _ => fun
  | [d1, d2, d3] => { results := [.lit (.bool false)], args := [d1, d2, d3] }
  | _ => none }
def FilesApartWrongFalsely : Prop := filesApartRow.holds Try.pinned (OpenSpec.ofChange filesApartWrong)

/-- 'bucketlinelaw05.FilesKeep': WHATEVER THE INPUT: true; the input reads as it did. -/
def filesKeepSpec : ChangeSpec := { name := "filesKeep", fn := fun _ => fun
  | [d1, d2] => { results := [.lit (.bool true)], args := [d1, d2] }
  | _ => none }
def filesKeepRow : OpenClaim := { program := "yteelmgmigfeabaa", sum := "58080366f20bde00367e6364e6059fa48b41e01bb4b02c459e24ebbb838193d3", func := "bucketline/bucketlinelaw05.FilesKeep", spec := "filesKeep", inPlace := ["maps.clone"], unfollowed := true, recurses := true, apart := false }
def FilesKeepSaid : Prop := filesKeepRow.holds Try.pinned (OpenSpec.ofChange filesKeepSpec)

/-- ITS FALSE NEIGHBOUR: 'it returns false'. Refute it at one input. -/
def filesKeepWrong : ChangeSpec := { name := "filesKeep", fn := fun _ => fun
  | [d1, d2] => { results := [.lit (.bool false)], args := [d1, d2] }
  | _ => none }
def FilesKeepWrongFalsely : Prop := filesKeepRow.holds Try.pinned (OpenSpec.ofChange filesKeepWrong)

/- THE SECOND FORM. 'bulk': how many values and letters a reading holds, each counted each time it is reached (what is shared counts as often as it is met; a slice's spare places count too). A statement '..UptoSaid' is the law's where the arguments, and the package variables that the reading takes, are together of bulk at most 1048576: NARROWER than '..Said'. Prove '..Said' where nothing that the law and all that it calls make is longer than what came in: it says more and counts as full. Else prove '..UptoSaid'. A law counts once. -/
mutual
def uptoBulk {H : Type} : DataW H → Nat
  | .lit (.string bytes) => bytes.length + 1
  | .lit _ => 1
  | .nil => 1
  | .ptr d => uptoBulk d + 1
  | .slice elems spare => uptoBulkAll elems + uptoBulkAll spare + 1
  | .agg parts => uptoBulkAll parts + 1
  | .iface _ d => uptoBulk d + 1
  | .map entries => uptoBulkEntries entries + 1
  | .held _ => 1
def uptoBulkAll {H : Type} : List (DataW H) → Nat
  | [] => 0
  | d :: r => uptoBulk d + uptoBulkAll r
def uptoBulkEntries {H : Type} : List (Lit × DataW H) → Nat
  | [] => 0
  | x :: r => uptoBulkEntry x + uptoBulkEntries r
def uptoBulkEntry {H : Type} : Lit × DataW H → Nat
  | (.string bytes, d) => bytes.length + uptoBulk d + 1
  | (_, d) => uptoBulk d + 1
 end
def uptoSmall : (H : Type) → List (DataW H) → Bool := fun _ ds => decide (uptoBulkAll ds ≤ 1048576)
def OpenSpec.upto (s : _root_.Go.ChangeSpec) : _root_.Go.OpenSpec := { _root_.Go.OpenSpec.ofChange s with cond := some uptoSmall }

/-- 'bucketlinelaw05.FilesNone', WHERE WHAT IT READS IS OF BULK AT MOST 1048576: true; the input reads as it did. -/
def filesNoneUptoRow : OpenClaim := { program := "yteelmgmigfeabaa", sum := "58080366f20bde00367e6364e6059fa48b41e01bb4b02c459e24ebbb838193d3", func := "bucketline/bucketlinelaw05.FilesNone", spec := "filesNone", inPlace := ["maps.clone"], unfollowed := true, recurses := true, apart := false, narrowed := true }
def FilesNoneUptoSaid : Prop := filesNoneUptoRow.holds Try.pinned (OpenSpec.upto filesNoneSpec)

/-- 'bucketlinelaw05.FilesSure', WHERE WHAT IT READS IS OF BULK AT MOST 1048576: true; the input reads as it did. -/
def filesSureUptoRow : OpenClaim := { program := "yteelmgmigfeabaa", sum := "58080366f20bde00367e6364e6059fa48b41e01bb4b02c459e24ebbb838193d3", func := "bucketline/bucketlinelaw05.FilesSure", spec := "filesSure", inPlace := ["maps.clone"], unfollowed := true, recurses := true, apart := false, narrowed := true }
def FilesSureUptoSaid : Prop := filesSureUptoRow.holds Try.pinned (OpenSpec.upto filesSureSpec)

/-- 'bucketlinelaw05.FilesBytes', WHERE WHAT IT READS IS OF BULK AT MOST 1048576: true; the input reads as it did. -/
def filesBytesUptoRow : OpenClaim := { program := "yteelmgmigfeabaa", sum := "58080366f20bde00367e6364e6059fa48b41e01bb4b02c459e24ebbb838193d3", func := "bucketline/bucketlinelaw05.FilesBytes", spec := "filesBytes", inPlace := ["maps.clone"], unfollowed := true, recurses := true, apart := false, narrowed := true }
def FilesBytesUptoSaid : Prop := filesBytesUptoRow.holds Try.pinned (OpenSpec.upto filesBytesSpec)

/-- 'bucketlinelaw05.FilesMoves', WHERE WHAT IT READS IS OF BULK AT MOST 1048576: true; the input reads as it did. -/
def filesMovesUptoRow : OpenClaim := { program := "yteelmgmigfeabaa", sum := "58080366f20bde00367e6364e6059fa48b41e01bb4b02c459e24ebbb838193d3", func := "bucketline/bucketlinelaw05.FilesMoves", spec := "filesMoves", inPlace := ["maps.clone"], unfollowed := true, recurses := true, apart := false, narrowed := true }
def FilesMovesUptoSaid : Prop := filesMovesUptoRow.holds Try.pinned (OpenSpec.upto filesMovesSpec)

/-- 'bucketlinelaw05.FilesRoom', WHERE WHAT IT READS IS OF BULK AT MOST 1048576: true; the input reads as it did. -/
def filesRoomUptoRow : OpenClaim := { program := "yteelmgmigfeabaa", sum := "58080366f20bde00367e6364e6059fa48b41e01bb4b02c459e24ebbb838193d3", func := "bucketline/bucketlinelaw05.FilesRoom", spec := "filesRoom", inPlace := ["maps.clone"], unfollowed := true, recurses := true, apart := false, narrowed := true }
def FilesRoomUptoSaid : Prop := filesRoomUptoRow.holds Try.pinned (OpenSpec.upto filesRoomSpec)

/-- 'bucketlinelaw05.FilesNames', WHERE WHAT IT READS IS OF BULK AT MOST 1048576: true; the input reads as it did. -/
def filesNamesUptoRow : OpenClaim := { program := "yteelmgmigfeabaa", sum := "58080366f20bde00367e6364e6059fa48b41e01bb4b02c459e24ebbb838193d3", func := "bucketline/bucketlinelaw05.FilesNames", spec := "filesNames", inPlace := ["maps.clone"], unfollowed := true, recurses := true, apart := false, narrowed := true }
def FilesNamesUptoSaid : Prop := filesNamesUptoRow.holds Try.pinned (OpenSpec.upto filesNamesSpec)

/-- 'bucketlinelaw05.FilesTwice', WHERE WHAT IT READS IS OF BULK AT MOST 1048576: true; the input reads as it did. -/
def filesTwiceUptoRow : OpenClaim := { program := "yteelmgmigfeabaa", sum := "58080366f20bde00367e6364e6059fa48b41e01bb4b02c459e24ebbb838193d3", func := "bucketline/bucketlinelaw05.FilesTwice", spec := "filesTwice", inPlace := ["maps.clone"], unfollowed := true, recurses := true, apart := false, narrowed := true }
def FilesTwiceUptoSaid : Prop := filesTwiceUptoRow.holds Try.pinned (OpenSpec.upto filesTwiceSpec)

/-- 'bucketlinelaw05.FilesApart', WHERE WHAT IT READS IS OF BULK AT MOST 1048576: true; the input reads as it did. -/
def filesApartUptoRow : OpenClaim := { program := "yteelmgmigfeabaa", sum := "58080366f20bde00367e6364e6059fa48b41e01bb4b02c459e24ebbb838193d3", func := "bucketline/bucketlinelaw05.FilesApart", spec := "filesApart", inPlace := ["maps.clone"], unfollowed := true, recurses := true, apart := false, narrowed := true }
def FilesApartUptoSaid : Prop := filesApartUptoRow.holds Try.pinned (OpenSpec.upto filesApartSpec)

/-- 'bucketlinelaw05.FilesKeep', WHERE WHAT IT READS IS OF BULK AT MOST 1048576: true; the input reads as it did. -/
def filesKeepUptoRow : OpenClaim := { program := "yteelmgmigfeabaa", sum := "58080366f20bde00367e6364e6059fa48b41e01bb4b02c459e24ebbb838193d3", func := "bucketline/bucketlinelaw05.FilesKeep", spec := "filesKeep", inPlace := ["maps.clone"], unfollowed := true, recurses := true, apart := false, narrowed := true }
def FilesKeepUptoSaid : Prop := filesKeepUptoRow.holds Try.pinned (OpenSpec.upto filesKeepSpec)

end Rows
end Go.Proofs.Yteelmgmigfeabaa
