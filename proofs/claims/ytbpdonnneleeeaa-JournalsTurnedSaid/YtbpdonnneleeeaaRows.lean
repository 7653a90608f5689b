/-
  No cell of these rows narrows 'for every input' (looked for: loops, veiled, ifaces, maps, wideKeys, modest, calm, conditions, laid).
  DERIVED. THE GIVEN ROWS OF THIS SEAT. 7 by the template 'for every input the law returns true; each argument reads behind the call as it read before'; 0 by the template 'total and deterministic' (their statements: YtbpdonnneleeeaaTotals.lean).
  GIVEN WITH THE SEED: the statements are not yours to turn. If you find one false, say at which input.
  Laid BY PROGRAM, IN A SANDBOX (cutbox-rows.mjs): the forced cells as the released guide's own fill.sh prints them over the translation 6ec1558440f868c2… (all of the seat's roots in one cut). By AI agents, Wed Nov 11 2026. No macro, syntax, notation, axiom, sorry.
-/
import Derived.Test.YtbpdonnneleeeaaChecked
import GoSem.Claim
import GoSem.ClaimJoined
import GoSem.ClaimMapViews
import Derived.JoinedTies
import Derived.KernelRfl
namespace Go.Proofs.Ytbpdonnneleeeaa
/- THE CELL 'sum', in the pinned program and in every row, IS THE sha256 OF THE DUMP (.gsa) THAT YtbpdonnneleeeaaProg.lean LOADS. Nothing in Lean hashes anything: it is a label: what it is worth is what the hold of that sum in a sandbox is worth. -/
noncomputable def Try.pinned : Pinned := { name := "ytbpdonnneleeeaa", sum := "6ec1558440f868c2a163e188aaa93eec36769ee799521b980f03605bef84f768", checked := Try.checked }
namespace Rows
def none {H : Type} : Left H := { results := [], args := [] }

/-- 'bucketlinelaw06.JournalsNone': WHATEVER THE INPUT: true; the input reads as it did. -/
def journalsNoneSpec : ChangeSpec := { name := "journalsNone", fn := fun _ => fun
  | [d1, d2] => { results := [.lit (.bool true)], args := [d1, d2] }
  | _ => none }
def journalsNoneRow : OpenClaim := { program := "ytbpdonnneleeeaa", sum := "6ec1558440f868c2a163e188aaa93eec36769ee799521b980f03605bef84f768", func := "bucketline/bucketlinelaw06.JournalsNone", spec := "journalsNone", unfollowed := true, recurses := true, apart := false }
def JournalsNoneSaid : Prop := journalsNoneRow.holds Try.pinned (OpenSpec.ofChange journalsNoneSpec)

/-- ITS FALSE NEIGHBOUR: 'it returns false'. Refute it at one input. -/
def journalsNoneWrong : ChangeSpec := { name := "journalsNone", fn := fun _ => fun
  | [d1, d2] => { results := [.lit (.bool false)], args := [d1, d2] }
  | _ => none }
def JournalsNoneWrongFalsely : Prop := journalsNoneRow.holds Try.pinned (OpenSpec.ofChange journalsNoneWrong)

/-- 'bucketlinelaw06.JournalsBack': WHATEVER THE INPUT: true; the input reads as it did. -/
def journalsBackSpec : ChangeSpec := { name := "journalsBack", fn := fun _ => fun
  | [d1, d2] => { results := [.lit (.bool true)], args := [d1, d2] }
  | _ => none }
def journalsBackRow : OpenClaim := { program := "ytbpdonnneleeeaa", sum := "6ec1558440f868c2a163e188aaa93eec36769ee799521b980f03605bef84f768", func := "bucketline/bucketlinelaw06.JournalsBack", spec := "journalsBack", unfollowed := true, recurses := true, apart := false }
def JournalsBackSaid : Prop := journalsBackRow.holds Try.pinned (OpenSpec.ofChange journalsBackSpec)

/-- ITS FALSE NEIGHBOUR: 'it returns false'. Refute it at one input. -/
def journalsBackWrong : ChangeSpec := { name := "journalsBack", fn := fun _ => fun
  | [d1, d2] => { results := [.lit (.bool false)], args := [d1, d2] }
  | _ => none }
def JournalsBackWrongFalsely : Prop := journalsBackRow.holds Try.pinned (OpenSpec.ofChange journalsBackWrong)

/-- 'bucketlinelaw06.JournalsSure': WHATEVER THE INPUT: true; the input reads as it did. -/
def journalsSureSpec : ChangeSpec := { name := "journalsSure", fn := fun _ => fun
  | [d1, d2, d3] => { results := [.lit (.bool true)], args := [d1, d2, d3] }
  | _ => none }
def journalsSureRow : OpenClaim := { program := "ytbpdonnneleeeaa", sum := "6ec1558440f868c2a163e188aaa93eec36769ee799521b980f03605bef84f768", func := "bucketline/bucketlinelaw06.JournalsSure", spec := "journalsSure", inPlace := ["maps.clone"], unfollowed := true, recurses := true, apart := false }
def JournalsSureSaid : Prop := journalsSureRow.holds Try.pinned (OpenSpec.ofChange journalsSureSpec)

/-- ITS FALSE NEIGHBOUR: 'it returns false'. Refute it at one input. -/
def journalsSureWrong : ChangeSpec := { name := "journalsSure", fn := fun _ => fun
  | [d1, d2, d3] => { results := [.lit (.bool false)], args := [d1, d2, d3] }
  | _ => none }
def JournalsSureWrongFalsely : Prop := journalsSureRow.holds Try.pinned (OpenSpec.ofChange journalsSureWrong)

/-- 'bucketlinelaw06.JournalsSize': WHATEVER THE INPUT: true; the input reads as it did. -/
def journalsSizeSpec : ChangeSpec := { name := "journalsSize", fn := fun _ => fun
  | [d] => { results := [.lit (.bool true)], args := [d] }
  | _ => none }
def journalsSizeRow : OpenClaim := { program := "ytbpdonnneleeeaa", sum := "6ec1558440f868c2a163e188aaa93eec36769ee799521b980f03605bef84f768", func := "bucketline/bucketlinelaw06.JournalsSize", spec := "journalsSize", unfollowed := true, recurses := true, apart := false }
def JournalsSizeSaid : Prop := journalsSizeRow.holds Try.pinned (OpenSpec.ofChange journalsSizeSpec)

/-- ITS FALSE NEIGHBOUR: 'it returns false'. Refute it at one input. -/
def journalsSizeWrong : ChangeSpec := { name := "journalsSize", fn := fun _ => fun
  | [d] => { results := [.lit (.bool false)], args := [d] }
  | _ => none }
def JournalsSizeWrongFalsely : Prop := journalsSizeRow.holds Try.pinned (OpenSpec.ofChange journalsSizeWrong)

/-- 'bucketlinelaw06.JournalsTurned': WHATEVER THE INPUT: true; the input reads as it did. -/
def journalsTurnedSpec : ChangeSpec := { name := "journalsTurned", fn := fun _ => fun
  | [d1, d2, d3] => { results := [.lit (.bool true)], args := [d1, d2, d3] }
  | _ => none }
def journalsTurnedRow : OpenClaim := { program := "ytbpdonnneleeeaa", sum := "6ec1558440f868c2a163e188aaa93eec36769ee799521b980f03605bef84f768", func := "bucketline/bucketlinelaw06.JournalsTurned", spec := "journalsTurned", unfollowed := true, recurses := true, apart := false }
def JournalsTurnedSaid : Prop := journalsTurnedRow.holds Try.pinned (OpenSpec.ofChange journalsTurnedSpec)

/-- ITS FALSE NEIGHBOUR: 'it returns false'. Refute it at one input. -/
def journalsTurnedWrong : ChangeSpec := { name := "journalsTurned", fn := fun _ => fun
  | [d1, d2, d3] => { results := [.lit (.bool false)], args := [d1, d2, d3] }
  | _ => none }
def JournalsTurnedWrongFalsely : Prop := journalsTurnedRow.holds Try.pinned (OpenSpec.ofChange journalsTurnedWrong)

/-- 'bucketlinelaw06.JournalsNames': WHATEVER THE INPUT: true; the input reads as it did. -/
def journalsNamesSpec : ChangeSpec := { name := "journalsNames", fn := fun _ => fun
  | [d1, d2] => { results := [.lit (.bool true)], args := [d1, d2] }
  | _ => none }
def journalsNamesRow : OpenClaim := { program := "ytbpdonnneleeeaa", sum := "6ec1558440f868c2a163e188aaa93eec36769ee799521b980f03605bef84f768", func := "bucketline/bucketlinelaw06.JournalsNames", spec := "journalsNames", unfollowed := true, recurses := true, apart := false }
def JournalsNamesSaid : Prop := journalsNamesRow.holds Try.pinned (OpenSpec.ofChange journalsNamesSpec)

/-- ITS FALSE NEIGHBOUR: 'it returns false'. Refute it at one input. -/
def journalsNamesWrong : ChangeSpec := { name := "journalsNames", fn := fun _ => fun
  | [d1, d2] => { results := [.lit (.bool false)], args := [d1, d2] }
  | _ => none }
def JournalsNamesWrongFalsely : Prop := journalsNamesRow.holds Try.pinned (OpenSpec.ofChange journalsNamesWrong)

/-- 'bucketlinelaw06.JournalsCut': WHATEVER THE INPUT: true; the input reads as it did. -/
def journalsCutSpec : ChangeSpec := { name := "journalsCut", fn := fun _ => fun
  | [d1, d2] => { results := [.lit (.bool true)], args := [d1, d2] }
  | _ => none }
def journalsCutRow : OpenClaim := { program := "ytbpdonnneleeeaa", sum := "6ec1558440f868c2a163e188aaa93eec36769ee799521b980f03605bef84f768", func := "bucketline/bucketlinelaw06.JournalsCut", spec := "journalsCut", unfollowed := true, recurses := true, apart := false }
def JournalsCutSaid : Prop := journalsCutRow.holds Try.pinned (OpenSpec.ofChange journalsCutSpec)

/-- ITS FALSE NEIGHBOUR: 'it returns false'. Refute it at one input. -/
def journalsCutWrong : ChangeSpec := { name := "journalsCut", fn := fun _ => fun
  | [d1, d2] => { results := [.lit (.bool false)], args := [d1, d2] }
  | _ => none }
def JournalsCutWrongFalsely : Prop := journalsCutRow.holds Try.pinned (OpenSpec.ofChange journalsCutWrong)

/- THE SECOND FORM. 'bulk': how many values and letters a reading holds, each counted each time it is reached (what is shared counts as often as it is met; a slice's spare places count too). A statement '..UptoSaid' is the law's where the arguments, and the package variables that the reading takes, are together of bulk at most 1048576: NARROWER than '..Said'. Prove '..Said' where nothing that the law and all that it calls make is longer than what came in: it says more and counts as full. Else prove '..UptoSaid'. A law counts once. -/
mutual
def uptoBulk {H : Type} : DataW H → Nat
  | .lit (.string bytes) => bytes.length + 1
  | .lit _ => 1
  | .nil => 1
  | .ptr d => uptoBulk d + 1
  | .slice elems spare => uptoBulkAll elems + uptoBulkAll spare + 1
  | .agg parts => uptoBulkAll parts + 1
  | .iface _ d => uptoBulk d + 1
  | .map entries => uptoBulkEntries entries + 1
  | .held _ => 1
def uptoBulkAll {H : Type} : List (DataW H) → Nat
  | [] => 0
  | d :: r => uptoBulk d + uptoBulkAll r
def uptoBulkEntries {H : Type} : List (Lit × DataW H) → Nat
  | [] => 0
  | x :: r => uptoBulkEntry x + uptoBulkEntries r
def uptoBulkEntry {H : Type} : Lit × DataW H → Nat
  | (.string bytes, d) => bytes.length + uptoBulk d + 1
  | (_, d) => uptoBulk d + 1
 end
def uptoSmall : (H : Type) → List (DataW H) → Bool := fun _ ds => decide (uptoBulkAll ds ≤ 1048576)
def OpenSpec.upto (s : _root_.Go.ChangeSpec) : _root_.Go.OpenSpec := { _root_.Go.OpenSpec.ofChange s with cond := some uptoSmall }

/-- 'bucketlinelaw06.JournalsNone', WHERE WHAT IT READS IS OF BULK AT MOST 1048576: true; the input reads as it did. -/
def journalsNoneUptoRow : OpenClaim := { program := "ytbpdonnneleeeaa", sum := "6ec1558440f868c2a163e188aaa93eec36769ee799521b980f03605bef84f768", func := "bucketline/bucketlinelaw06.JournalsNone", spec := "journalsNone", unfollowed := true, recurses := true, apart := false, narrowed := true }
def JournalsNoneUptoSaid : Prop := journalsNoneUptoRow.holds Try.pinned (OpenSpec.upto journalsNoneSpec)

/-- 'bucketlinelaw06.JournalsBack', WHERE WHAT IT READS IS OF BULK AT MOST 1048576: true; the input reads as it did. -/
def journalsBackUptoRow : OpenClaim := { program := "ytbpdonnneleeeaa", sum := "6ec1558440f868c2a163e188aaa93eec36769ee799521b980f03605bef84f768", func := "bucketline/bucketlinelaw06.JournalsBack", spec := "journalsBack", unfollowed := true, recurses := true, apart := false, narrowed := true }
def JournalsBackUptoSaid : Prop := journalsBackUptoRow.holds Try.pinned (OpenSpec.upto journalsBackSpec)

/-- 'bucketlinelaw06.JournalsSure', WHERE WHAT IT READS IS OF BULK AT MOST 1048576: true; the input reads as it did. -/
def journalsSureUptoRow : OpenClaim := { program := "ytbpdonnneleeeaa", sum := "6ec1558440f868c2a163e188aaa93eec36769ee799521b980f03605bef84f768", func := "bucketline/bucketlinelaw06.JournalsSure", spec := "journalsSure", inPlace := ["maps.clone"], unfollowed := true, recurses := true, apart := false, narrowed := true }
def JournalsSureUptoSaid : Prop := journalsSureUptoRow.holds Try.pinned (OpenSpec.upto journalsSureSpec)

/-- 'bucketlinelaw06.JournalsSize', WHERE WHAT IT READS IS OF BULK AT MOST 1048576: true; the input reads as it did. -/
def journalsSizeUptoRow : OpenClaim := { program := "ytbpdonnneleeeaa", sum := "6ec1558440f868c2a163e188aaa93eec36769ee799521b980f03605bef84f768", func := "bucketline/bucketlinelaw06.JournalsSize", spec := "journalsSize", unfollowed := true, recurses := true, apart := false, narrowed := true }
def JournalsSizeUptoSaid : Prop := journalsSizeUptoRow.holds Try.pinned (OpenSpec.upto journalsSizeSpec)

/-- 'bucketlinelaw06.JournalsTurned', WHERE WHAT IT READS IS OF BULK AT MOST 1048576: true; the input reads as it did. -/
def journalsTurnedUptoRow : OpenClaim := { program := "ytbpdonnneleeeaa", sum := "6ec1558440f868c2a163e188aaa93eec36769ee799521b980f03605bef84f768", func := "bucketline/bucketlinelaw06.JournalsTurned", spec := "journalsTurned", unfollowed := true, recurses := true, apart := false, narrowed := true }
def JournalsTurnedUptoSaid : Prop := journalsTurnedUptoRow.holds Try.pinned (OpenSpec.upto journalsTurnedSpec)

/-- 'bucketlinelaw06.JournalsNames', WHERE WHAT IT READS IS OF BULK AT MOST 1048576: true; the input reads as it did. -/
def journalsNamesUptoRow : OpenClaim := { program := "ytbpdonnneleeeaa", sum := "6ec1558440f868c2a163e188aaa93eec36769ee799521b980f03605bef84f768", func := "bucketline/bucketlinelaw06.JournalsNames", spec := "journalsNames", unfollowed := true, recurses := true, apart := false, narrowed := true }
def JournalsNamesUptoSaid : Prop := journalsNamesUptoRow.holds Try.pinned (OpenSpec.upto journalsNamesSpec)

/-- 'bucketlinelaw06.JournalsCut', WHERE WHAT IT READS IS OF BULK AT MOST 1048576: true; the input reads as it did. -/
def journalsCutUptoRow : OpenClaim := { program := "ytbpdonnneleeeaa", sum := "6ec1558440f868c2a163e188aaa93eec36769ee799521b980f03605bef84f768", func := "bucketline/bucketlinelaw06.JournalsCut", spec := "journalsCut", unfollowed := true, recurses := true, apart := false, narrowed := true }
def JournalsCutUptoSaid : Prop := journalsCutUptoRow.holds Try.pinned (OpenSpec.upto journalsCutSpec)

end Rows
end Go.Proofs.Ytbpdonnneleeeaa
