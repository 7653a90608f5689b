/-
  No cell of these rows narrows 'for every input' (looked for: loops, veiled, ifaces, maps, wideKeys, modest, calm, conditions, laid).
  DERIVED. THE GIVEN ROWS OF THIS SEAT. 7 by the template 'for every input the law returns true; each argument reads behind the call as it read before'; 0 by the template 'total and deterministic' (their statements: YtomfkfdnpmpbgaaTotals.lean).
  GIVEN WITH THE SEED: the statements are not yours to turn. If you find one false, say at which input.
  Laid BY PROGRAM, IN A SANDBOX (cutbox-rows.mjs): the forced cells as the released guide's own fill.sh prints them over the translation 3e19dbc658c4f4d2… (all of the seat's roots in one cut). By AI agents, Wed Nov 11 2026. No macro, syntax, notation, axiom, sorry.
-/
import Derived.Test.YtomfkfdnpmpbgaaChecked
import GoSem.Claim
import GoSem.ClaimJoined
import GoSem.ClaimMapViews
import Derived.JoinedTies
import Derived.KernelRfl
namespace Go.Proofs.Ytomfkfdnpmpbgaa
/- THE CELL 'sum', in the pinned program and in every row, IS THE sha256 OF THE DUMP (.gsa) THAT YtomfkfdnpmpbgaaProg.lean LOADS. Nothing in Lean hashes anything: it is a label: what it is worth is what the hold of that sum in a sandbox is worth. -/
noncomputable def Try.pinned : Pinned := { name := "ytomfkfdnpmpbgaa", sum := "3e19dbc658c4f4d2c213f8b6080bc9dd1e52e46b9ca42c93457ed6331e5ca1c9", checked := Try.checked }
namespace Rows
def none {H : Type} : Left H := { results := [], args := [] }

/-- 'bucketlinelaw03.FramesBack': WHATEVER THE INPUT: true; the input reads as it did. -/
def framesBackSpec : ChangeSpec := { name := "framesBack", fn := fun _ => fun
  | [d1, d2] => { results := [.lit (.bool true)], args := [d1, d2] }
  | _ => none }
def framesBackRow : OpenClaim := { program := "ytomfkfdnpmpbgaa", sum := "3e19dbc658c4f4d2c213f8b6080bc9dd1e52e46b9ca42c93457ed6331e5ca1c9", func := "bucketline/bucketlinelaw03.FramesBack", spec := "framesBack", unfollowed := true, recurses := true, apart := false }
def FramesBackSaid : Prop := framesBackRow.holds Try.pinned (OpenSpec.ofChange framesBackSpec)

/-- ITS FALSE NEIGHBOUR: 'it returns false'. Refute it at one input. -/
def framesBackWrong : ChangeSpec := { name := "framesBack", fn := fun _ => fun
  | [d1, d2] => { results := [.lit (.bool false)], args := [d1, d2] }
  | _ => none }
def FramesBackWrongFalsely : Prop := framesBackRow.holds Try.pinned (OpenSpec.ofChange framesBackWrong)

/-- 'bucketlinelaw03.FramesCut': WHATEVER THE INPUT: true; the input reads as it did. -/
def framesCutSpec : ChangeSpec := { name := "framesCut", fn := fun _ => fun
  | [d1, d2, d3] => { results := [.lit (.bool true)], args := [d1, d2, d3] }
  | _ => none }
def framesCutRow : OpenClaim := { program := "ytomfkfdnpmpbgaa", sum := "3e19dbc658c4f4d2c213f8b6080bc9dd1e52e46b9ca42c93457ed6331e5ca1c9", func := "bucketline/bucketlinelaw03.FramesCut", spec := "framesCut", unfollowed := true, recurses := true, apart := false }
def FramesCutSaid : Prop := framesCutRow.holds Try.pinned (OpenSpec.ofChange framesCutSpec)

/-- ITS FALSE NEIGHBOUR: 'it returns false'. Refute it at one input. -/
def framesCutWrong : ChangeSpec := { name := "framesCut", fn := fun _ => fun
  | [d1, d2, d3] => { results := [.lit (.bool false)], args := [d1, d2, d3] }
  | _ => none }
def FramesCutWrongFalsely : Prop := framesCutRow.holds Try.pinned (OpenSpec.ofChange framesCutWrong)

/-- 'bucketlinelaw03.FramesRow': WHATEVER THE INPUT: true; the input reads as it did. -/
def framesRowSpec : ChangeSpec := { name := "framesRow", fn := fun _ => fun
  | [d1, d2] => { results := [.lit (.bool true)], args := [d1, d2] }
  | _ => none }
def framesRowRow : OpenClaim := { program := "ytomfkfdnpmpbgaa", sum := "3e19dbc658c4f4d2c213f8b6080bc9dd1e52e46b9ca42c93457ed6331e5ca1c9", func := "bucketline/bucketlinelaw03.FramesRow", spec := "framesRow", unfollowed := true, recurses := true, apart := false }
def FramesRowSaid : Prop := framesRowRow.holds Try.pinned (OpenSpec.ofChange framesRowSpec)

/-- ITS FALSE NEIGHBOUR: 'it returns false'. Refute it at one input. -/
def framesRowWrong : ChangeSpec := { name := "framesRow", fn := fun _ => fun
  | [d1, d2] => { results := [.lit (.bool false)], args := [d1, d2] }
  | _ => none }
def FramesRowWrongFalsely : Prop := framesRowRow.holds Try.pinned (OpenSpec.ofChange framesRowWrong)

/-- 'bucketlinelaw03.FramesAny': WHATEVER THE INPUT: true; the input reads as it did. -/
def framesAnySpec : ChangeSpec := { name := "framesAny", fn := fun _ => fun
  | [d] => { results := [.lit (.bool true)], args := [d] }
  | _ => none }
def framesAnyRow : OpenClaim := { program := "ytomfkfdnpmpbgaa", sum := "3e19dbc658c4f4d2c213f8b6080bc9dd1e52e46b9ca42c93457ed6331e5ca1c9", func := "bucketline/bucketlinelaw03.FramesAny", spec := "framesAny", unfollowed := true, recurses := true, apart := false }
def FramesAnySaid : Prop := framesAnyRow.holds Try.pinned (OpenSpec.ofChange framesAnySpec)

/-- ITS FALSE NEIGHBOUR: 'it returns false'. Refute it at one input. -/
def framesAnyWrong : ChangeSpec := { name := "framesAny", fn := fun _ => fun
  | [d] => { results := [.lit (.bool false)], args := [d] }
  | _ => none }
def FramesAnyWrongFalsely : Prop := framesAnyRow.holds Try.pinned (OpenSpec.ofChange framesAnyWrong)

/-- 'bucketlinelaw03.FramesParts': WHATEVER THE INPUT: true; the input reads as it did. -/
def framesPartsSpec : ChangeSpec := { name := "framesParts", fn := fun _ => fun
  | [d] => { results := [.lit (.bool true)], args := [d] }
  | _ => none }
def framesPartsRow : OpenClaim := { program := "ytomfkfdnpmpbgaa", sum := "3e19dbc658c4f4d2c213f8b6080bc9dd1e52e46b9ca42c93457ed6331e5ca1c9", func := "bucketline/bucketlinelaw03.FramesParts", spec := "framesParts", unfollowed := true, recurses := true, apart := false }
def FramesPartsSaid : Prop := framesPartsRow.holds Try.pinned (OpenSpec.ofChange framesPartsSpec)

/-- ITS FALSE NEIGHBOUR: 'it returns false'. Refute it at one input. -/
def framesPartsWrong : ChangeSpec := { name := "framesParts", fn := fun _ => fun
  | [d] => { results := [.lit (.bool false)], args := [d] }
  | _ => none }
def FramesPartsWrongFalsely : Prop := framesPartsRow.holds Try.pinned (OpenSpec.ofChange framesPartsWrong)

/-- 'bucketlinelaw03.FramesUnlike': WHATEVER THE INPUT: true; the input reads as it did. -/
def framesUnlikeSpec : ChangeSpec := { name := "framesUnlike", fn := fun _ => fun
  | [d1, d2] => { results := [.lit (.bool true)], args := [d1, d2] }
  | _ => none }
def framesUnlikeRow : OpenClaim := { program := "ytomfkfdnpmpbgaa", sum := "3e19dbc658c4f4d2c213f8b6080bc9dd1e52e46b9ca42c93457ed6331e5ca1c9", func := "bucketline/bucketlinelaw03.FramesUnlike", spec := "framesUnlike", unfollowed := true, recurses := true, apart := false }
def FramesUnlikeSaid : Prop := framesUnlikeRow.holds Try.pinned (OpenSpec.ofChange framesUnlikeSpec)

/-- ITS FALSE NEIGHBOUR: 'it returns false'. Refute it at one input. -/
def framesUnlikeWrong : ChangeSpec := { name := "framesUnlike", fn := fun _ => fun
  | [d1, d2] => { results := [.lit (.bool false)], args := [d1, d2] }
  | _ => none }
def FramesUnlikeWrongFalsely : Prop := framesUnlikeRow.holds Try.pinned (OpenSpec.ofChange framesUnlikeWrong)

/-- 'bucketlinelaw03.FramesJoin': WHATEVER THE INPUT: true; the input reads as it did. -/
def framesJoinSpec : ChangeSpec := { name := "framesJoin", fn := fun _ => fun
  | [d1, d2] => { results := [.lit (.bool true)], args := [d1, d2] }
  | _ => none }
def framesJoinRow : OpenClaim := { program := "ytomfkfdnpmpbgaa", sum := "3e19dbc658c4f4d2c213f8b6080bc9dd1e52e46b9ca42c93457ed6331e5ca1c9", func := "bucketline/bucketlinelaw03.FramesJoin", spec := "framesJoin", unfollowed := true, recurses := true, apart := false }
def FramesJoinSaid : Prop := framesJoinRow.holds Try.pinned (OpenSpec.ofChange framesJoinSpec)

/-- ITS FALSE NEIGHBOUR: 'it returns false'. Refute it at one input. -/
def framesJoinWrong : ChangeSpec := { name := "framesJoin", fn := fun _ => fun
  | [d1, d2] => { results := [.lit (.bool false)], args := [d1, d2] }
  | _ => none }
def FramesJoinWrongFalsely : Prop := framesJoinRow.holds Try.pinned (OpenSpec.ofChange framesJoinWrong)

/- THE SECOND FORM. 'bulk': how many values and letters a reading holds, each counted each time it is reached (what is shared counts as often as it is met; a slice's spare places count too). A statement '..UptoSaid' is the law's where the arguments, and the package variables that the reading takes, are together of bulk at most 1048576: NARROWER than '..Said'. Prove '..Said' where nothing that the law and all that it calls make is longer than what came in: it says more and counts as full. Else prove '..UptoSaid'. A law counts once. -/
mutual
def uptoBulk {H : Type} : DataW H → Nat
  | .lit (.string bytes) => bytes.length + 1
  | .lit _ => 1
  | .nil => 1
  | .ptr d => uptoBulk d + 1
  | .slice elems spare => uptoBulkAll elems + uptoBulkAll spare + 1
  | .agg parts => uptoBulkAll parts + 1
  | .iface _ d => uptoBulk d + 1
  | .map entries => uptoBulkEntries entries + 1
  | .held _ => 1
def uptoBulkAll {H : Type} : List (DataW H) → Nat
  | [] => 0
  | d :: r => uptoBulk d + uptoBulkAll r
def uptoBulkEntries {H : Type} : List (Lit × DataW H) → Nat
  | [] => 0
  | x :: r => uptoBulkEntry x + uptoBulkEntries r
def uptoBulkEntry {H : Type} : Lit × DataW H → Nat
  | (.string bytes, d) => bytes.length + uptoBulk d + 1
  | (_, d) => uptoBulk d + 1
 end
def uptoSmall : (H : Type) → List (DataW H) → Bool := fun _ ds => decide (uptoBulkAll ds ≤ 1048576)
def OpenSpec.upto (s : _root_.Go.ChangeSpec) : _root_.Go.OpenSpec := { _root_.Go.OpenSpec.ofChange s with cond := some uptoSmall }

/-- 'bucketlinelaw03.FramesBack', WHERE WHAT IT READS IS OF BULK AT MOST 1048576: true; the input reads as it did. -/
def framesBackUptoRow : OpenClaim := { program := "ytomfkfdnpmpbgaa", sum := "3e19dbc658c4f4d2c213f8b6080bc9dd1e52e46b9ca42c93457ed6331e5ca1c9", func := "bucketline/bucketlinelaw03.FramesBack", spec := "framesBack", unfollowed := true, recurses := true, apart := false, narrowed := true }
def FramesBackUptoSaid : Prop := framesBackUptoRow.holds Try.pinned (OpenSpec.upto framesBackSpec)

/-- 'bucketlinelaw03.FramesCut', WHERE WHAT IT READS IS OF BULK AT MOST 1048576: true; the input reads as it did. -/
def framesCutUptoRow : OpenClaim := { program := "ytomfkfdnpmpbgaa", sum := "3e19dbc658c4f4d2c213f8b6080bc9dd1e52e46b9ca42c93457ed6331e5ca1c9", func := "bucketline/bucketlinelaw03.FramesCut", spec := "framesCut", unfollowed := true, recurses := true, apart := false, narrowed := true }
def FramesCutUptoSaid : Prop := framesCutUptoRow.holds Try.pinned (OpenSpec.upto framesCutSpec)

/-- 'bucketlinelaw03.FramesRow', WHERE WHAT IT READS IS OF BULK AT MOST 1048576: true; the input reads as it did. -/
def framesRowUptoRow : OpenClaim := { program := "ytomfkfdnpmpbgaa", sum := "3e19dbc658c4f4d2c213f8b6080bc9dd1e52e46b9ca42c93457ed6331e5ca1c9", func := "bucketline/bucketlinelaw03.FramesRow", spec := "framesRow", unfollowed := true, recurses := true, apart := false, narrowed := true }
def FramesRowUptoSaid : Prop := framesRowUptoRow.holds Try.pinned (OpenSpec.upto framesRowSpec)

/-- 'bucketlinelaw03.FramesAny', WHERE WHAT IT READS IS OF BULK AT MOST 1048576: true; the input reads as it did. -/
def framesAnyUptoRow : OpenClaim := { program := "ytomfkfdnpmpbgaa", sum := "3e19dbc658c4f4d2c213f8b6080bc9dd1e52e46b9ca42c93457ed6331e5ca1c9", func := "bucketline/bucketlinelaw03.FramesAny", spec := "framesAny", unfollowed := true, recurses := true, apart := false, narrowed := true }
def FramesAnyUptoSaid : Prop := framesAnyUptoRow.holds Try.pinned (OpenSpec.upto framesAnySpec)

/-- 'bucketlinelaw03.FramesParts', WHERE WHAT IT READS IS OF BULK AT MOST 1048576: true; the input reads as it did. -/
def framesPartsUptoRow : OpenClaim := { program := "ytomfkfdnpmpbgaa", sum := "3e19dbc658c4f4d2c213f8b6080bc9dd1e52e46b9ca42c93457ed6331e5ca1c9", func := "bucketline/bucketlinelaw03.FramesParts", spec := "framesParts", unfollowed := true, recurses := true, apart := false, narrowed := true }
def FramesPartsUptoSaid : Prop := framesPartsUptoRow.holds Try.pinned (OpenSpec.upto framesPartsSpec)

/-- 'bucketlinelaw03.FramesUnlike', WHERE WHAT IT READS IS OF BULK AT MOST 1048576: true; the input reads as it did. -/
def framesUnlikeUptoRow : OpenClaim := { program := "ytomfkfdnpmpbgaa", sum := "3e19dbc658c4f4d2c213f8b6080bc9dd1e52e46b9ca42c93457ed6331e5ca1c9", func := "bucketline/bucketlinelaw03.FramesUnlike", spec := "framesUnlike", unfollowed := true, recurses := true, apart := false, narrowed := true }
def FramesUnlikeUptoSaid : Prop := framesUnlikeUptoRow.holds Try.pinned (OpenSpec.upto framesUnlikeSpec)

/-- 'bucketlinelaw03.FramesJoin', WHERE WHAT IT READS IS OF BULK AT MOST 1048576: true; the input reads as it did. -/
def framesJoinUptoRow : OpenClaim := { program := "ytomfkfdnpmpbgaa", sum := "3e19dbc658c4f4d2c213f8b6080bc9dd1e52e46b9ca42c93457ed6331e5ca1c9", func := "bucketline/bucketlinelaw03.FramesJoin", spec := "framesJoin", unfollowed := true, recurses := true, apart := false, narrowed := true }
def FramesJoinUptoSaid : Prop := framesJoinUptoRow.holds Try.pinned (OpenSpec.upto framesJoinSpec)

end Rows
end Go.Proofs.Ytomfkfdnpmpbgaa
