/-
  No cell of these rows narrows 'for every input' (looked for: loops, veiled, ifaces, maps, wideKeys, modest, calm, conditions, laid).
  DERIVED. THE GIVEN ROWS OF THIS SEAT. 7 by the template 'for every input the law returns true; each argument reads behind the call as it read before'; 0 by the template 'total and deterministic' (their statements: YtjikkdfiainjjaaTotals.lean).
  GIVEN WITH THE SEED: the statements are not yours to turn. If you find one false, say at which input.
  Laid BY PROGRAM, IN A SANDBOX (cutbox-rows.mjs): the forced cells as the released guide's own fill.sh prints them over the translation 37e65ce74ecbb24e… (all of the seat's roots in one cut). By AI agents, Wed Nov 11 2026. No macro, syntax, notation, axiom, sorry.
-/
import Derived.Test.YtjikkdfiainjjaaChecked
import GoSem.Claim
import GoSem.ClaimJoined
import GoSem.ClaimMapViews
import Derived.JoinedTies
import Derived.KernelRfl
namespace Go.Proofs.Ytjikkdfiainjjaa
/- THE CELL 'sum', in the pinned program and in every row, IS THE sha256 OF THE DUMP (.gsa) THAT YtjikkdfiainjjaaProg.lean LOADS. Nothing in Lean hashes anything: it is a label: what it is worth is what the hold of that sum in a sandbox is worth. -/
noncomputable def Try.pinned : Pinned := { name := "ytjikkdfiainjjaa", sum := "37e65ce74ecbb24ed62c7cb36b7994f9c09ffd1f3ffa90bfbd876ef559f37cad", checked := Try.checked }
namespace Rows
def none {H : Type} : Left H := { results := [], args := [] }

/-- 'bucketlinelaw10.SortedBack': WHATEVER THE INPUT: true; the input reads as it did. -/
def sortedBackSpec : ChangeSpec := { name := "sortedBack", fn := fun _ => fun
  | [d1, d2] => { results := [.lit (.bool true)], args := [d1, d2] }
  | _ => none }
def sortedBackRow : OpenClaim := { program := "ytjikkdfiainjjaa", sum := "37e65ce74ecbb24ed62c7cb36b7994f9c09ffd1f3ffa90bfbd876ef559f37cad", func := "bucketline/bucketlinelaw10.SortedBack", spec := "sortedBack", unfollowed := true, recurses := true, apart := false }
def SortedBackSaid : Prop := sortedBackRow.holds Try.pinned (OpenSpec.ofChange sortedBackSpec)

/-- ITS FALSE NEIGHBOUR: 'it returns false'. Refute it at one input. -/
def sortedBackWrong : ChangeSpec := { name := "sortedBack", fn := fun _ => fun
  | [d1, d2] => { results := [.lit (.bool false)], args := [d1, d2] }
  | _ => none }
def SortedBackWrongFalsely : Prop := sortedBackRow.holds Try.pinned (OpenSpec.ofChange sortedBackWrong)

/-- 'bucketlinelaw10.SortedAgain': WHATEVER THE INPUT: true; the input reads as it did. -/
def sortedAgainSpec : ChangeSpec := { name := "sortedAgain", fn := fun _ => fun
  | [d] => { results := [.lit (.bool true)], args := [d] }
  | _ => none }
def sortedAgainRow : OpenClaim := { program := "ytjikkdfiainjjaa", sum := "37e65ce74ecbb24ed62c7cb36b7994f9c09ffd1f3ffa90bfbd876ef559f37cad", func := "bucketline/bucketlinelaw10.SortedAgain", spec := "sortedAgain", unfollowed := true, recurses := true, apart := false }
def SortedAgainSaid : Prop := sortedAgainRow.holds Try.pinned (OpenSpec.ofChange sortedAgainSpec)

/-- ITS FALSE NEIGHBOUR: 'it returns false'. Refute it at one input. -/
def sortedAgainWrong : ChangeSpec := { name := "sortedAgain", fn := fun _ => fun
  | [d] => { results := [.lit (.bool false)], args := [d] }
  | _ => none }
def SortedAgainWrongFalsely : Prop := sortedAgainRow.holds Try.pinned (OpenSpec.ofChange sortedAgainWrong)

/-- 'bucketlinelaw10.SortedFinds': WHATEVER THE INPUT: true; the input reads as it did. -/
def sortedFindsSpec : ChangeSpec := { name := "sortedFinds", fn := fun _ => fun
  | [d1, d2] => { results := [.lit (.bool true)], args := [d1, d2] }
  | _ => none }
def sortedFindsRow : OpenClaim := { program := "ytjikkdfiainjjaa", sum := "37e65ce74ecbb24ed62c7cb36b7994f9c09ffd1f3ffa90bfbd876ef559f37cad", func := "bucketline/bucketlinelaw10.SortedFinds", spec := "sortedFinds", unfollowed := true, recurses := true, apart := false }
def SortedFindsSaid : Prop := sortedFindsRow.holds Try.pinned (OpenSpec.ofChange sortedFindsSpec)

/-- ITS FALSE NEIGHBOUR: 'it returns false'. Refute it at one input. -/
def sortedFindsWrong : ChangeSpec := { name := "sortedFinds", fn := fun _ => fun
  | [d1, d2] => { results := [.lit (.bool false)], args := [d1, d2] }
  | _ => none }
def SortedFindsWrongFalsely : Prop := sortedFindsRow.holds Try.pinned (OpenSpec.ofChange sortedFindsWrong)

/-- 'bucketlinelaw10.SortedParts': WHATEVER THE INPUT: true; the input reads as it did. -/
def sortedPartsSpec : ChangeSpec := { name := "sortedParts", fn := fun _ => fun
  | [d] => { results := [.lit (.bool true)], args := [d] }
  | _ => none }
def sortedPartsRow : OpenClaim := { program := "ytjikkdfiainjjaa", sum := "37e65ce74ecbb24ed62c7cb36b7994f9c09ffd1f3ffa90bfbd876ef559f37cad", func := "bucketline/bucketlinelaw10.SortedParts", spec := "sortedParts", unfollowed := true, recurses := true, apart := false }
def SortedPartsSaid : Prop := sortedPartsRow.holds Try.pinned (OpenSpec.ofChange sortedPartsSpec)

/-- ITS FALSE NEIGHBOUR: 'it returns false'. Refute it at one input. -/
def sortedPartsWrong : ChangeSpec := { name := "sortedParts", fn := fun _ => fun
  | [d] => { results := [.lit (.bool false)], args := [d] }
  | _ => none }
def SortedPartsWrongFalsely : Prop := sortedPartsRow.holds Try.pinned (OpenSpec.ofChange sortedPartsWrong)

/-- 'bucketlinelaw10.SortedMany': WHATEVER THE INPUT: true; the input reads as it did. -/
def sortedManySpec : ChangeSpec := { name := "sortedMany", fn := fun _ => fun
  | [d1, d2] => { results := [.lit (.bool true)], args := [d1, d2] }
  | _ => none }
def sortedManyRow : OpenClaim := { program := "ytjikkdfiainjjaa", sum := "37e65ce74ecbb24ed62c7cb36b7994f9c09ffd1f3ffa90bfbd876ef559f37cad", func := "bucketline/bucketlinelaw10.SortedMany", spec := "sortedMany", unfollowed := true, recurses := true, apart := false }
def SortedManySaid : Prop := sortedManyRow.holds Try.pinned (OpenSpec.ofChange sortedManySpec)

/-- ITS FALSE NEIGHBOUR: 'it returns false'. Refute it at one input. -/
def sortedManyWrong : ChangeSpec := { name := "sortedMany", fn := fun _ => fun
  | [d1, d2] => { results := [.lit (.bool false)], args := [d1, d2] }
  | _ => none }
def SortedManyWrongFalsely : Prop := sortedManyRow.holds Try.pinned (OpenSpec.ofChange sortedManyWrong)

/-- 'bucketlinelaw10.SortedSplit': WHATEVER THE INPUT: true; the input reads as it did. -/
def sortedSplitSpec : ChangeSpec := { name := "sortedSplit", fn := fun _ => fun
  | [d1, d2, d3] => { results := [.lit (.bool true)], args := [d1, d2, d3] }
  | _ => none }
def sortedSplitRow : OpenClaim := { program := "ytjikkdfiainjjaa", sum := "37e65ce74ecbb24ed62c7cb36b7994f9c09ffd1f3ffa90bfbd876ef559f37cad", func := "bucketline/bucketlinelaw10.SortedSplit", spec := "sortedSplit", unfollowed := true, recurses := true, apart := false }
def SortedSplitSaid : Prop := sortedSplitRow.holds Try.pinned (OpenSpec.ofChange sortedSplitSpec)

/-- ITS FALSE NEIGHBOUR: 'it returns false'. Refute it at one input. -/
def sortedSplitWrong : ChangeSpec := { name := "sortedSplit", fn := fun _ => fun
  | [d1, d2, d3] => { results := [.lit (.bool false)], args := [d1, d2, d3] }
  | _ => none }
def SortedSplitWrongFalsely : Prop := sortedSplitRow.holds Try.pinned (OpenSpec.ofChange sortedSplitWrong)

/-- 'bucketlinelaw10.SortedSixteen': WHATEVER THE INPUT: true; the input reads as it did. -/
def sortedSixteenSpec : ChangeSpec := { name := "sortedSixteen", fn := fun _ => fun
  | [d1, d2] => { results := [.lit (.bool true)], args := [d1, d2] }
  | _ => none }
def sortedSixteenRow : OpenClaim := { program := "ytjikkdfiainjjaa", sum := "37e65ce74ecbb24ed62c7cb36b7994f9c09ffd1f3ffa90bfbd876ef559f37cad", func := "bucketline/bucketlinelaw10.SortedSixteen", spec := "sortedSixteen", unfollowed := true, recurses := true, apart := false }
def SortedSixteenSaid : Prop := sortedSixteenRow.holds Try.pinned (OpenSpec.ofChange sortedSixteenSpec)

/-- ITS FALSE NEIGHBOUR: 'it returns false'. Refute it at one input. -/
def sortedSixteenWrong : ChangeSpec := { name := "sortedSixteen", fn := fun _ => fun
  | [d1, d2] => { results := [.lit (.bool false)], args := [d1, d2] }
  | _ => none }
def SortedSixteenWrongFalsely : Prop := sortedSixteenRow.holds Try.pinned (OpenSpec.ofChange sortedSixteenWrong)

/- THE SECOND FORM. 'bulk': how many values and letters a reading holds, each counted each time it is reached (what is shared counts as often as it is met; a slice's spare places count too). A statement '..UptoSaid' is the law's where the arguments, and the package variables that the reading takes, are together of bulk at most 1048576: NARROWER than '..Said'. Prove '..Said' where nothing that the law and all that it calls make is longer than what came in: it says more and counts as full. Else prove '..UptoSaid'. A law counts once. -/
mutual
def uptoBulk {H : Type} : DataW H → Nat
  | .lit (.string bytes) => bytes.length + 1
  | .lit _ => 1
  | .nil => 1
  | .ptr d => uptoBulk d + 1
  | .slice elems spare => uptoBulkAll elems + uptoBulkAll spare + 1
  | .agg parts => uptoBulkAll parts + 1
  | .iface _ d => uptoBulk d + 1
  | .map entries => uptoBulkEntries entries + 1
  | .held _ => 1
def uptoBulkAll {H : Type} : List (DataW H) → Nat
  | [] => 0
  | d :: r => uptoBulk d + uptoBulkAll r
def uptoBulkEntries {H : Type} : List (Lit × DataW H) → Nat
  | [] => 0
  | x :: r => uptoBulkEntry x + uptoBulkEntries r
def uptoBulkEntry {H : Type} : Lit × DataW H → Nat
  | (.string bytes, d) => bytes.length + uptoBulk d + 1
  | (_, d) => uptoBulk d + 1
 end
def uptoSmall : (H : Type) → List (DataW H) → Bool := fun _ ds => decide (uptoBulkAll ds ≤ 1048576)
def OpenSpec.upto (s : _root_.Go.ChangeSpec) : _root_.Go.OpenSpec := { _root_.Go.OpenSpec.ofChange s with cond := some uptoSmall }

/-- 'bucketlinelaw10.SortedBack', WHERE WHAT IT READS IS OF BULK AT MOST 1048576: true; the input reads as it did. -/
def sortedBackUptoRow : OpenClaim := { program := "ytjikkdfiainjjaa", sum := "37e65ce74ecbb24ed62c7cb36b7994f9c09ffd1f3ffa90bfbd876ef559f37cad", func := "bucketline/bucketlinelaw10.SortedBack", spec := "sortedBack", unfollowed := true, recurses := true, apart := false, narrowed := true }
def SortedBackUptoSaid : Prop := sortedBackUptoRow.holds Try.pinned (OpenSpec.upto sortedBackSpec)

/-- 'bucketlinelaw10.SortedAgain', WHERE WHAT IT READS IS OF BULK AT MOST 1048576: true; the input reads as it did. -/
def sortedAgainUptoRow : OpenClaim := { program := "ytjikkdfiainjjaa", sum := "37e65ce74ecbb24ed62c7cb36b7994f9c09ffd1f3ffa90bfbd876ef559f37cad", func := "bucketline/bucketlinelaw10.SortedAgain", spec := "sortedAgain", unfollowed := true, recurses := true, apart := false, narrowed := true }
def SortedAgainUptoSaid : Prop := sortedAgainUptoRow.holds Try.pinned (OpenSpec.upto sortedAgainSpec)

/-- 'bucketlinelaw10.SortedFinds', WHERE WHAT IT READS IS OF BULK AT MOST 1048576: true; the input reads as it did. -/
def sortedFindsUptoRow : OpenClaim := { program := "ytjikkdfiainjjaa", sum := "37e65ce74ecbb24ed62c7cb36b7994f9c09ffd1f3ffa90bfbd876ef559f37cad", func := "bucketline/bucketlinelaw10.SortedFinds", spec := "sortedFinds", unfollowed := true, recurses := true, apart := false, narrowed := true }
def SortedFindsUptoSaid : Prop := sortedFindsUptoRow.holds Try.pinned (OpenSpec.upto sortedFindsSpec)

/-- 'bucketlinelaw10.SortedParts', WHERE WHAT IT READS IS OF BULK AT MOST 1048576: true; the input reads as it did. -/
def sortedPartsUptoRow : OpenClaim := { program := "ytjikkdfiainjjaa", sum := "37e65ce74ecbb24ed62c7cb36b7994f9c09ffd1f3ffa90bfbd876ef559f37cad", func := "bucketline/bucketlinelaw10.SortedParts", spec := "sortedParts", unfollowed := true, recurses := true, apart := false, narrowed := true }
def SortedPartsUptoSaid : Prop := sortedPartsUptoRow.holds Try.pinned (OpenSpec.upto sortedPartsSpec)

/-- 'bucketlinelaw10.SortedMany', WHERE WHAT IT READS IS OF BULK AT MOST 1048576: true; the input reads as it did. -/
def sortedManyUptoRow : OpenClaim := { program := "ytjikkdfiainjjaa", sum := "37e65ce74ecbb24ed62c7cb36b7994f9c09ffd1f3ffa90bfbd876ef559f37cad", func := "bucketline/bucketlinelaw10.SortedMany", spec := "sortedMany", unfollowed := true, recurses := true, apart := false, narrowed := true }
def SortedManyUptoSaid : Prop := sortedManyUptoRow.holds Try.pinned (OpenSpec.upto sortedManySpec)

/-- 'bucketlinelaw10.SortedSplit', WHERE WHAT IT READS IS OF BULK AT MOST 1048576: true; the input reads as it did. -/
def sortedSplitUptoRow : OpenClaim := { program := "ytjikkdfiainjjaa", sum := "37e65ce74ecbb24ed62c7cb36b7994f9c09ffd1f3ffa90bfbd876ef559f37cad", func := "bucketline/bucketlinelaw10.SortedSplit", spec := "sortedSplit", unfollowed := true, recurses := true, apart := false, narrowed := true }
def SortedSplitUptoSaid : Prop := sortedSplitUptoRow.holds Try.pinned (OpenSpec.upto sortedSplitSpec)

/-- 'bucketlinelaw10.SortedSixteen', WHERE WHAT IT READS IS OF BULK AT MOST 1048576: true; the input reads as it did. -/
def sortedSixteenUptoRow : OpenClaim := { program := "ytjikkdfiainjjaa", sum := "37e65ce74ecbb24ed62c7cb36b7994f9c09ffd1f3ffa90bfbd876ef559f37cad", func := "bucketline/bucketlinelaw10.SortedSixteen", spec := "sortedSixteen", unfollowed := true, recurses := true, apart := false, narrowed := true }
def SortedSixteenUptoSaid : Prop := sortedSixteenUptoRow.holds Try.pinned (OpenSpec.upto sortedSixteenSpec)

end Rows
end Go.Proofs.Ytjikkdfiainjjaa
