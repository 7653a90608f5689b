/-
  No cell of these rows narrows 'for every input' (looked for: loops, veiled, ifaces, maps, wideKeys, modest, calm, conditions, laid).
  DERIVED. THE GIVEN ROWS OF THIS SEAT. 3 by the template 'for every input the law returns true; each argument reads behind the call as it read before'; 0 by the template 'total and deterministic' (their statements: YtghfhojpnbpjoaaTotals.lean).
  GIVEN WITH THE SEED: the statements are not yours to turn. If you find one false, say at which input.
  Laid BY PROGRAM, IN A SANDBOX (cutbox-rows.mjs): the forced cells as the released guide's own fill.sh prints them over the translation bfe68e2965b39710… (all of the seat's roots in one cut). By AI agents, Wed Nov 11 2026. No macro, syntax, notation, axiom, sorry.
-/
import Derived.Test.YtghfhojpnbpjoaaChecked
import GoSem.Claim
import GoSem.ClaimJoined
import GoSem.ClaimMapViews
import Derived.JoinedTies
import Derived.KernelRfl
namespace Go.Proofs.Ytghfhojpnbpjoaa
/- THE CELL 'sum', in the pinned program and in every row, IS THE sha256 OF THE DUMP (.gsa) THAT YtghfhojpnbpjoaaProg.lean LOADS. Nothing in Lean hashes anything: it is a label: what it is worth is what the hold of that sum in a sandbox is worth. -/
noncomputable def Try.pinned : Pinned := { name := "ytghfhojpnbpjoaa", sum := "bfe68e2965b39710bffe139ea2c7f11b9c2d8f16f0be7bb58e0457ccc2e7d9f6", checked := Try.checked }
namespace Rows
def none {H : Type} : Left H := { results := [], args := [] }

/-- 'bucketlinelaw10.SortedParts': WHATEVER THE INPUT: true; the input reads as it did. -/
def sortedPartsSpec : ChangeSpec := { name := "sortedParts", fn := fun _ => fun
  | [d] => { results := [.lit (.bool true)], args := [d] }
  | _ => none }
def sortedPartsRow : OpenClaim := { program := "ytghfhojpnbpjoaa", sum := "bfe68e2965b39710bffe139ea2c7f11b9c2d8f16f0be7bb58e0457ccc2e7d9f6", func := "bucketline/bucketlinelaw10.SortedParts", spec := "sortedParts", unfollowed := true, recurses := true, apart := false }
def SortedPartsSaid : Prop := sortedPartsRow.holds Try.pinned (OpenSpec.ofChange sortedPartsSpec)

/-- ITS FALSE NEIGHBOUR: 'it returns false'. Refute it at one input. -/
def sortedPartsWrong : ChangeSpec := { name := "sortedParts", fn := fun _ => fun
  | [d] => { results := [.lit (.bool false)], args := [d] }
  | _ => none }
def SortedPartsWrongFalsely : Prop := sortedPartsRow.holds Try.pinned (OpenSpec.ofChange sortedPartsWrong)

/-- 'bucketlinelaw10.SortedMany': WHATEVER THE INPUT: true; the input reads as it did. -/
def sortedManySpec : ChangeSpec := { name := "sortedMany", fn := fun _ => fun
  | [d1, d2] => { results := [.lit (.bool true)], args := [d1, d2] }
  | _ => none }
def sortedManyRow : OpenClaim := { program := "ytghfhojpnbpjoaa", sum := "bfe68e2965b39710bffe139ea2c7f11b9c2d8f16f0be7bb58e0457ccc2e7d9f6", func := "bucketline/bucketlinelaw10.SortedMany", spec := "sortedMany", unfollowed := true, recurses := true, apart := false }
def SortedManySaid : Prop := sortedManyRow.holds Try.pinned (OpenSpec.ofChange sortedManySpec)

/-- ITS FALSE NEIGHBOUR: 'it returns false'. Refute it at one input. -/
def sortedManyWrong : ChangeSpec := { name := "sortedMany", fn := fun _ => fun
  | [d1, d2] => { results := [.lit (.bool false)], args := [d1, d2] }
  | _ => none }
def SortedManyWrongFalsely : Prop := sortedManyRow.holds Try.pinned (OpenSpec.ofChange sortedManyWrong)

/-- 'bucketlinelaw10.SortedSplit': WHATEVER THE INPUT: true; the input reads as it did. -/
def sortedSplitSpec : ChangeSpec := { name := "sortedSplit", fn := fun _ => fun
  | [d1, d2, d3] => { results := [.lit (.bool true)], args := [d1, d2, d3] }
  | _ => none }
def sortedSplitRow : OpenClaim := { program := "ytghfhojpnbpjoaa", sum := "bfe68e2965b39710bffe139ea2c7f11b9c2d8f16f0be7bb58e0457ccc2e7d9f6", func := "bucketline/bucketlinelaw10.SortedSplit", spec := "sortedSplit", unfollowed := true, recurses := true, apart := false }
def SortedSplitSaid : Prop := sortedSplitRow.holds Try.pinned (OpenSpec.ofChange sortedSplitSpec)

/-- ITS FALSE NEIGHBOUR: 'it returns false'. Refute it at one input. -/
def sortedSplitWrong : ChangeSpec := { name := "sortedSplit", fn := fun _ => fun
  | [d1, d2, d3] => { results := [.lit (.bool false)], args := [d1, d2, d3] }
  | _ => none }
def SortedSplitWrongFalsely : Prop := sortedSplitRow.holds Try.pinned (OpenSpec.ofChange sortedSplitWrong)

/- THE SECOND FORM. 'bulk': how many values and letters a reading holds, each counted each time it is reached (what is shared counts as often as it is met; a slice's spare places count too). A statement '..UptoSaid' is the law's where the arguments, and the package variables that the reading takes, are together of bulk at most 1048576: NARROWER than '..Said'. Prove '..Said' where nothing that the law and all that it calls make is longer than what came in: it says more and counts as full. Else prove '..UptoSaid'. A law counts once. -/
mutual
def uptoBulk {H : Type} : DataW H → Nat
  | .lit (.string bytes) => bytes.length + 1
  | .lit _ => 1
  | .nil => 1
  | .ptr d => uptoBulk d + 1
  | .slice elems spare => uptoBulkAll elems + uptoBulkAll spare + 1
  | .agg parts => uptoBulkAll parts + 1
  | .iface _ d => uptoBulk d + 1
  | .map entries => uptoBulkEntries entries + 1
  | .held _ => 1
def uptoBulkAll {H : Type} : List (DataW H) → Nat
  | [] => 0
  | d :: r => uptoBulk d + uptoBulkAll r
def uptoBulkEntries {H : Type} : List (Lit × DataW H) → Nat
  | [] => 0
  | x :: r => uptoBulkEntry x + uptoBulkEntries r
def uptoBulkEntry {H : Type} : Lit × DataW H → Nat
  | (.string bytes, d) => bytes.length + uptoBulk d + 1
  | (_, d) => uptoBulk d + 1
 end
def uptoSmall : (H : Type) → List (DataW H) → Bool := fun _ ds => decide (uptoBulkAll ds ≤ 1048576)
def OpenSpec.upto (s : _root_.Go.ChangeSpec) : _root_.Go.OpenSpec := { _root_.Go.OpenSpec.ofChange s with cond := some uptoSmall }

/-- 'bucketlinelaw10.SortedParts', WHERE WHAT IT READS IS OF BULK AT MOST 1048576: true; the input reads as it did. -/
def sortedPartsUptoRow : OpenClaim := { program := "ytghfhojpnbpjoaa", sum := "bfe68e2965b39710bffe139ea2c7f11b9c2d8f16f0be7bb58e0457ccc2e7d9f6", func := "bucketline/bucketlinelaw10.SortedParts", spec := "sortedParts", unfollowed := true, recurses := true, apart := false, narrowed := true }
def SortedPartsUptoSaid : Prop := sortedPartsUptoRow.holds Try.pinned (OpenSpec.upto sortedPartsSpec)

/-- 'bucketlinelaw10.SortedMany', WHERE WHAT IT READS IS OF BULK AT MOST 1048576: true; the input reads as it did. -/
def sortedManyUptoRow : OpenClaim := { program := "ytghfhojpnbpjoaa", sum := "bfe68e2965b39710bffe139ea2c7f11b9c2d8f16f0be7bb58e0457ccc2e7d9f6", func := "bucketline/bucketlinelaw10.SortedMany", spec := "sortedMany", unfollowed := true, recurses := true, apart := false, narrowed := true }
def SortedManyUptoSaid : Prop := sortedManyUptoRow.holds Try.pinned (OpenSpec.upto sortedManySpec)

/-- 'bucketlinelaw10.SortedSplit', WHERE WHAT IT READS IS OF BULK AT MOST 1048576: true; the input reads as it did. -/
def sortedSplitUptoRow : OpenClaim := { program := "ytghfhojpnbpjoaa", sum := "bfe68e2965b39710bffe139ea2c7f11b9c2d8f16f0be7bb58e0457ccc2e7d9f6", func := "bucketline/bucketlinelaw10.SortedSplit", spec := "sortedSplit", unfollowed := true, recurses := true, apart := false, narrowed := true }
def SortedSplitUptoSaid : Prop := sortedSplitUptoRow.holds Try.pinned (OpenSpec.upto sortedSplitSpec)

end Rows
end Go.Proofs.Ytghfhojpnbpjoaa
