/-
  No cell of these rows narrows 'for every input' (looked for: loops, veiled, ifaces, maps, wideKeys, modest, calm, conditions, laid).
  DERIVED. THE GIVEN ROWS OF THIS SEAT. 7 by the template 'for every input the law returns true; each argument reads behind the call as it read before'; 0 by the template 'total and deterministic' (their statements: YtbnndajpjhgafaaTotals.lean).
  GIVEN WITH THE SEED: the statements are not yours to turn. If you find one false, say at which input.
  Laid BY PROGRAM, IN A SANDBOX (cutbox-rows.mjs): the forced cells as the released guide's own fill.sh prints them over the translation 23bf08e8c33bdd56… (all of the seat's roots in one cut). By AI agents, Wed Nov 11 2026. No macro, syntax, notation, axiom, sorry.
-/
import Derived.Test.YtbnndajpjhgafaaChecked
import GoSem.Claim
import GoSem.ClaimJoined
import GoSem.ClaimMapViews
import Derived.JoinedTies
import Derived.KernelRfl
namespace Go.Proofs.Ytbnndajpjhgafaa
/- THE CELL 'sum', in the pinned program and in every row, IS THE sha256 OF THE DUMP (.gsa) THAT YtbnndajpjhgafaaProg.lean LOADS. Nothing in Lean hashes anything: it is a label: what it is worth is what the hold of that sum in a sandbox is worth. -/
noncomputable def Try.pinned : Pinned := { name := "ytbnndajpjhgafaa", sum := "23bf08e8c33bdd56e990f0ca56bf6a5c27c7fecc8e0b27934e3eeb1eaa554503", checked := Try.checked }
namespace Rows
def none {H : Type} : Left H := { results := [], args := [] }

/-- 'bucketlinelaw11.EditsBack': WHATEVER THE INPUT: true; the input reads as it did. -/
def editsBackSpec : ChangeSpec := { name := "editsBack", fn := fun _ => fun
  | [d1, d2] => { results := [.lit (.bool true)], args := [d1, d2] }
  | _ => none }
def editsBackRow : OpenClaim := { program := "ytbnndajpjhgafaa", sum := "23bf08e8c33bdd56e990f0ca56bf6a5c27c7fecc8e0b27934e3eeb1eaa554503", func := "bucketline/bucketlinelaw11.EditsBack", spec := "editsBack", unfollowed := true, recurses := true, apart := false }
def EditsBackSaid : Prop := editsBackRow.holds Try.pinned (OpenSpec.ofChange editsBackSpec)

/-- ITS FALSE NEIGHBOUR: 'it returns false'. Refute it at one input. -/
def editsBackWrong : ChangeSpec := { name := "editsBack", fn := fun _ => fun
  | [d1, d2] => { results := [.lit (.bool false)], args := [d1, d2] }
  | _ => none }
def EditsBackWrongFalsely : Prop := editsBackRow.holds Try.pinned (OpenSpec.ofChange editsBackWrong)

/-- 'bucketlinelaw11.EditsOrder': WHATEVER THE INPUT: true; the input reads as it did. -/
def editsOrderSpec : ChangeSpec := { name := "editsOrder", fn := fun _ => fun
  | [d1, d2] => { results := [.lit (.bool true)], args := [d1, d2] }
  | _ => none }
def editsOrderRow : OpenClaim := { program := "ytbnndajpjhgafaa", sum := "23bf08e8c33bdd56e990f0ca56bf6a5c27c7fecc8e0b27934e3eeb1eaa554503", func := "bucketline/bucketlinelaw11.EditsOrder", spec := "editsOrder", unfollowed := true, recurses := true, apart := false }
def EditsOrderSaid : Prop := editsOrderRow.holds Try.pinned (OpenSpec.ofChange editsOrderSpec)

/-- ITS FALSE NEIGHBOUR: 'it returns false'. Refute it at one input. -/
def editsOrderWrong : ChangeSpec := { name := "editsOrder", fn := fun _ => fun
  | [d1, d2] => { results := [.lit (.bool false)], args := [d1, d2] }
  | _ => none }
def EditsOrderWrongFalsely : Prop := editsOrderRow.holds Try.pinned (OpenSpec.ofChange editsOrderWrong)

/-- 'bucketlinelaw11.EditsUndo': WHATEVER THE INPUT: true; the input reads as it did. -/
def editsUndoSpec : ChangeSpec := { name := "editsUndo", fn := fun _ => fun
  | [d1, d2] => { results := [.lit (.bool true)], args := [d1, d2] }
  | _ => none }
def editsUndoRow : OpenClaim := { program := "ytbnndajpjhgafaa", sum := "23bf08e8c33bdd56e990f0ca56bf6a5c27c7fecc8e0b27934e3eeb1eaa554503", func := "bucketline/bucketlinelaw11.EditsUndo", spec := "editsUndo", unfollowed := true, recurses := true, apart := false }
def EditsUndoSaid : Prop := editsUndoRow.holds Try.pinned (OpenSpec.ofChange editsUndoSpec)

/-- ITS FALSE NEIGHBOUR: 'it returns false'. Refute it at one input. -/
def editsUndoWrong : ChangeSpec := { name := "editsUndo", fn := fun _ => fun
  | [d1, d2] => { results := [.lit (.bool false)], args := [d1, d2] }
  | _ => none }
def EditsUndoWrongFalsely : Prop := editsUndoRow.holds Try.pinned (OpenSpec.ofChange editsUndoWrong)

/-- 'bucketlinelaw11.EditsParts': WHATEVER THE INPUT: true; the input reads as it did. -/
def editsPartsSpec : ChangeSpec := { name := "editsParts", fn := fun _ => fun
  | [d1, d2, d3] => { results := [.lit (.bool true)], args := [d1, d2, d3] }
  | _ => none }
def editsPartsRow : OpenClaim := { program := "ytbnndajpjhgafaa", sum := "23bf08e8c33bdd56e990f0ca56bf6a5c27c7fecc8e0b27934e3eeb1eaa554503", func := "bucketline/bucketlinelaw11.EditsParts", spec := "editsParts", unfollowed := true, recurses := true, apart := false }
def EditsPartsSaid : Prop := editsPartsRow.holds Try.pinned (OpenSpec.ofChange editsPartsSpec)

/-- ITS FALSE NEIGHBOUR: 'it returns false'. Refute it at one input. -/
def editsPartsWrong : ChangeSpec := { name := "editsParts", fn := fun _ => fun
  | [d1, d2, d3] => { results := [.lit (.bool false)], args := [d1, d2, d3] }
  | _ => none }
def EditsPartsWrongFalsely : Prop := editsPartsRow.holds Try.pinned (OpenSpec.ofChange editsPartsWrong)

/-- 'bucketlinelaw11.EditsAlike': WHATEVER THE INPUT: true; the input reads as it did. -/
def editsAlikeSpec : ChangeSpec := { name := "editsAlike", fn := fun _ => fun
  | [d1, d2, d3] => { results := [.lit (.bool true)], args := [d1, d2, d3] }
  | _ => none }
def editsAlikeRow : OpenClaim := { program := "ytbnndajpjhgafaa", sum := "23bf08e8c33bdd56e990f0ca56bf6a5c27c7fecc8e0b27934e3eeb1eaa554503", func := "bucketline/bucketlinelaw11.EditsAlike", spec := "editsAlike", unfollowed := true, recurses := true, apart := false }
def EditsAlikeSaid : Prop := editsAlikeRow.holds Try.pinned (OpenSpec.ofChange editsAlikeSpec)

/-- ITS FALSE NEIGHBOUR: 'it returns false'. Refute it at one input. -/
def editsAlikeWrong : ChangeSpec := { name := "editsAlike", fn := fun _ => fun
  | [d1, d2, d3] => { results := [.lit (.bool false)], args := [d1, d2, d3] }
  | _ => none }
def EditsAlikeWrongFalsely : Prop := editsAlikeRow.holds Try.pinned (OpenSpec.ofChange editsAlikeWrong)

/-- 'bucketlinelaw11.EditsNone': WHATEVER THE INPUT: true; the input reads as it did. -/
def editsNoneSpec : ChangeSpec := { name := "editsNone", fn := fun _ => fun
  | [d1, d2] => { results := [.lit (.bool true)], args := [d1, d2] }
  | _ => none }
def editsNoneRow : OpenClaim := { program := "ytbnndajpjhgafaa", sum := "23bf08e8c33bdd56e990f0ca56bf6a5c27c7fecc8e0b27934e3eeb1eaa554503", func := "bucketline/bucketlinelaw11.EditsNone", spec := "editsNone", unfollowed := true, recurses := true, apart := false }
def EditsNoneSaid : Prop := editsNoneRow.holds Try.pinned (OpenSpec.ofChange editsNoneSpec)

/-- ITS FALSE NEIGHBOUR: 'it returns false'. Refute it at one input. -/
def editsNoneWrong : ChangeSpec := { name := "editsNone", fn := fun _ => fun
  | [d1, d2] => { results := [.lit (.bool false)], args := [d1, d2] }
  | _ => none }
def EditsNoneWrongFalsely : Prop := editsNoneRow.holds Try.pinned (OpenSpec.ofChange editsNoneWrong)

/-- 'bucketlinelaw11.EditsBoth': WHATEVER THE INPUT: true; the input reads as it did. -/
def editsBothSpec : ChangeSpec := { name := "editsBoth", fn := fun _ => fun
  | [d1, d2, d3] => { results := [.lit (.bool true)], args := [d1, d2, d3] }
  | _ => none }
def editsBothRow : OpenClaim := { program := "ytbnndajpjhgafaa", sum := "23bf08e8c33bdd56e990f0ca56bf6a5c27c7fecc8e0b27934e3eeb1eaa554503", func := "bucketline/bucketlinelaw11.EditsBoth", spec := "editsBoth", unfollowed := true, recurses := true, apart := false }
def EditsBothSaid : Prop := editsBothRow.holds Try.pinned (OpenSpec.ofChange editsBothSpec)

/-- ITS FALSE NEIGHBOUR: 'it returns false'. Refute it at one input. -/
def editsBothWrong : ChangeSpec := { name := "editsBoth", fn := fun _ => fun
  | [d1, d2, d3] => { results := [.lit (.bool false)], args := [d1, d2, d3] }
  | _ => none }
def EditsBothWrongFalsely : Prop := editsBothRow.holds Try.pinned (OpenSpec.ofChange editsBothWrong)

/- THE SECOND FORM. 'bulk': how many values and letters a reading holds, each counted each time it is reached (what is shared counts as often as it is met; a slice's spare places count too). A statement '..UptoSaid' is the law's where the arguments, and the package variables that the reading takes, are together of bulk at most 1048576: NARROWER than '..Said'. Prove '..Said' where nothing that the law and all that it calls make is longer than what came in: it says more and counts as full. Else prove '..UptoSaid'. A law counts once. -/
mutual
def uptoBulk {H : Type} : DataW H → Nat
  | .lit (.string bytes) => bytes.length + 1
  | .lit _ => 1
  | .nil => 1
  | .ptr d => uptoBulk d + 1
  | .slice elems spare => uptoBulkAll elems + uptoBulkAll spare + 1
  | .agg parts => uptoBulkAll parts + 1
  | .iface _ d => uptoBulk d + 1
  | .map entries => uptoBulkEntries entries + 1
  | .held _ => 1
def uptoBulkAll {H : Type} : List (DataW H) → Nat
  | [] => 0
  | d :: r => uptoBulk d + uptoBulkAll r
def uptoBulkEntries {H : Type} : List (Lit × DataW H) → Nat
  | [] => 0
  | x :: r => uptoBulkEntry x + uptoBulkEntries r
def uptoBulkEntry {H : Type} : Lit × DataW H → Nat
  | (.string bytes, d) => bytes.length + uptoBulk d + 1
  | (_, d) => uptoBulk d + 1
 end
def uptoSmall : (H : Type) → List (DataW H) → Bool := fun _ ds => decide (uptoBulkAll ds ≤ 1048576)
def OpenSpec.upto (s : _root_.Go.ChangeSpec) : _root_.Go.OpenSpec := { _root_.Go.OpenSpec.ofChange s with cond := some uptoSmall }

/-- 'bucketlinelaw11.EditsBack', WHERE WHAT IT READS IS OF BULK AT MOST 1048576: true; the input reads as it did. -/
def editsBackUptoRow : OpenClaim := { program := "ytbnndajpjhgafaa", sum := "23bf08e8c33bdd56e990f0ca56bf6a5c27c7fecc8e0b27934e3eeb1eaa554503", func := "bucketline/bucketlinelaw11.EditsBack", spec := "editsBack", unfollowed := true, recurses := true, apart := false, narrowed := true }
def EditsBackUptoSaid : Prop := editsBackUptoRow.holds Try.pinned (OpenSpec.upto editsBackSpec)

/-- 'bucketlinelaw11.EditsOrder', WHERE WHAT IT READS IS OF BULK AT MOST 1048576: true; the input reads as it did. -/
def editsOrderUptoRow : OpenClaim := { program := "ytbnndajpjhgafaa", sum := "23bf08e8c33bdd56e990f0ca56bf6a5c27c7fecc8e0b27934e3eeb1eaa554503", func := "bucketline/bucketlinelaw11.EditsOrder", spec := "editsOrder", unfollowed := true, recurses := true, apart := false, narrowed := true }
def EditsOrderUptoSaid : Prop := editsOrderUptoRow.holds Try.pinned (OpenSpec.upto editsOrderSpec)

/-- 'bucketlinelaw11.EditsUndo', WHERE WHAT IT READS IS OF BULK AT MOST 1048576: true; the input reads as it did. -/
def editsUndoUptoRow : OpenClaim := { program := "ytbnndajpjhgafaa", sum := "23bf08e8c33bdd56e990f0ca56bf6a5c27c7fecc8e0b27934e3eeb1eaa554503", func := "bucketline/bucketlinelaw11.EditsUndo", spec := "editsUndo", unfollowed := true, recurses := true, apart := false, narrowed := true }
def EditsUndoUptoSaid : Prop := editsUndoUptoRow.holds Try.pinned (OpenSpec.upto editsUndoSpec)

/-- 'bucketlinelaw11.EditsParts', WHERE WHAT IT READS IS OF BULK AT MOST 1048576: true; the input reads as it did. -/
def editsPartsUptoRow : OpenClaim := { program := "ytbnndajpjhgafaa", sum := "23bf08e8c33bdd56e990f0ca56bf6a5c27c7fecc8e0b27934e3eeb1eaa554503", func := "bucketline/bucketlinelaw11.EditsParts", spec := "editsParts", unfollowed := true, recurses := true, apart := false, narrowed := true }
def EditsPartsUptoSaid : Prop := editsPartsUptoRow.holds Try.pinned (OpenSpec.upto editsPartsSpec)

/-- 'bucketlinelaw11.EditsAlike', WHERE WHAT IT READS IS OF BULK AT MOST 1048576: true; the input reads as it did. -/
def editsAlikeUptoRow : OpenClaim := { program := "ytbnndajpjhgafaa", sum := "23bf08e8c33bdd56e990f0ca56bf6a5c27c7fecc8e0b27934e3eeb1eaa554503", func := "bucketline/bucketlinelaw11.EditsAlike", spec := "editsAlike", unfollowed := true, recurses := true, apart := false, narrowed := true }
def EditsAlikeUptoSaid : Prop := editsAlikeUptoRow.holds Try.pinned (OpenSpec.upto editsAlikeSpec)

/-- 'bucketlinelaw11.EditsNone', WHERE WHAT IT READS IS OF BULK AT MOST 1048576: true; the input reads as it did. -/
def editsNoneUptoRow : OpenClaim := { program := "ytbnndajpjhgafaa", sum := "23bf08e8c33bdd56e990f0ca56bf6a5c27c7fecc8e0b27934e3eeb1eaa554503", func := "bucketline/bucketlinelaw11.EditsNone", spec := "editsNone", unfollowed := true, recurses := true, apart := false, narrowed := true }
def EditsNoneUptoSaid : Prop := editsNoneUptoRow.holds Try.pinned (OpenSpec.upto editsNoneSpec)

/-- 'bucketlinelaw11.EditsBoth', WHERE WHAT IT READS IS OF BULK AT MOST 1048576: true; the input reads as it did. -/
def editsBothUptoRow : OpenClaim := { program := "ytbnndajpjhgafaa", sum := "23bf08e8c33bdd56e990f0ca56bf6a5c27c7fecc8e0b27934e3eeb1eaa554503", func := "bucketline/bucketlinelaw11.EditsBoth", spec := "editsBoth", unfollowed := true, recurses := true, apart := false, narrowed := true }
def EditsBothUptoSaid : Prop := editsBothUptoRow.holds Try.pinned (OpenSpec.upto editsBothSpec)

end Rows
end Go.Proofs.Ytbnndajpjhgafaa
