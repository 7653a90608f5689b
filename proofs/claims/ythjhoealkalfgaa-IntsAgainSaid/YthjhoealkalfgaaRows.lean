/-
  No cell of these rows narrows 'for every input' (looked for: loops, veiled, ifaces, maps, wideKeys, modest, calm, conditions, laid).
  DERIVED. THE GIVEN ROWS OF THIS SEAT. 9 by the template 'for every input the law returns true; each argument reads behind the call as it read before'; 0 by the template 'total and deterministic' (their statements: YthjhoealkalfgaaTotals.lean).
  GIVEN WITH THE SEED: the statements are not yours to turn. If you find one false, say at which input.
  Laid BY PROGRAM, IN A SANDBOX (cutbox-rows.mjs): the forced cells as the released guide's own fill.sh prints them over the translation 94cd404e44252f5e… (all of the seat's roots in one cut). By AI agents, Wed Nov 11 2026. No macro, syntax, notation, axiom, sorry.
-/
import Derived.Test.YthjhoealkalfgaaChecked
import GoSem.Claim
import GoSem.ClaimJoined
import GoSem.ClaimMapViews
import Derived.JoinedTies
import Derived.KernelRfl
namespace Go.Proofs.Ythjhoealkalfgaa
/- THE CELL 'sum', in the pinned program and in every row, IS THE sha256 OF THE DUMP (.gsa) THAT YthjhoealkalfgaaProg.lean LOADS. Nothing in Lean hashes anything: it is a label: what it is worth is what the hold of that sum in a sandbox is worth. -/
noncomputable def Try.pinned : Pinned := { name := "ythjhoealkalfgaa", sum := "94cd404e44252f5e18af028ac11a2e0a01bd0cacc019520fb0575183796bd8f1", checked := Try.checked }
namespace Rows
def none {H : Type} : Left H := { results := [], args := [] }

/-- 'bucketlinelaw01.IntsGet': WHATEVER THE INPUT: true; the input reads as it did. -/
def intsGetSpec : ChangeSpec := { name := "intsGet", fn := fun _ => fun
  | [d] => { results := [.lit (.bool true)], args := [d] }
  | _ => none }
def intsGetRow : OpenClaim := { program := "ythjhoealkalfgaa", sum := "94cd404e44252f5e18af028ac11a2e0a01bd0cacc019520fb0575183796bd8f1", func := "bucketline/bucketlinelaw01.IntsGet", spec := "intsGet", unfollowed := true, recurses := true, apart := false }
def IntsGetSaid : Prop := intsGetRow.holds Try.pinned (OpenSpec.ofChange intsGetSpec)

/-- ITS FALSE NEIGHBOUR: 'it returns false'. Refute it at one input. -/
def intsGetWrong : ChangeSpec := { name := "intsGet", fn := fun _ => fun
  | [d] => { results := [.lit (.bool false)], args := [d] }
  | _ => none }
def IntsGetWrongFalsely : Prop := intsGetRow.holds Try.pinned (OpenSpec.ofChange intsGetWrong)

/-- 'bucketlinelaw01.IntsBack': WHATEVER THE INPUT: true; the input reads as it did. -/
def intsBackSpec : ChangeSpec := { name := "intsBack", fn := fun _ => fun
  | [d1, d2, d3] => { results := [.lit (.bool true)], args := [d1, d2, d3] }
  | _ => none }
def intsBackRow : OpenClaim := { program := "ythjhoealkalfgaa", sum := "94cd404e44252f5e18af028ac11a2e0a01bd0cacc019520fb0575183796bd8f1", func := "bucketline/bucketlinelaw01.IntsBack", spec := "intsBack", unfollowed := true, recurses := true, apart := false }
def IntsBackSaid : Prop := intsBackRow.holds Try.pinned (OpenSpec.ofChange intsBackSpec)

/-- ITS FALSE NEIGHBOUR: 'it returns false'. Refute it at one input. -/
def intsBackWrong : ChangeSpec := { name := "intsBack", fn := fun _ => fun
  | [d1, d2, d3] => { results := [.lit (.bool false)], args := [d1, d2, d3] }
  | _ => none }
def IntsBackWrongFalsely : Prop := intsBackRow.holds Try.pinned (OpenSpec.ofChange intsBackWrong)

/-- 'bucketlinelaw01.IntsTexts': WHATEVER THE INPUT: true; the input reads as it did. -/
def intsTextsSpec : ChangeSpec := { name := "intsTexts", fn := fun _ => fun
  | [d1, d2, d3] => { results := [.lit (.bool true)], args := [d1, d2, d3] }
  | _ => none }
def intsTextsRow : OpenClaim := { program := "ythjhoealkalfgaa", sum := "94cd404e44252f5e18af028ac11a2e0a01bd0cacc019520fb0575183796bd8f1", func := "bucketline/bucketlinelaw01.IntsTexts", spec := "intsTexts", unfollowed := true, recurses := true, apart := false }
def IntsTextsSaid : Prop := intsTextsRow.holds Try.pinned (OpenSpec.ofChange intsTextsSpec)

/-- ITS FALSE NEIGHBOUR: 'it returns false'. Refute it at one input. -/
def intsTextsWrong : ChangeSpec := { name := "intsTexts", fn := fun _ => fun
  | [d1, d2, d3] => { results := [.lit (.bool false)], args := [d1, d2, d3] }
  | _ => none }
def IntsTextsWrongFalsely : Prop := intsTextsRow.holds Try.pinned (OpenSpec.ofChange intsTextsWrong)

/-- 'bucketlinelaw01.IntsAgain': WHATEVER THE INPUT: true; the input reads as it did. -/
def intsAgainSpec : ChangeSpec := { name := "intsAgain", fn := fun _ => fun
  | [d] => { results := [.lit (.bool true)], args := [d] }
  | _ => none }
def intsAgainRow : OpenClaim := { program := "ythjhoealkalfgaa", sum := "94cd404e44252f5e18af028ac11a2e0a01bd0cacc019520fb0575183796bd8f1", func := "bucketline/bucketlinelaw01.IntsAgain", spec := "intsAgain", unfollowed := true, recurses := true, apart := false }
def IntsAgainSaid : Prop := intsAgainRow.holds Try.pinned (OpenSpec.ofChange intsAgainSpec)

/-- ITS FALSE NEIGHBOUR: 'it returns false'. Refute it at one input. -/
def intsAgainWrong : ChangeSpec := { name := "intsAgain", fn := fun _ => fun
  | [d] => { results := [.lit (.bool false)], args := [d] }
  | _ => none }
def IntsAgainWrongFalsely : Prop := intsAgainRow.holds Try.pinned (OpenSpec.ofChange intsAgainWrong)

/-- 'bucketlinelaw01.IntsCut': WHATEVER THE INPUT: true; the input reads as it did. -/
def intsCutSpec : ChangeSpec := { name := "intsCut", fn := fun _ => fun
  | [d1, d2, d3] => { results := [.lit (.bool true)], args := [d1, d2, d3] }
  | _ => none }
def intsCutRow : OpenClaim := { program := "ythjhoealkalfgaa", sum := "94cd404e44252f5e18af028ac11a2e0a01bd0cacc019520fb0575183796bd8f1", func := "bucketline/bucketlinelaw01.IntsCut", spec := "intsCut", unfollowed := true, recurses := true, apart := false }
def IntsCutSaid : Prop := intsCutRow.holds Try.pinned (OpenSpec.ofChange intsCutSpec)

/-- ITS FALSE NEIGHBOUR: 'it returns false'. Refute it at one input. -/
def intsCutWrong : ChangeSpec := { name := "intsCut", fn := fun _ => fun
  | [d1, d2, d3] => { results := [.lit (.bool false)], args := [d1, d2, d3] }
  | _ => none }
def IntsCutWrongFalsely : Prop := intsCutRow.holds Try.pinned (OpenSpec.ofChange intsCutWrong)

/-- 'bucketlinelaw01.IntsNeedless': WHATEVER THE INPUT: true; the input reads as it did. -/
def intsNeedlessSpec : ChangeSpec := { name := "intsNeedless", fn := fun _ => fun
  | [d1, d2, d3] => { results := [.lit (.bool true)], args := [d1, d2, d3] }
  | _ => none }
def intsNeedlessRow : OpenClaim := { program := "ythjhoealkalfgaa", sum := "94cd404e44252f5e18af028ac11a2e0a01bd0cacc019520fb0575183796bd8f1", func := "bucketline/bucketlinelaw01.IntsNeedless", spec := "intsNeedless", unfollowed := true, recurses := true, apart := false }
def IntsNeedlessSaid : Prop := intsNeedlessRow.holds Try.pinned (OpenSpec.ofChange intsNeedlessSpec)

/-- ITS FALSE NEIGHBOUR: 'it returns false'. Refute it at one input. -/
def intsNeedlessWrong : ChangeSpec := { name := "intsNeedless", fn := fun _ => fun
  | [d1, d2, d3] => { results := [.lit (.bool false)], args := [d1, d2, d3] }
  | _ => none }
def IntsNeedlessWrongFalsely : Prop := intsNeedlessRow.holds Try.pinned (OpenSpec.ofChange intsNeedlessWrong)

/-- 'bucketlinelaw01.IntsOrder': WHATEVER THE INPUT: true; the input reads as it did. -/
def intsOrderSpec : ChangeSpec := { name := "intsOrder", fn := fun _ => fun
  | [d1, d2] => { results := [.lit (.bool true)], args := [d1, d2] }
  | _ => none }
def intsOrderRow : OpenClaim := { program := "ythjhoealkalfgaa", sum := "94cd404e44252f5e18af028ac11a2e0a01bd0cacc019520fb0575183796bd8f1", func := "bucketline/bucketlinelaw01.IntsOrder", spec := "intsOrder", unfollowed := true, recurses := true, apart := false }
def IntsOrderSaid : Prop := intsOrderRow.holds Try.pinned (OpenSpec.ofChange intsOrderSpec)

/-- ITS FALSE NEIGHBOUR: 'it returns false'. Refute it at one input. -/
def intsOrderWrong : ChangeSpec := { name := "intsOrder", fn := fun _ => fun
  | [d1, d2] => { results := [.lit (.bool false)], args := [d1, d2] }
  | _ => none }
def IntsOrderWrongFalsely : Prop := intsOrderRow.holds Try.pinned (OpenSpec.ofChange intsOrderWrong)

/-- 'bucketlinelaw01.IntsRow': WHATEVER THE INPUT: true; the input reads as it did. -/
def intsRowSpec : ChangeSpec := { name := "intsRow", fn := fun _ => fun
  | [d1, d2] => { results := [.lit (.bool true)], args := [d1, d2] }
  | _ => none }
def intsRowRow : OpenClaim := { program := "ythjhoealkalfgaa", sum := "94cd404e44252f5e18af028ac11a2e0a01bd0cacc019520fb0575183796bd8f1", func := "bucketline/bucketlinelaw01.IntsRow", spec := "intsRow", unfollowed := true, recurses := true, apart := false }
def IntsRowSaid : Prop := intsRowRow.holds Try.pinned (OpenSpec.ofChange intsRowSpec)

/-- ITS FALSE NEIGHBOUR: 'it returns false'. Refute it at one input. -/
def intsRowWrong : ChangeSpec := { name := "intsRow", fn := fun _ => fun
  | [d1, d2] => { results := [.lit (.bool false)], args := [d1, d2] }
  | _ => none }
def IntsRowWrongFalsely : Prop := intsRowRow.holds Try.pinned (OpenSpec.ofChange intsRowWrong)

/-- 'bucketlinelaw01.IntsJoin': WHATEVER THE INPUT: true; the input reads as it did. -/
def intsJoinSpec : ChangeSpec := { name := "intsJoin", fn := fun _ => fun
  | [d1, d2] => { results := [.lit (.bool true)], args := [d1, d2] }
  | _ => none }
def intsJoinRow : OpenClaim := { program := "ythjhoealkalfgaa", sum := "94cd404e44252f5e18af028ac11a2e0a01bd0cacc019520fb0575183796bd8f1", func := "bucketline/bucketlinelaw01.IntsJoin", spec := "intsJoin", unfollowed := true, recurses := true, apart := false }
def IntsJoinSaid : Prop := intsJoinRow.holds Try.pinned (OpenSpec.ofChange intsJoinSpec)

/-- ITS FALSE NEIGHBOUR: 'it returns false'. Refute it at one input. -/
def intsJoinWrong : ChangeSpec := { name := "intsJoin", fn := fun _ => fun
  | [d1, d2] => { results := [.lit (.bool false)], args := [d1, d2] }
  | _ => none }
def IntsJoinWrongFalsely : Prop := intsJoinRow.holds Try.pinned (OpenSpec.ofChange intsJoinWrong)

/- THE SECOND FORM. 'bulk': how many values and letters a reading holds, each counted each time it is reached (what is shared counts as often as it is met; a slice's spare places count too). A statement '..UptoSaid' is the law's where the arguments, and the package variables that the reading takes, are together of bulk at most 1048576: NARROWER than '..Said'. Prove '..Said' where nothing that the law and all that it calls make is longer than what came in: it says more and counts as full. Else prove '..UptoSaid'. A law counts once. -/
mutual
def uptoBulk {H : Type} : DataW H → Nat
  | .lit (.string bytes) => bytes.length + 1
  | .lit _ => 1
  | .nil => 1
  | .ptr d => uptoBulk d + 1
  | .slice elems spare => uptoBulkAll elems + uptoBulkAll spare + 1
  | .agg parts => uptoBulkAll parts + 1
  | .iface _ d => uptoBulk d + 1
  | .map entries => uptoBulkEntries entries + 1
  | .held _ => 1
def uptoBulkAll {H : Type} : List (DataW H) → Nat
  | [] => 0
  | d :: r => uptoBulk d + uptoBulkAll r
def uptoBulkEntries {H : Type} : List (Lit × DataW H) → Nat
  | [] => 0
  | x :: r => uptoBulkEntry x + uptoBulkEntries r
def uptoBulkEntry {H : Type} : Lit × DataW H → Nat
  | (.string bytes, d) => bytes.length + uptoBulk d + 1
  | (_, d) => uptoBulk d + 1
 end
def uptoSmall : (H : Type) → List (DataW H) → Bool := fun _ ds => decide (uptoBulkAll ds ≤ 1048576)
def OpenSpec.upto (s : _root_.Go.ChangeSpec) : _root_.Go.OpenSpec := { _root_.Go.OpenSpec.ofChange s with cond := some uptoSmall }

/-- 'bucketlinelaw01.IntsGet', WHERE WHAT IT READS IS OF BULK AT MOST 1048576: true; the input reads as it did. -/
def intsGetUptoRow : OpenClaim := { program := "ythjhoealkalfgaa", sum := "94cd404e44252f5e18af028ac11a2e0a01bd0cacc019520fb0575183796bd8f1", func := "bucketline/bucketlinelaw01.IntsGet", spec := "intsGet", unfollowed := true, recurses := true, apart := false, narrowed := true }
def IntsGetUptoSaid : Prop := intsGetUptoRow.holds Try.pinned (OpenSpec.upto intsGetSpec)

/-- 'bucketlinelaw01.IntsBack', WHERE WHAT IT READS IS OF BULK AT MOST 1048576: true; the input reads as it did. -/
def intsBackUptoRow : OpenClaim := { program := "ythjhoealkalfgaa", sum := "94cd404e44252f5e18af028ac11a2e0a01bd0cacc019520fb0575183796bd8f1", func := "bucketline/bucketlinelaw01.IntsBack", spec := "intsBack", unfollowed := true, recurses := true, apart := false, narrowed := true }
def IntsBackUptoSaid : Prop := intsBackUptoRow.holds Try.pinned (OpenSpec.upto intsBackSpec)

/-- 'bucketlinelaw01.IntsTexts', WHERE WHAT IT READS IS OF BULK AT MOST 1048576: true; the input reads as it did. -/
def intsTextsUptoRow : OpenClaim := { program := "ythjhoealkalfgaa", sum := "94cd404e44252f5e18af028ac11a2e0a01bd0cacc019520fb0575183796bd8f1", func := "bucketline/bucketlinelaw01.IntsTexts", spec := "intsTexts", unfollowed := true, recurses := true, apart := false, narrowed := true }
def IntsTextsUptoSaid : Prop := intsTextsUptoRow.holds Try.pinned (OpenSpec.upto intsTextsSpec)

/-- 'bucketlinelaw01.IntsAgain', WHERE WHAT IT READS IS OF BULK AT MOST 1048576: true; the input reads as it did. -/
def intsAgainUptoRow : OpenClaim := { program := "ythjhoealkalfgaa", sum := "94cd404e44252f5e18af028ac11a2e0a01bd0cacc019520fb0575183796bd8f1", func := "bucketline/bucketlinelaw01.IntsAgain", spec := "intsAgain", unfollowed := true, recurses := true, apart := false, narrowed := true }
def IntsAgainUptoSaid : Prop := intsAgainUptoRow.holds Try.pinned (OpenSpec.upto intsAgainSpec)

/-- 'bucketlinelaw01.IntsCut', WHERE WHAT IT READS IS OF BULK AT MOST 1048576: true; the input reads as it did. -/
def intsCutUptoRow : OpenClaim := { program := "ythjhoealkalfgaa", sum := "94cd404e44252f5e18af028ac11a2e0a01bd0cacc019520fb0575183796bd8f1", func := "bucketline/bucketlinelaw01.IntsCut", spec := "intsCut", unfollowed := true, recurses := true, apart := false, narrowed := true }
def IntsCutUptoSaid : Prop := intsCutUptoRow.holds Try.pinned (OpenSpec.upto intsCutSpec)

/-- 'bucketlinelaw01.IntsNeedless', WHERE WHAT IT READS IS OF BULK AT MOST 1048576: true; the input reads as it did. -/
def intsNeedlessUptoRow : OpenClaim := { program := "ythjhoealkalfgaa", sum := "94cd404e44252f5e18af028ac11a2e0a01bd0cacc019520fb0575183796bd8f1", func := "bucketline/bucketlinelaw01.IntsNeedless", spec := "intsNeedless", unfollowed := true, recurses := true, apart := false, narrowed := true }
def IntsNeedlessUptoSaid : Prop := intsNeedlessUptoRow.holds Try.pinned (OpenSpec.upto intsNeedlessSpec)

/-- 'bucketlinelaw01.IntsOrder', WHERE WHAT IT READS IS OF BULK AT MOST 1048576: true; the input reads as it did. -/
def intsOrderUptoRow : OpenClaim := { program := "ythjhoealkalfgaa", sum := "94cd404e44252f5e18af028ac11a2e0a01bd0cacc019520fb0575183796bd8f1", func := "bucketline/bucketlinelaw01.IntsOrder", spec := "intsOrder", unfollowed := true, recurses := true, apart := false, narrowed := true }
def IntsOrderUptoSaid : Prop := intsOrderUptoRow.holds Try.pinned (OpenSpec.upto intsOrderSpec)

/-- 'bucketlinelaw01.IntsRow', WHERE WHAT IT READS IS OF BULK AT MOST 1048576: true; the input reads as it did. -/
def intsRowUptoRow : OpenClaim := { program := "ythjhoealkalfgaa", sum := "94cd404e44252f5e18af028ac11a2e0a01bd0cacc019520fb0575183796bd8f1", func := "bucketline/bucketlinelaw01.IntsRow", spec := "intsRow", unfollowed := true, recurses := true, apart := false, narrowed := true }
def IntsRowUptoSaid : Prop := intsRowUptoRow.holds Try.pinned (OpenSpec.upto intsRowSpec)

/-- 'bucketlinelaw01.IntsJoin', WHERE WHAT IT READS IS OF BULK AT MOST 1048576: true; the input reads as it did. -/
def intsJoinUptoRow : OpenClaim := { program := "ythjhoealkalfgaa", sum := "94cd404e44252f5e18af028ac11a2e0a01bd0cacc019520fb0575183796bd8f1", func := "bucketline/bucketlinelaw01.IntsJoin", spec := "intsJoin", unfollowed := true, recurses := true, apart := false, narrowed := true }
def IntsJoinUptoSaid : Prop := intsJoinUptoRow.holds Try.pinned (OpenSpec.upto intsJoinSpec)

end Rows
end Go.Proofs.Ythjhoealkalfgaa
