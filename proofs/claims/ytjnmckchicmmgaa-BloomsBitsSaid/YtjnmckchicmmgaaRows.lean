/-
  No cell of these rows narrows 'for every input' (looked for: loops, veiled, ifaces, maps, wideKeys, modest, calm, conditions, laid).
  DERIVED. THE GIVEN ROWS OF THIS SEAT. 5 by the template 'for every input the law returns true; each argument reads behind the call as it read before'; 0 by the template 'total and deterministic' (their statements: YtjnmckchicmmgaaTotals.lean).
  GIVEN WITH THE SEED: the statements are not yours to turn. If you find one false, say at which input.
  Laid BY PROGRAM, IN A SANDBOX (cutbox-rows.mjs): the forced cells as the released guide's own fill.sh prints them over the translation f495e9c7b09a6fd4… (all of the seat's roots in one cut). By AI agents, Wed Nov 11 2026. No macro, syntax, notation, axiom, sorry.
-/
import Derived.Test.YtjnmckchicmmgaaChecked
import GoSem.Claim
import GoSem.ClaimJoined
import GoSem.ClaimMapViews
import Derived.JoinedTies
import Derived.KernelRfl
namespace Go.Proofs.Ytjnmckchicmmgaa
/- THE CELL 'sum', in the pinned program and in every row, IS THE sha256 OF THE DUMP (.gsa) THAT YtjnmckchicmmgaaProg.lean LOADS. Nothing in Lean hashes anything: it is a label: what it is worth is what the hold of that sum in a sandbox is worth. -/
noncomputable def Try.pinned : Pinned := { name := "ytjnmckchicmmgaa", sum := "f495e9c7b09a6fd44c688b225b8eeaa2ee75e846a60ae4bc544f678db13b5cd4", checked := Try.checked }
namespace Rows
def none {H : Type} : Left H := { results := [], args := [] }

/-- 'bucketlinelaw09.BloomsMay': WHATEVER THE INPUT: true; the input reads as it did. -/
def bloomsMaySpec : ChangeSpec := { name := "bloomsMay", fn := fun _ => fun
  | [d1, d2] => { results := [.lit (.bool true)], args := [d1, d2] }
  | _ => none }
def bloomsMayRow : OpenClaim := { program := "ytjnmckchicmmgaa", sum := "f495e9c7b09a6fd44c688b225b8eeaa2ee75e846a60ae4bc544f678db13b5cd4", func := "bucketline/bucketlinelaw09.BloomsMay", spec := "bloomsMay", apart := false }
def BloomsMaySaid : Prop := bloomsMayRow.holds Try.pinned (OpenSpec.ofChange bloomsMaySpec)

/-- ITS FALSE NEIGHBOUR: 'it returns false'. Refute it at one input. -/
def bloomsMayWrong : ChangeSpec := { name := "bloomsMay", fn := fun _ => fun
  | [d1, d2] => { results := [.lit (.bool false)], args := [d1, d2] }
  | _ => none }
def BloomsMayWrongFalsely : Prop := bloomsMayRow.holds Try.pinned (OpenSpec.ofChange bloomsMayWrong)

/-- 'bucketlinelaw09.BloomsThere': WHATEVER THE INPUT: true; the input reads as it did. -/
def bloomsThereSpec : ChangeSpec := { name := "bloomsThere", fn := fun _ => fun
  | [d] => { results := [.lit (.bool true)], args := [d] }
  | _ => none }
def bloomsThereRow : OpenClaim := { program := "ytjnmckchicmmgaa", sum := "f495e9c7b09a6fd44c688b225b8eeaa2ee75e846a60ae4bc544f678db13b5cd4", func := "bucketline/bucketlinelaw09.BloomsThere", spec := "bloomsThere", apart := false }
def BloomsThereSaid : Prop := bloomsThereRow.holds Try.pinned (OpenSpec.ofChange bloomsThereSpec)

/-- ITS FALSE NEIGHBOUR: 'it returns false'. Refute it at one input. -/
def bloomsThereWrong : ChangeSpec := { name := "bloomsThere", fn := fun _ => fun
  | [d] => { results := [.lit (.bool false)], args := [d] }
  | _ => none }
def BloomsThereWrongFalsely : Prop := bloomsThereRow.holds Try.pinned (OpenSpec.ofChange bloomsThereWrong)

/-- 'bucketlinelaw09.BloomsOrder': WHATEVER THE INPUT: true; the input reads as it did. -/
def bloomsOrderSpec : ChangeSpec := { name := "bloomsOrder", fn := fun _ => fun
  | [d1, d2] => { results := [.lit (.bool true)], args := [d1, d2] }
  | _ => none }
def bloomsOrderRow : OpenClaim := { program := "ytjnmckchicmmgaa", sum := "f495e9c7b09a6fd44c688b225b8eeaa2ee75e846a60ae4bc544f678db13b5cd4", func := "bucketline/bucketlinelaw09.BloomsOrder", spec := "bloomsOrder", apart := false }
def BloomsOrderSaid : Prop := bloomsOrderRow.holds Try.pinned (OpenSpec.ofChange bloomsOrderSpec)

/-- ITS FALSE NEIGHBOUR: 'it returns false'. Refute it at one input. -/
def bloomsOrderWrong : ChangeSpec := { name := "bloomsOrder", fn := fun _ => fun
  | [d1, d2] => { results := [.lit (.bool false)], args := [d1, d2] }
  | _ => none }
def BloomsOrderWrongFalsely : Prop := bloomsOrderRow.holds Try.pinned (OpenSpec.ofChange bloomsOrderWrong)

/-- 'bucketlinelaw09.BloomsBits': WHATEVER THE INPUT: true; the input reads as it did. -/
def bloomsBitsSpec : ChangeSpec := { name := "bloomsBits", fn := fun _ => fun
  | [d1, d2, d3] => { results := [.lit (.bool true)], args := [d1, d2, d3] }
  | _ => none }
def bloomsBitsRow : OpenClaim := { program := "ytjnmckchicmmgaa", sum := "f495e9c7b09a6fd44c688b225b8eeaa2ee75e846a60ae4bc544f678db13b5cd4", func := "bucketline/bucketlinelaw09.BloomsBits", spec := "bloomsBits", apart := false }
def BloomsBitsSaid : Prop := bloomsBitsRow.holds Try.pinned (OpenSpec.ofChange bloomsBitsSpec)

/-- ITS FALSE NEIGHBOUR: 'it returns false'. Refute it at one input. -/
def bloomsBitsWrong : ChangeSpec := { name := "bloomsBits", fn := fun _ => fun
  | [d1, d2, d3] => { results := [.lit (.bool false)], args := [d1, d2, d3] }
  | _ => none }
def BloomsBitsWrongFalsely : Prop := bloomsBitsRow.holds Try.pinned (OpenSpec.ofChange bloomsBitsWrong)

/-- 'bucketlinelaw09.BloomsJoin': WHATEVER THE INPUT: true; the input reads as it did. -/
def bloomsJoinSpec : ChangeSpec := { name := "bloomsJoin", fn := fun _ => fun
  | [d] => { results := [.lit (.bool true)], args := [d] }
  | _ => none }
def bloomsJoinRow : OpenClaim := { program := "ytjnmckchicmmgaa", sum := "f495e9c7b09a6fd44c688b225b8eeaa2ee75e846a60ae4bc544f678db13b5cd4", func := "bucketline/bucketlinelaw09.BloomsJoin", spec := "bloomsJoin", apart := false }
def BloomsJoinSaid : Prop := bloomsJoinRow.holds Try.pinned (OpenSpec.ofChange bloomsJoinSpec)

/-- ITS FALSE NEIGHBOUR: 'it returns false'. Refute it at one input. -/
def bloomsJoinWrong : ChangeSpec := { name := "bloomsJoin", fn := fun _ => fun
  | [d] => { results := [.lit (.bool false)], args := [d] }
  | _ => none }
def BloomsJoinWrongFalsely : Prop := bloomsJoinRow.holds Try.pinned (OpenSpec.ofChange bloomsJoinWrong)

/- THE SECOND FORM. 'bulk': how many values and letters a reading holds, each counted each time it is reached (what is shared counts as often as it is met; a slice's spare places count too). A statement '..UptoSaid' is the law's where the arguments, and the package variables that the reading takes, are together of bulk at most 1048576: NARROWER than '..Said'. Prove '..Said' where nothing that the law and all that it calls make is longer than what came in: it says more and counts as full. Else prove '..UptoSaid'. A law counts once. -/
mutual
def uptoBulk {H : Type} : DataW H → Nat
  | .lit (.string bytes) => bytes.length + 1
  | .lit _ => 1
  | .nil => 1
  | .ptr d => uptoBulk d + 1
  | .slice elems spare => uptoBulkAll elems + uptoBulkAll spare + 1
  | .agg parts => uptoBulkAll parts + 1
  | .iface _ d => uptoBulk d + 1
  | .map entries => uptoBulkEntries entries + 1
  | .held _ => 1
def uptoBulkAll {H : Type} : List (DataW H) → Nat
  | [] => 0
  | d :: r => uptoBulk d + uptoBulkAll r
def uptoBulkEntries {H : Type} : List (Lit × DataW H) → Nat
  | [] => 0
  | x :: r => uptoBulkEntry x + uptoBulkEntries r
def uptoBulkEntry {H : Type} : Lit × DataW H → Nat
  | (.string bytes, d) => bytes.length + uptoBulk d + 1
  | (_, d) => uptoBulk d + 1
 end
def uptoSmall : (H : Type) → List (DataW H) → Bool := fun _ ds => decide (uptoBulkAll ds ≤ 1048576)
def OpenSpec.upto (s : _root_.Go.ChangeSpec) : _root_.Go.OpenSpec := { _root_.Go.OpenSpec.ofChange s with cond := some uptoSmall }

/-- 'bucketlinelaw09.BloomsMay', WHERE WHAT IT READS IS OF BULK AT MOST 1048576: true; the input reads as it did. -/
def bloomsMayUptoRow : OpenClaim := { program := "ytjnmckchicmmgaa", sum := "f495e9c7b09a6fd44c688b225b8eeaa2ee75e846a60ae4bc544f678db13b5cd4", func := "bucketline/bucketlinelaw09.BloomsMay", spec := "bloomsMay", apart := false, narrowed := true }
def BloomsMayUptoSaid : Prop := bloomsMayUptoRow.holds Try.pinned (OpenSpec.upto bloomsMaySpec)

/-- 'bucketlinelaw09.BloomsThere', WHERE WHAT IT READS IS OF BULK AT MOST 1048576: true; the input reads as it did. -/
def bloomsThereUptoRow : OpenClaim := { program := "ytjnmckchicmmgaa", sum := "f495e9c7b09a6fd44c688b225b8eeaa2ee75e846a60ae4bc544f678db13b5cd4", func := "bucketline/bucketlinelaw09.BloomsThere", spec := "bloomsThere", apart := false, narrowed := true }
def BloomsThereUptoSaid : Prop := bloomsThereUptoRow.holds Try.pinned (OpenSpec.upto bloomsThereSpec)

/-- 'bucketlinelaw09.BloomsOrder', WHERE WHAT IT READS IS OF BULK AT MOST 1048576: true; the input reads as it did. -/
def bloomsOrderUptoRow : OpenClaim := { program := "ytjnmckchicmmgaa", sum := "f495e9c7b09a6fd44c688b225b8eeaa2ee75e846a60ae4bc544f678db13b5cd4", func := "bucketline/bucketlinelaw09.BloomsOrder", spec := "bloomsOrder", apart := false, narrowed := true }
def BloomsOrderUptoSaid : Prop := bloomsOrderUptoRow.holds Try.pinned (OpenSpec.upto bloomsOrderSpec)

/-- 'bucketlinelaw09.BloomsBits', WHERE WHAT IT READS IS OF BULK AT MOST 1048576: true; the input reads as it did. -/
def bloomsBitsUptoRow : OpenClaim := { program := "ytjnmckchicmmgaa", sum := "f495e9c7b09a6fd44c688b225b8eeaa2ee75e846a60ae4bc544f678db13b5cd4", func := "bucketline/bucketlinelaw09.BloomsBits", spec := "bloomsBits", apart := false, narrowed := true }
def BloomsBitsUptoSaid : Prop := bloomsBitsUptoRow.holds Try.pinned (OpenSpec.upto bloomsBitsSpec)

/-- 'bucketlinelaw09.BloomsJoin', WHERE WHAT IT READS IS OF BULK AT MOST 1048576: true; the input reads as it did. -/
def bloomsJoinUptoRow : OpenClaim := { program := "ytjnmckchicmmgaa", sum := "f495e9c7b09a6fd44c688b225b8eeaa2ee75e846a60ae4bc544f678db13b5cd4", func := "bucketline/bucketlinelaw09.BloomsJoin", spec := "bloomsJoin", apart := false, narrowed := true }
def BloomsJoinUptoSaid : Prop := bloomsJoinUptoRow.holds Try.pinned (OpenSpec.upto bloomsJoinSpec)

end Rows
end Go.Proofs.Ytjnmckchicmmgaa
