/-
  No cell of these rows narrows 'for every input' (looked for: loops, veiled, ifaces, maps, wideKeys, modest, calm, conditions, laid).
  DERIVED. THE GIVEN ROWS OF THIS SEAT. 9 by the template 'for every input the law returns true; each argument reads behind the call as it read before'; 0 by the template 'total and deterministic' (their statements: YtjeijgkkobmdbaaTotals.lean).
  GIVEN WITH THE SEED: the statements are not yours to turn. If you find one false, say at which input.
  Laid BY PROGRAM, IN A SANDBOX (cutbox-rows.mjs): the forced cells as the released guide's own fill.sh prints them over the translation 79fe9c273ec676af… (all of the seat's roots in one cut). By AI agents, Wed Nov 11 2026. No macro, syntax, notation, axiom, sorry.
-/
import Derived.Test.YtjeijgkkobmdbaaChecked
import GoSem.Claim
import GoSem.ClaimJoined
import GoSem.ClaimMapViews
import Derived.JoinedTies
import Derived.KernelRfl
namespace Go.Proofs.Ytjeijgkkobmdbaa
/- THE CELL 'sum', in the pinned program and in every row, IS THE sha256 OF THE DUMP (.gsa) THAT YtjeijgkkobmdbaaProg.lean LOADS. Nothing in Lean hashes anything: it is a label: what it is worth is what the hold of that sum in a sandbox is worth. -/
noncomputable def Try.pinned : Pinned := { name := "ytjeijgkkobmdbaa", sum := "79fe9c273ec676afdb20c998597f68bf9cb421ef19f8601f0b909046490b3705", checked := Try.checked }
namespace Rows
def none {H : Type} : Left H := { results := [], args := [] }

/-- 'bucketlinelaw04.OrderCmp': WHATEVER THE INPUT: true; the input reads as it did. -/
def orderCmpSpec : ChangeSpec := { name := "orderCmp", fn := fun _ => fun
  | [d1, d2] => { results := [.lit (.bool true)], args := [d1, d2] }
  | _ => none }
def orderCmpRow : OpenClaim := { program := "ytjeijgkkobmdbaa", sum := "79fe9c273ec676afdb20c998597f68bf9cb421ef19f8601f0b909046490b3705", func := "bucketline/bucketlinelaw04.OrderCmp", spec := "orderCmp", unfollowed := true, recurses := true, apart := false }
def OrderCmpSaid : Prop := orderCmpRow.holds Try.pinned (OpenSpec.ofChange orderCmpSpec)

/-- ITS FALSE NEIGHBOUR: 'it returns false'. Refute it at one input. -/
def orderCmpWrong : ChangeSpec := { name := "orderCmp", fn := fun _ => fun
  | [d1, d2] => { results := [.lit (.bool false)], args := [d1, d2] }
  | _ => none }
def OrderCmpWrongFalsely : Prop := orderCmpRow.holds Try.pinned (OpenSpec.ofChange orderCmpWrong)

/-- 'bucketlinelaw04.OrderGet': WHATEVER THE INPUT: true; the input reads as it did. -/
def orderGetSpec : ChangeSpec := { name := "orderGet", fn := fun _ => fun
  | [d] => { results := [.lit (.bool true)], args := [d] }
  | _ => none }
def orderGetRow : OpenClaim := { program := "ytjeijgkkobmdbaa", sum := "79fe9c273ec676afdb20c998597f68bf9cb421ef19f8601f0b909046490b3705", func := "bucketline/bucketlinelaw04.OrderGet", spec := "orderGet", unfollowed := true, recurses := true, apart := false }
def OrderGetSaid : Prop := orderGetRow.holds Try.pinned (OpenSpec.ofChange orderGetSpec)

/-- ITS FALSE NEIGHBOUR: 'it returns false'. Refute it at one input. -/
def orderGetWrong : ChangeSpec := { name := "orderGet", fn := fun _ => fun
  | [d] => { results := [.lit (.bool false)], args := [d] }
  | _ => none }
def OrderGetWrongFalsely : Prop := orderGetRow.holds Try.pinned (OpenSpec.ofChange orderGetWrong)

/-- 'bucketlinelaw04.OrderOne': WHATEVER THE INPUT: true; the input reads as it did. -/
def orderOneSpec : ChangeSpec := { name := "orderOne", fn := fun _ => fun
  | [d1, d2, d3] => { results := [.lit (.bool true)], args := [d1, d2, d3] }
  | _ => none }
def orderOneRow : OpenClaim := { program := "ytjeijgkkobmdbaa", sum := "79fe9c273ec676afdb20c998597f68bf9cb421ef19f8601f0b909046490b3705", func := "bucketline/bucketlinelaw04.OrderOne", spec := "orderOne", unfollowed := true, recurses := true, apart := false }
def OrderOneSaid : Prop := orderOneRow.holds Try.pinned (OpenSpec.ofChange orderOneSpec)

/-- ITS FALSE NEIGHBOUR: 'it returns false'. Refute it at one input. -/
def orderOneWrong : ChangeSpec := { name := "orderOne", fn := fun _ => fun
  | [d1, d2, d3] => { results := [.lit (.bool false)], args := [d1, d2, d3] }
  | _ => none }
def OrderOneWrongFalsely : Prop := orderOneRow.holds Try.pinned (OpenSpec.ofChange orderOneWrong)

/-- 'bucketlinelaw04.OrderBack': WHATEVER THE INPUT: true; the input reads as it did. -/
def orderBackSpec : ChangeSpec := { name := "orderBack", fn := fun _ => fun
  | [d1, d2] => { results := [.lit (.bool true)], args := [d1, d2] }
  | _ => none }
def orderBackRow : OpenClaim := { program := "ytjeijgkkobmdbaa", sum := "79fe9c273ec676afdb20c998597f68bf9cb421ef19f8601f0b909046490b3705", func := "bucketline/bucketlinelaw04.OrderBack", spec := "orderBack", unfollowed := true, recurses := true, apart := false }
def OrderBackSaid : Prop := orderBackRow.holds Try.pinned (OpenSpec.ofChange orderBackSpec)

/-- ITS FALSE NEIGHBOUR: 'it returns false'. Refute it at one input. -/
def orderBackWrong : ChangeSpec := { name := "orderBack", fn := fun _ => fun
  | [d1, d2] => { results := [.lit (.bool false)], args := [d1, d2] }
  | _ => none }
def OrderBackWrongFalsely : Prop := orderBackRow.holds Try.pinned (OpenSpec.ofChange orderBackWrong)

/-- 'bucketlinelaw04.OrderAgain': WHATEVER THE INPUT: true; the input reads as it did. -/
def orderAgainSpec : ChangeSpec := { name := "orderAgain", fn := fun _ => fun
  | [d1, d2] => { results := [.lit (.bool true)], args := [d1, d2] }
  | _ => none }
def orderAgainRow : OpenClaim := { program := "ytjeijgkkobmdbaa", sum := "79fe9c273ec676afdb20c998597f68bf9cb421ef19f8601f0b909046490b3705", func := "bucketline/bucketlinelaw04.OrderAgain", spec := "orderAgain", unfollowed := true, recurses := true, apart := false }
def OrderAgainSaid : Prop := orderAgainRow.holds Try.pinned (OpenSpec.ofChange orderAgainSpec)

/-- ITS FALSE NEIGHBOUR: 'it returns false'. Refute it at one input. -/
def orderAgainWrong : ChangeSpec := { name := "orderAgain", fn := fun _ => fun
  | [d1, d2] => { results := [.lit (.bool false)], args := [d1, d2] }
  | _ => none }
def OrderAgainWrongFalsely : Prop := orderAgainRow.holds Try.pinned (OpenSpec.ofChange orderAgainWrong)

/-- 'bucketlinelaw04.OrderParts': WHATEVER THE INPUT: true; the input reads as it did. -/
def orderPartsSpec : ChangeSpec := { name := "orderParts", fn := fun _ => fun
  | [d] => { results := [.lit (.bool true)], args := [d] }
  | _ => none }
def orderPartsRow : OpenClaim := { program := "ytjeijgkkobmdbaa", sum := "79fe9c273ec676afdb20c998597f68bf9cb421ef19f8601f0b909046490b3705", func := "bucketline/bucketlinelaw04.OrderParts", spec := "orderParts", unfollowed := true, recurses := true, apart := false }
def OrderPartsSaid : Prop := orderPartsRow.holds Try.pinned (OpenSpec.ofChange orderPartsSpec)

/-- ITS FALSE NEIGHBOUR: 'it returns false'. Refute it at one input. -/
def orderPartsWrong : ChangeSpec := { name := "orderParts", fn := fun _ => fun
  | [d] => { results := [.lit (.bool false)], args := [d] }
  | _ => none }
def OrderPartsWrongFalsely : Prop := orderPartsRow.holds Try.pinned (OpenSpec.ofChange orderPartsWrong)

/-- 'bucketlinelaw04.OrderKeys': WHATEVER THE INPUT: true; the input reads as it did. -/
def orderKeysSpec : ChangeSpec := { name := "orderKeys", fn := fun _ => fun
  | [d1, d2, d3] => { results := [.lit (.bool true)], args := [d1, d2, d3] }
  | _ => none }
def orderKeysRow : OpenClaim := { program := "ytjeijgkkobmdbaa", sum := "79fe9c273ec676afdb20c998597f68bf9cb421ef19f8601f0b909046490b3705", func := "bucketline/bucketlinelaw04.OrderKeys", spec := "orderKeys", unfollowed := true, recurses := true, apart := false }
def OrderKeysSaid : Prop := orderKeysRow.holds Try.pinned (OpenSpec.ofChange orderKeysSpec)

/-- ITS FALSE NEIGHBOUR: 'it returns false'. Refute it at one input. -/
def orderKeysWrong : ChangeSpec := { name := "orderKeys", fn := fun _ => fun
  | [d1, d2, d3] => { results := [.lit (.bool false)], args := [d1, d2, d3] }
  | _ => none }
def OrderKeysWrongFalsely : Prop := orderKeysRow.holds Try.pinned (OpenSpec.ofChange orderKeysWrong)

/-- 'bucketlinelaw04.OrderRow': WHATEVER THE INPUT: true; the input reads as it did. -/
def orderRowSpec : ChangeSpec := { name := "orderRow", fn := fun _ => fun
  | [d] => { results := [.lit (.bool true)], args := [d] }
  | _ => none }
def orderRowRow : OpenClaim := { program := "ytjeijgkkobmdbaa", sum := "79fe9c273ec676afdb20c998597f68bf9cb421ef19f8601f0b909046490b3705", func := "bucketline/bucketlinelaw04.OrderRow", spec := "orderRow", unfollowed := true, recurses := true, apart := false }
def OrderRowSaid : Prop := orderRowRow.holds Try.pinned (OpenSpec.ofChange orderRowSpec)

/-- ITS FALSE NEIGHBOUR: 'it returns false'. Refute it at one input. -/
def orderRowWrong : ChangeSpec := { name := "orderRow", fn := fun _ => fun
  | [d] => { results := [.lit (.bool false)], args := [d] }
  | _ => none }
def OrderRowWrongFalsely : Prop := orderRowRow.holds Try.pinned (OpenSpec.ofChange orderRowWrong)

/-- 'bucketlinelaw04.OrderSort': WHATEVER THE INPUT: true; the input reads as it did. -/
def orderSortSpec : ChangeSpec := { name := "orderSort", fn := fun _ => fun
  | [d1, d2] => { results := [.lit (.bool true)], args := [d1, d2] }
  | _ => none }
def orderSortRow : OpenClaim := { program := "ytjeijgkkobmdbaa", sum := "79fe9c273ec676afdb20c998597f68bf9cb421ef19f8601f0b909046490b3705", func := "bucketline/bucketlinelaw04.OrderSort", spec := "orderSort", unfollowed := true, recurses := true, apart := false }
def OrderSortSaid : Prop := orderSortRow.holds Try.pinned (OpenSpec.ofChange orderSortSpec)

/-- ITS FALSE NEIGHBOUR: 'it returns false'. Refute it at one input. -/
def orderSortWrong : ChangeSpec := { name := "orderSort", fn := fun _ => fun
  | [d1, d2] => { results := [.lit (.bool false)], args := [d1, d2] }
  | _ => none }
def OrderSortWrongFalsely : Prop := orderSortRow.holds Try.pinned (OpenSpec.ofChange orderSortWrong)

/- THE SECOND FORM. 'bulk': how many values and letters a reading holds, each counted each time it is reached (what is shared counts as often as it is met; a slice's spare places count too). A statement '..UptoSaid' is the law's where the arguments, and the package variables that the reading takes, are together of bulk at most 1048576: NARROWER than '..Said'. Prove '..Said' where nothing that the law and all that it calls make is longer than what came in: it says more and counts as full. Else prove '..UptoSaid'. A law counts once. -/
mutual
def uptoBulk {H : Type} : DataW H → Nat
  | .lit (.string bytes) => bytes.length + 1
  | .lit _ => 1
  | .nil => 1
  | .ptr d => uptoBulk d + 1
  | .slice elems spare => uptoBulkAll elems + uptoBulkAll spare + 1
  | .agg parts => uptoBulkAll parts + 1
  | .iface _ d => uptoBulk d + 1
  | .map entries => uptoBulkEntries entries + 1
  | .held _ => 1
def uptoBulkAll {H : Type} : List (DataW H) → Nat
  | [] => 0
  | d :: r => uptoBulk d + uptoBulkAll r
def uptoBulkEntries {H : Type} : List (Lit × DataW H) → Nat
  | [] => 0
  | x :: r => uptoBulkEntry x + uptoBulkEntries r
def uptoBulkEntry {H : Type} : Lit × DataW H → Nat
  | (.string bytes, d) => bytes.length + uptoBulk d + 1
  | (_, d) => uptoBulk d + 1
 end
def uptoSmall : (H : Type) → List (DataW H) → Bool := fun _ ds => decide (uptoBulkAll ds ≤ 1048576)
def OpenSpec.upto (s : _root_.Go.ChangeSpec) : _root_.Go.OpenSpec := { _root_.Go.OpenSpec.ofChange s with cond := some uptoSmall }

/-- 'bucketlinelaw04.OrderCmp', WHERE WHAT IT READS IS OF BULK AT MOST 1048576: true; the input reads as it did. -/
def orderCmpUptoRow : OpenClaim := { program := "ytjeijgkkobmdbaa", sum := "79fe9c273ec676afdb20c998597f68bf9cb421ef19f8601f0b909046490b3705", func := "bucketline/bucketlinelaw04.OrderCmp", spec := "orderCmp", unfollowed := true, recurses := true, apart := false, narrowed := true }
def OrderCmpUptoSaid : Prop := orderCmpUptoRow.holds Try.pinned (OpenSpec.upto orderCmpSpec)

/-- 'bucketlinelaw04.OrderGet', WHERE WHAT IT READS IS OF BULK AT MOST 1048576: true; the input reads as it did. -/
def orderGetUptoRow : OpenClaim := { program := "ytjeijgkkobmdbaa", sum := "79fe9c273ec676afdb20c998597f68bf9cb421ef19f8601f0b909046490b3705", func := "bucketline/bucketlinelaw04.OrderGet", spec := "orderGet", unfollowed := true, recurses := true, apart := false, narrowed := true }
def OrderGetUptoSaid : Prop := orderGetUptoRow.holds Try.pinned (OpenSpec.upto orderGetSpec)

/-- 'bucketlinelaw04.OrderOne', WHERE WHAT IT READS IS OF BULK AT MOST 1048576: true; the input reads as it did. -/
def orderOneUptoRow : OpenClaim := { program := "ytjeijgkkobmdbaa", sum := "79fe9c273ec676afdb20c998597f68bf9cb421ef19f8601f0b909046490b3705", func := "bucketline/bucketlinelaw04.OrderOne", spec := "orderOne", unfollowed := true, recurses := true, apart := false, narrowed := true }
def OrderOneUptoSaid : Prop := orderOneUptoRow.holds Try.pinned (OpenSpec.upto orderOneSpec)

/-- 'bucketlinelaw04.OrderBack', WHERE WHAT IT READS IS OF BULK AT MOST 1048576: true; the input reads as it did. -/
def orderBackUptoRow : OpenClaim := { program := "ytjeijgkkobmdbaa", sum := "79fe9c273ec676afdb20c998597f68bf9cb421ef19f8601f0b909046490b3705", func := "bucketline/bucketlinelaw04.OrderBack", spec := "orderBack", unfollowed := true, recurses := true, apart := false, narrowed := true }
def OrderBackUptoSaid : Prop := orderBackUptoRow.holds Try.pinned (OpenSpec.upto orderBackSpec)

/-- 'bucketlinelaw04.OrderAgain', WHERE WHAT IT READS IS OF BULK AT MOST 1048576: true; the input reads as it did. -/
def orderAgainUptoRow : OpenClaim := { program := "ytjeijgkkobmdbaa", sum := "79fe9c273ec676afdb20c998597f68bf9cb421ef19f8601f0b909046490b3705", func := "bucketline/bucketlinelaw04.OrderAgain", spec := "orderAgain", unfollowed := true, recurses := true, apart := false, narrowed := true }
def OrderAgainUptoSaid : Prop := orderAgainUptoRow.holds Try.pinned (OpenSpec.upto orderAgainSpec)

/-- 'bucketlinelaw04.OrderParts', WHERE WHAT IT READS IS OF BULK AT MOST 1048576: true; the input reads as it did. -/
def orderPartsUptoRow : OpenClaim := { program := "ytjeijgkkobmdbaa", sum := "79fe9c273ec676afdb20c998597f68bf9cb421ef19f8601f0b909046490b3705", func := "bucketline/bucketlinelaw04.OrderParts", spec := "orderParts", unfollowed := true, recurses := true, apart := false, narrowed := true }
def OrderPartsUptoSaid : Prop := orderPartsUptoRow.holds Try.pinned (OpenSpec.upto orderPartsSpec)

/-- 'bucketlinelaw04.OrderKeys', WHERE WHAT IT READS IS OF BULK AT MOST 1048576: true; the input reads as it did. -/
def orderKeysUptoRow : OpenClaim := { program := "ytjeijgkkobmdbaa", sum := "79fe9c273ec676afdb20c998597f68bf9cb421ef19f8601f0b909046490b3705", func := "bucketline/bucketlinelaw04.OrderKeys", spec := "orderKeys", unfollowed := true, recurses := true, apart := false, narrowed := true }
def OrderKeysUptoSaid : Prop := orderKeysUptoRow.holds Try.pinned (OpenSpec.upto orderKeysSpec)

/-- 'bucketlinelaw04.OrderRow', WHERE WHAT IT READS IS OF BULK AT MOST 1048576: true; the input reads as it did. -/
def orderRowUptoRow : OpenClaim := { program := "ytjeijgkkobmdbaa", sum := "79fe9c273ec676afdb20c998597f68bf9cb421ef19f8601f0b909046490b3705", func := "bucketline/bucketlinelaw04.OrderRow", spec := "orderRow", unfollowed := true, recurses := true, apart := false, narrowed := true }
def OrderRowUptoSaid : Prop := orderRowUptoRow.holds Try.pinned (OpenSpec.upto orderRowSpec)

/-- 'bucketlinelaw04.OrderSort', WHERE WHAT IT READS IS OF BULK AT MOST 1048576: true; the input reads as it did. -/
def orderSortUptoRow : OpenClaim := { program := "ytjeijgkkobmdbaa", sum := "79fe9c273ec676afdb20c998597f68bf9cb421ef19f8601f0b909046490b3705", func := "bucketline/bucketlinelaw04.OrderSort", spec := "orderSort", unfollowed := true, recurses := true, apart := false, narrowed := true }
def OrderSortUptoSaid : Prop := orderSortUptoRow.holds Try.pinned (OpenSpec.upto orderSortSpec)

end Rows
end Go.Proofs.Ytjeijgkkobmdbaa
