/-
  The contracts of bytes.Clone, maps.Clone, maps.Keys, slices.Sorted and slices.Sort, laid at this program: which number of theirs is which of its.
-/
import Derived.Ground.SlbCloneProg
import Derived.Shelf.Bytes.SlClone
import Derived.Ground.SlgmProg
import Derived.Ground.GgzProg
import Derived.Ground.SlmcProg
import Derived.Shelf.SlMaps.Clone
import Derived.Shelf.SlIter.Nil
import Derived.Shelf.SortM.Plain
import Derived.Shelf.SortM.SortNone
import Derived.Test.YtopcnlophmplgaaProg
namespace Go.Proofs.Ytopcnlophmplgaa
open Go.Shelf
def bclone_ren : Go.Shelf.Ren := ⟨fun | 4 => 45 | n => n, fun | 22 => 33 | 4 => 4 | 5 => 5 | n => n, fun | n => n⟩
theorem bclone : Go.Proofs.SlLaysK.n4 Try.prog bclone_ren := {
  mixed := by kernel_rfl
  f4 := Try.func45.trans (congrArg some (by kernel_rfl))
  t4 := Try.underlying4
  a4 := Try.isAgg4
  z4 := Try.sizeOf4
  v4 := Try.zeroValue4
  t22 := Try.underlying33
  a22 := Try.isAgg33
  z22 := Try.sizeOf33
  v22 := Try.zeroValue33
  t5 := Try.underlying5
  i5 := by kernel_rfl }
end Go.Proofs.Ytopcnlophmplgaa
