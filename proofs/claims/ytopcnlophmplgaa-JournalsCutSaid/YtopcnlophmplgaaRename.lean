/-
  Rename of package files, where every check passes.
-/
import Derived.Test.YtopcnlophmplgaaTexts
namespace Go.Proofs.Ytopcnlophmplgaa
open Go.RowKit Go.Maps Go.Sort
set_option maxRecDepth 100000
set_option linter.unusedVariables false

theorem txt_same {a b : ByteArray} (h : a.data.toList = b.data.toList) : a = b := by
  cases a; cases b; simp_all [Array.toList_inj]

end Go.Proofs.Ytopcnlophmplgaa
