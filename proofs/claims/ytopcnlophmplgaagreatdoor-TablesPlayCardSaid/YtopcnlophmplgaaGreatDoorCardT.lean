/-
  What a card's condition says of the library's table of powers of ten.
-/
import Derived.Test.YtopcnlophmplgaaGreatDoorCard
import Derived.Lib.AppendIntMem
namespace Go.Proofs.YtopcnlophmplgaaGreatDoor
open Go.ChangeShapes Go.WideShapes Go.ChangeAt Go.RowKit
set_option linter.unusedVariables false

theorem laid_tail {P : Program} {a : String × DataW Unit} {r : List (String × DataW Unit)} {W : World} (h : laidMet P (a :: r) W) : laidMet P r W := by
  obtain ⟨ps, ⟨g, t, cs, fuel, p, q, _, _, _, _, hq, rfl⟩, hn, hc⟩ := h
  exact ⟨q, hq, (List.nodup_append.1 hn).2.1, fun b off hm => hc b off (List.mem_append_right _ hm)⟩
theorem tab_is : (Rows.laid_internal_strconv_uint64pow10 : DataW Unit) = Lib.tabData .u64 Lib.pow10Tab := by kernel_rfl
theorem card_tab {W : World} (h : laidMet Tryz.prog [("math/bits.deBruijn32tab", Rows.laid_math_bits_deBruijn32tab), ("math/bits.deBruijn64tab", Rows.laid_math_bits_deBruijn64tab), ("internal/strconv.uint64pow10", Rows.laid_internal_strconv_uint64pow10)] W) : Lib.TabIs Tryz.prog W "internal/strconv.uint64pow10" .u64 Lib.pow10Tab := by
  have h2 := laid_tail (laid_tail h)
  rw [tab_is] at h2
  exact Lib.tabIs_of_head g_p10 (t := 307) (e := 79) (n := 20) (by kernel_rfl) Tryz.underlying307 Tryz.underlying79 (by kernel_rfl) (by kernel_rfl) h2
end Go.Proofs.YtopcnlophmplgaaGreatDoor
