/-
  The document's own answer of layer 2: Own.
-/
import Derived.Test.YtjnmckchicmmgaaGreatDoorRef2
import Derived.Test.YtjnmckchicmmgaaGreatDoorLay
namespace Go.Proofs.YtjnmckchicmmgaaGreatDoor
open Go.RowKit
set_option linter.unusedVariables false
set_option maxRecDepth 100000

set_option maxHeartbeats 1000000 in
theorem rown_any (A : Option Addr) (n c : Nat) (l : List UInt8) (w : World) (h : Lies w w.heap.size 1 A n (l.map bv)) (hn : n ≤ 1099511627776) :
    Calls Tryz.prog 63 #[.slice A n c] w fun e w' => e = .returned (.int .u32 (Crc.on Crc.tab 0 l : Int)) ∧ Below w.heap.size w w' := by
  have HL := Lib.hid h; clear h
  go_enter Tryz.func63, Tryz.ntmps63
  go_wp2_with fail
  refine (rtable_any w).mono ?_
  rintro e w1 ⟨rfl, hb1⟩
  have HB1 := Lib.hid (lay_below hb1 hb1.size Crc.tab)
  have HT := Lib.hid (lay_tab w1 Crc.tab)
  clear hb1
  go_wp2_with (first
    | refine wpList_lay rfl rfl ?_
    | refine wpList_laid rfl _ _ rfl noughts Crc.tab rfl rfl noughts_len Crc.tab_len ?_)
  refine (ron_any w1.heap.size 0 n c w.heap.size A l Crc.tab (lay w1 Crc.tab) HT.out Crc.tab_len Crc.small_tab (by omega) (HL.out.below HB1.out) hn).mono ?_
  rintro e w2 ⟨rfl, rfl⟩
  go_wp2
  go_ret
  exact ⟨rfl, HB1.out⟩
end Go.Proofs.YtjnmckchicmmgaaGreatDoor
