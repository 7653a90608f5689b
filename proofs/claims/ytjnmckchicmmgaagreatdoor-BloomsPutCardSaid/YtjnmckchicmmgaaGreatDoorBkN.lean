/-
  The laws' Book: kinds of lists of which it keeps none.
-/
import Derived.Test.YtjnmckchicmmgaaGreatDoorBkA
namespace Go.Proofs.YtjnmckchicmmgaaGreatDoor
open Go.RowKit
set_option linter.unusedVariables false
set_option maxRecDepth 100000

theorem fillByte_no (g : Nat) (cs : Array Value) (w : World) (hB : BkIs w g cs) (hcs : cs[1]? = some nilS) : Calls Tryz.prog 20 #[.pointer (some ⟨g, 0, none⟩)] w fun e w' => e = .returned (.tuple #[]) ∧ w = w' := by
  have hc : w.cell? ⟨g, 1, none⟩ = some (.slice none 0 0) := (hB.cell 1).trans hcs
  clear hB hcs
  go_enter Tryz.func20, Tryz.ntmps20
  go_wp2
  refine wp_loop_rounds 1 ?_
  rw [rounds_succ]
  go_wp2
  go_end0
  exact ⟨rfl, rfl⟩
theorem growByte_no (g : Nat) (cs : Array Value) (w : World) (hB : BkIs w g cs) (hcs : cs[1]? = some nilS) : Calls Tryz.prog 33 #[.pointer (some ⟨g, 0, none⟩)] w fun e w' => e = .returned (.tuple #[]) ∧ w = w' := by
  have hc : w.cell? ⟨g, 1, none⟩ = some (.slice none 0 0) := (hB.cell 1).trans hcs
  clear hB hcs
  go_enter Tryz.func33, Tryz.ntmps33
  go_wp2
  refine wp_loop_rounds 1 ?_
  rw [rounds_succ]
  go_wp2
  go_end0
  exact ⟨rfl, rfl⟩
theorem lookByte_no (g : Nat) (cs : Array Value) (w : World) (hB : BkIs w g cs) (hcs : cs[1]? = some nilS) : Calls Tryz.prog 46 #[.pointer (some ⟨g, 0, none⟩)] w fun e w' => e = .returned (.bool true) ∧ w = w' := by
  have hc : w.cell? ⟨g, 1, none⟩ = some (.slice none 0 0) := (hB.cell 1).trans hcs
  clear hB hcs
  go_enter Tryz.func46, Tryz.ntmps46
  go_wp2
  refine wp_loop_rounds 1 ?_
  rw [rounds_succ]
  go_wp2
  go_ret
  exact ⟨rfl, rfl⟩
theorem fillId_no (g : Nat) (cs : Array Value) (w : World) (hB : BkIs w g cs) (hcs : cs[2]? = some nilS) : Calls Tryz.prog 21 #[.pointer (some ⟨g, 0, none⟩)] w fun e w' => e = .returned (.tuple #[]) ∧ w = w' := by
  have hc : w.cell? ⟨g, 2, none⟩ = some (.slice none 0 0) := (hB.cell 2).trans hcs
  clear hB hcs
  go_enter Tryz.func21, Tryz.ntmps21
  go_wp2
  refine wp_loop_rounds 1 ?_
  rw [rounds_succ]
  go_wp2
  go_end0
  exact ⟨rfl, rfl⟩
theorem growId_no (g : Nat) (cs : Array Value) (w : World) (hB : BkIs w g cs) (hcs : cs[2]? = some nilS) : Calls Tryz.prog 34 #[.pointer (some ⟨g, 0, none⟩)] w fun e w' => e = .returned (.tuple #[]) ∧ w = w' := by
  have hc : w.cell? ⟨g, 2, none⟩ = some (.slice none 0 0) := (hB.cell 2).trans hcs
  clear hB hcs
  go_enter Tryz.func34, Tryz.ntmps34
  go_wp2
  refine wp_loop_rounds 1 ?_
  rw [rounds_succ]
  go_wp2
  go_end0
  exact ⟨rfl, rfl⟩
theorem lookId_no (g : Nat) (cs : Array Value) (w : World) (hB : BkIs w g cs) (hcs : cs[2]? = some nilS) : Calls Tryz.prog 47 #[.pointer (some ⟨g, 0, none⟩)] w fun e w' => e = .returned (.bool true) ∧ w = w' := by
  have hc : w.cell? ⟨g, 2, none⟩ = some (.slice none 0 0) := (hB.cell 2).trans hcs
  clear hB hcs
  go_enter Tryz.func47, Tryz.ntmps47
  go_wp2
  refine wp_loop_rounds 1 ?_
  rw [rounds_succ]
  go_wp2
  go_ret
  exact ⟨rfl, rfl⟩
theorem fillNum_no (g : Nat) (cs : Array Value) (w : World) (hB : BkIs w g cs) (hcs : cs[3]? = some nilS) : Calls Tryz.prog 22 #[.pointer (some ⟨g, 0, none⟩)] w fun e w' => e = .returned (.tuple #[]) ∧ w = w' := by
  have hc : w.cell? ⟨g, 3, none⟩ = some (.slice none 0 0) := (hB.cell 3).trans hcs
  clear hB hcs
  go_enter Tryz.func22, Tryz.ntmps22
  go_wp2
  refine wp_loop_rounds 1 ?_
  rw [rounds_succ]
  go_wp2
  go_end0
  exact ⟨rfl, rfl⟩
theorem growNum_no (g : Nat) (cs : Array Value) (w : World) (hB : BkIs w g cs) (hcs : cs[3]? = some nilS) : Calls Tryz.prog 35 #[.pointer (some ⟨g, 0, none⟩)] w fun e w' => e = .returned (.tuple #[]) ∧ w = w' := by
  have hc : w.cell? ⟨g, 3, none⟩ = some (.slice none 0 0) := (hB.cell 3).trans hcs
  clear hB hcs
  go_enter Tryz.func35, Tryz.ntmps35
  go_wp2
  refine wp_loop_rounds 1 ?_
  rw [rounds_succ]
  go_wp2
  go_end0
  exact ⟨rfl, rfl⟩
theorem lookNum_no (g : Nat) (cs : Array Value) (w : World) (hB : BkIs w g cs) (hcs : cs[3]? = some nilS) : Calls Tryz.prog 48 #[.pointer (some ⟨g, 0, none⟩)] w fun e w' => e = .returned (.bool true) ∧ w = w' := by
  have hc : w.cell? ⟨g, 3, none⟩ = some (.slice none 0 0) := (hB.cell 3).trans hcs
  clear hB hcs
  go_enter Tryz.func48, Tryz.ntmps48
  go_wp2
  refine wp_loop_rounds 1 ?_
  rw [rounds_succ]
  go_wp2
  go_ret
  exact ⟨rfl, rfl⟩
theorem fillInt_no (g : Nat) (cs : Array Value) (w : World) (hB : BkIs w g cs) (hcs : cs[4]? = some nilS) : Calls Tryz.prog 23 #[.pointer (some ⟨g, 0, none⟩)] w fun e w' => e = .returned (.tuple #[]) ∧ w = w' := by
  have hc : w.cell? ⟨g, 4, none⟩ = some (.slice none 0 0) := (hB.cell 4).trans hcs
  clear hB hcs
  go_enter Tryz.func23, Tryz.ntmps23
  go_wp2
  refine wp_loop_rounds 1 ?_
  rw [rounds_succ]
  go_wp2
  go_end0
  exact ⟨rfl, rfl⟩
theorem growInt_no (g : Nat) (cs : Array Value) (w : World) (hB : BkIs w g cs) (hcs : cs[4]? = some nilS) : Calls Tryz.prog 36 #[.pointer (some ⟨g, 0, none⟩)] w fun e w' => e = .returned (.tuple #[]) ∧ w = w' := by
  have hc : w.cell? ⟨g, 4, none⟩ = some (.slice none 0 0) := (hB.cell 4).trans hcs
  clear hB hcs
  go_enter Tryz.func36, Tryz.ntmps36
  go_wp2
  refine wp_loop_rounds 1 ?_
  rw [rounds_succ]
  go_wp2
  go_end0
  exact ⟨rfl, rfl⟩
theorem lookInt_no (g : Nat) (cs : Array Value) (w : World) (hB : BkIs w g cs) (hcs : cs[4]? = some nilS) : Calls Tryz.prog 49 #[.pointer (some ⟨g, 0, none⟩)] w fun e w' => e = .returned (.bool true) ∧ w = w' := by
  have hc : w.cell? ⟨g, 4, none⟩ = some (.slice none 0 0) := (hB.cell 4).trans hcs
  clear hB hcs
  go_enter Tryz.func49, Tryz.ntmps49
  go_wp2
  refine wp_loop_rounds 1 ?_
  rw [rounds_succ]
  go_wp2
  go_ret
  exact ⟨rfl, rfl⟩
theorem fillText_no (g : Nat) (cs : Array Value) (w : World) (hB : BkIs w g cs) (hcs : cs[5]? = some nilS) : Calls Tryz.prog 24 #[.pointer (some ⟨g, 0, none⟩)] w fun e w' => e = .returned (.tuple #[]) ∧ w = w' := by
  have hc : w.cell? ⟨g, 5, none⟩ = some (.slice none 0 0) := (hB.cell 5).trans hcs
  clear hB hcs
  go_enter Tryz.func24, Tryz.ntmps24
  go_wp2
  refine wp_loop_rounds 1 ?_
  rw [rounds_succ]
  go_wp2
  go_end0
  exact ⟨rfl, rfl⟩
theorem growText_no (g : Nat) (cs : Array Value) (w : World) (hB : BkIs w g cs) (hcs : cs[5]? = some nilS) : Calls Tryz.prog 37 #[.pointer (some ⟨g, 0, none⟩)] w fun e w' => e = .returned (.tuple #[]) ∧ w = w' := by
  have hc : w.cell? ⟨g, 5, none⟩ = some (.slice none 0 0) := (hB.cell 5).trans hcs
  clear hB hcs
  go_enter Tryz.func37, Tryz.ntmps37
  go_wp2
  refine wp_loop_rounds 1 ?_
  rw [rounds_succ]
  go_wp2
  go_end0
  exact ⟨rfl, rfl⟩
theorem lookText_no (g : Nat) (cs : Array Value) (w : World) (hB : BkIs w g cs) (hcs : cs[5]? = some nilS) : Calls Tryz.prog 50 #[.pointer (some ⟨g, 0, none⟩)] w fun e w' => e = .returned (.bool true) ∧ w = w' := by
  have hc : w.cell? ⟨g, 5, none⟩ = some (.slice none 0 0) := (hB.cell 5).trans hcs
  clear hB hcs
  go_enter Tryz.func50, Tryz.ntmps50
  go_wp2
  refine wp_loop_rounds 1 ?_
  rw [rounds_succ]
  go_wp2
  go_ret
  exact ⟨rfl, rfl⟩
theorem fillRow_no (g : Nat) (cs : Array Value) (w : World) (hB : BkIs w g cs) (hcs : cs[6]? = some nilS) : Calls Tryz.prog 25 #[.pointer (some ⟨g, 0, none⟩)] w fun e w' => e = .returned (.tuple #[]) ∧ w = w' := by
  have hc : w.cell? ⟨g, 6, none⟩ = some (.slice none 0 0) := (hB.cell 6).trans hcs
  clear hB hcs
  go_enter Tryz.func25, Tryz.ntmps25
  go_wp2
  refine wp_loop_rounds 1 ?_
  rw [rounds_succ]
  go_wp2
  go_end0
  exact ⟨rfl, rfl⟩
theorem growRow_no (g : Nat) (cs : Array Value) (w : World) (hB : BkIs w g cs) (hcs : cs[6]? = some nilS) : Calls Tryz.prog 38 #[.pointer (some ⟨g, 0, none⟩)] w fun e w' => e = .returned (.tuple #[]) ∧ w = w' := by
  have hc : w.cell? ⟨g, 6, none⟩ = some (.slice none 0 0) := (hB.cell 6).trans hcs
  clear hB hcs
  go_enter Tryz.func38, Tryz.ntmps38
  go_wp2
  refine wp_loop_rounds 1 ?_
  rw [rounds_succ]
  go_wp2
  go_end0
  exact ⟨rfl, rfl⟩
theorem lookRow_no (g : Nat) (cs : Array Value) (w : World) (hB : BkIs w g cs) (hcs : cs[6]? = some nilS) : Calls Tryz.prog 51 #[.pointer (some ⟨g, 0, none⟩)] w fun e w' => e = .returned (.bool true) ∧ w = w' := by
  have hc : w.cell? ⟨g, 6, none⟩ = some (.slice none 0 0) := (hB.cell 6).trans hcs
  clear hB hcs
  go_enter Tryz.func51, Tryz.ntmps51
  go_wp2
  refine wp_loop_rounds 1 ?_
  rw [rounds_succ]
  go_wp2
  go_ret
  exact ⟨rfl, rfl⟩
theorem fillChange_no (g : Nat) (cs : Array Value) (w : World) (hB : BkIs w g cs) (hcs : cs[7]? = some nilS) : Calls Tryz.prog 26 #[.pointer (some ⟨g, 0, none⟩)] w fun e w' => e = .returned (.tuple #[]) ∧ w = w' := by
  have hc : w.cell? ⟨g, 7, none⟩ = some (.slice none 0 0) := (hB.cell 7).trans hcs
  clear hB hcs
  go_enter Tryz.func26, Tryz.ntmps26
  go_wp2
  refine wp_loop_rounds 1 ?_
  rw [rounds_succ]
  go_wp2
  go_end0
  exact ⟨rfl, rfl⟩
theorem growChange_no (g : Nat) (cs : Array Value) (w : World) (hB : BkIs w g cs) (hcs : cs[7]? = some nilS) : Calls Tryz.prog 39 #[.pointer (some ⟨g, 0, none⟩)] w fun e w' => e = .returned (.tuple #[]) ∧ w = w' := by
  have hc : w.cell? ⟨g, 7, none⟩ = some (.slice none 0 0) := (hB.cell 7).trans hcs
  clear hB hcs
  go_enter Tryz.func39, Tryz.ntmps39
  go_wp2
  refine wp_loop_rounds 1 ?_
  rw [rounds_succ]
  go_wp2
  go_end0
  exact ⟨rfl, rfl⟩
theorem lookChange_no (g : Nat) (cs : Array Value) (w : World) (hB : BkIs w g cs) (hcs : cs[7]? = some nilS) : Calls Tryz.prog 52 #[.pointer (some ⟨g, 0, none⟩)] w fun e w' => e = .returned (.bool true) ∧ w = w' := by
  have hc : w.cell? ⟨g, 7, none⟩ = some (.slice none 0 0) := (hB.cell 7).trans hcs
  clear hB hcs
  go_enter Tryz.func52, Tryz.ntmps52
  go_wp2
  refine wp_loop_rounds 1 ?_
  rw [rounds_succ]
  go_wp2
  go_ret
  exact ⟨rfl, rfl⟩
theorem fillEntry_no (g : Nat) (cs : Array Value) (w : World) (hB : BkIs w g cs) (hcs : cs[8]? = some nilS) : Calls Tryz.prog 27 #[.pointer (some ⟨g, 0, none⟩)] w fun e w' => e = .returned (.tuple #[]) ∧ w = w' := by
  have hc : w.cell? ⟨g, 8, none⟩ = some (.slice none 0 0) := (hB.cell 8).trans hcs
  clear hB hcs
  go_enter Tryz.func27, Tryz.ntmps27
  go_wp2
  refine wp_loop_rounds 1 ?_
  rw [rounds_succ]
  go_wp2
  go_end0
  exact ⟨rfl, rfl⟩
theorem growEntry_no (g : Nat) (cs : Array Value) (w : World) (hB : BkIs w g cs) (hcs : cs[8]? = some nilS) : Calls Tryz.prog 40 #[.pointer (some ⟨g, 0, none⟩)] w fun e w' => e = .returned (.tuple #[]) ∧ w = w' := by
  have hc : w.cell? ⟨g, 8, none⟩ = some (.slice none 0 0) := (hB.cell 8).trans hcs
  clear hB hcs
  go_enter Tryz.func40, Tryz.ntmps40
  go_wp2
  refine wp_loop_rounds 1 ?_
  rw [rounds_succ]
  go_wp2
  go_end0
  exact ⟨rfl, rfl⟩
theorem lookEntry_no (g : Nat) (cs : Array Value) (w : World) (hB : BkIs w g cs) (hcs : cs[8]? = some nilS) : Calls Tryz.prog 53 #[.pointer (some ⟨g, 0, none⟩)] w fun e w' => e = .returned (.bool true) ∧ w = w' := by
  have hc : w.cell? ⟨g, 8, none⟩ = some (.slice none 0 0) := (hB.cell 8).trans hcs
  clear hB hcs
  go_enter Tryz.func53, Tryz.ntmps53
  go_wp2
  refine wp_loop_rounds 1 ?_
  rw [rounds_succ]
  go_wp2
  go_ret
  exact ⟨rfl, rfl⟩
theorem fillFile_no (g : Nat) (cs : Array Value) (w : World) (hB : BkIs w g cs) (hcs : cs[9]? = some nilS) : Calls Tryz.prog 28 #[.pointer (some ⟨g, 0, none⟩)] w fun e w' => e = .returned (.tuple #[]) ∧ w = w' := by
  have hc : w.cell? ⟨g, 9, none⟩ = some (.slice none 0 0) := (hB.cell 9).trans hcs
  clear hB hcs
  go_enter Tryz.func28, Tryz.ntmps28
  go_wp2
  refine wp_loop_rounds 1 ?_
  rw [rounds_succ]
  go_wp2
  go_end0
  exact ⟨rfl, rfl⟩
theorem growFile_no (g : Nat) (cs : Array Value) (w : World) (hB : BkIs w g cs) (hcs : cs[9]? = some nilS) : Calls Tryz.prog 41 #[.pointer (some ⟨g, 0, none⟩)] w fun e w' => e = .returned (.tuple #[]) ∧ w = w' := by
  have hc : w.cell? ⟨g, 9, none⟩ = some (.slice none 0 0) := (hB.cell 9).trans hcs
  clear hB hcs
  go_enter Tryz.func41, Tryz.ntmps41
  go_wp2
  refine wp_loop_rounds 1 ?_
  rw [rounds_succ]
  go_wp2
  go_end0
  exact ⟨rfl, rfl⟩
theorem lookFile_no (g : Nat) (cs : Array Value) (w : World) (hB : BkIs w g cs) (hcs : cs[9]? = some nilS) : Calls Tryz.prog 54 #[.pointer (some ⟨g, 0, none⟩)] w fun e w' => e = .returned (.bool true) ∧ w = w' := by
  have hc : w.cell? ⟨g, 9, none⟩ = some (.slice none 0 0) := (hB.cell 9).trans hcs
  clear hB hcs
  go_enter Tryz.func54, Tryz.ntmps54
  go_wp2
  refine wp_loop_rounds 1 ?_
  rw [rounds_succ]
  go_wp2
  go_ret
  exact ⟨rfl, rfl⟩
theorem fillItem_no (g : Nat) (cs : Array Value) (w : World) (hB : BkIs w g cs) (hcs : cs[10]? = some nilS) : Calls Tryz.prog 29 #[.pointer (some ⟨g, 0, none⟩)] w fun e w' => e = .returned (.tuple #[]) ∧ w = w' := by
  have hc : w.cell? ⟨g, 10, none⟩ = some (.slice none 0 0) := (hB.cell 10).trans hcs
  clear hB hcs
  go_enter Tryz.func29, Tryz.ntmps29
  go_wp2
  refine wp_loop_rounds 1 ?_
  rw [rounds_succ]
  go_wp2
  go_end0
  exact ⟨rfl, rfl⟩
theorem growItem_no (g : Nat) (cs : Array Value) (w : World) (hB : BkIs w g cs) (hcs : cs[10]? = some nilS) : Calls Tryz.prog 42 #[.pointer (some ⟨g, 0, none⟩)] w fun e w' => e = .returned (.tuple #[]) ∧ w = w' := by
  have hc : w.cell? ⟨g, 10, none⟩ = some (.slice none 0 0) := (hB.cell 10).trans hcs
  clear hB hcs
  go_enter Tryz.func42, Tryz.ntmps42
  go_wp2
  refine wp_loop_rounds 1 ?_
  rw [rounds_succ]
  go_wp2
  go_end0
  exact ⟨rfl, rfl⟩
theorem lookItem_no (g : Nat) (cs : Array Value) (w : World) (hB : BkIs w g cs) (hcs : cs[10]? = some nilS) : Calls Tryz.prog 55 #[.pointer (some ⟨g, 0, none⟩)] w fun e w' => e = .returned (.bool true) ∧ w = w' := by
  have hc : w.cell? ⟨g, 10, none⟩ = some (.slice none 0 0) := (hB.cell 10).trans hcs
  clear hB hcs
  go_enter Tryz.func55, Tryz.ntmps55
  go_wp2
  refine wp_loop_rounds 1 ?_
  rw [rounds_succ]
  go_wp2
  go_ret
  exact ⟨rfl, rfl⟩
theorem fillSaid_no (g : Nat) (cs : Array Value) (w : World) (hB : BkIs w g cs) (hcs : cs[11]? = some nilS) : Calls Tryz.prog 30 #[.pointer (some ⟨g, 0, none⟩)] w fun e w' => e = .returned (.tuple #[]) ∧ w = w' := by
  have hc : w.cell? ⟨g, 11, none⟩ = some (.slice none 0 0) := (hB.cell 11).trans hcs
  clear hB hcs
  go_enter Tryz.func30, Tryz.ntmps30
  go_wp2
  refine wp_loop_rounds 1 ?_
  rw [rounds_succ]
  go_wp2
  go_end0
  exact ⟨rfl, rfl⟩
theorem growSaid_no (g : Nat) (cs : Array Value) (w : World) (hB : BkIs w g cs) (hcs : cs[11]? = some nilS) : Calls Tryz.prog 43 #[.pointer (some ⟨g, 0, none⟩)] w fun e w' => e = .returned (.tuple #[]) ∧ w = w' := by
  have hc : w.cell? ⟨g, 11, none⟩ = some (.slice none 0 0) := (hB.cell 11).trans hcs
  clear hB hcs
  go_enter Tryz.func43, Tryz.ntmps43
  go_wp2
  refine wp_loop_rounds 1 ?_
  rw [rounds_succ]
  go_wp2
  go_end0
  exact ⟨rfl, rfl⟩
theorem lookSaid_no (g : Nat) (cs : Array Value) (w : World) (hB : BkIs w g cs) (hcs : cs[11]? = some nilS) : Calls Tryz.prog 56 #[.pointer (some ⟨g, 0, none⟩)] w fun e w' => e = .returned (.bool true) ∧ w = w' := by
  have hc : w.cell? ⟨g, 11, none⟩ = some (.slice none 0 0) := (hB.cell 11).trans hcs
  clear hB hcs
  go_enter Tryz.func56, Tryz.ntmps56
  go_wp2
  refine wp_loop_rounds 1 ?_
  rw [rounds_succ]
  go_wp2
  go_ret
  exact ⟨rfl, rfl⟩
theorem fillMsg_no (g : Nat) (cs : Array Value) (w : World) (hB : BkIs w g cs) (hcs : cs[12]? = some nilS) : Calls Tryz.prog 31 #[.pointer (some ⟨g, 0, none⟩)] w fun e w' => e = .returned (.tuple #[]) ∧ w = w' := by
  have hc : w.cell? ⟨g, 12, none⟩ = some (.slice none 0 0) := (hB.cell 12).trans hcs
  clear hB hcs
  go_enter Tryz.func31, Tryz.ntmps31
  go_wp2
  refine wp_loop_rounds 1 ?_
  rw [rounds_succ]
  go_wp2
  go_end0
  exact ⟨rfl, rfl⟩
theorem growMsg_no (g : Nat) (cs : Array Value) (w : World) (hB : BkIs w g cs) (hcs : cs[12]? = some nilS) : Calls Tryz.prog 44 #[.pointer (some ⟨g, 0, none⟩)] w fun e w' => e = .returned (.tuple #[]) ∧ w = w' := by
  have hc : w.cell? ⟨g, 12, none⟩ = some (.slice none 0 0) := (hB.cell 12).trans hcs
  clear hB hcs
  go_enter Tryz.func44, Tryz.ntmps44
  go_wp2
  refine wp_loop_rounds 1 ?_
  rw [rounds_succ]
  go_wp2
  go_end0
  exact ⟨rfl, rfl⟩
theorem lookMsg_no (g : Nat) (cs : Array Value) (w : World) (hB : BkIs w g cs) (hcs : cs[12]? = some nilS) : Calls Tryz.prog 57 #[.pointer (some ⟨g, 0, none⟩)] w fun e w' => e = .returned (.bool true) ∧ w = w' := by
  have hc : w.cell? ⟨g, 12, none⟩ = some (.slice none 0 0) := (hB.cell 12).trans hcs
  clear hB hcs
  go_enter Tryz.func57, Tryz.ntmps57
  go_wp2
  refine wp_loop_rounds 1 ?_
  rw [rounds_succ]
  go_wp2
  go_ret
  exact ⟨rfl, rfl⟩
theorem fillEvent_no (g : Nat) (cs : Array Value) (w : World) (hB : BkIs w g cs) (hcs : cs[13]? = some nilS) : Calls Tryz.prog 32 #[.pointer (some ⟨g, 0, none⟩)] w fun e w' => e = .returned (.tuple #[]) ∧ w = w' := by
  have hc : w.cell? ⟨g, 13, none⟩ = some (.slice none 0 0) := (hB.cell 13).trans hcs
  clear hB hcs
  go_enter Tryz.func32, Tryz.ntmps32
  go_wp2
  refine wp_loop_rounds 1 ?_
  rw [rounds_succ]
  go_wp2
  go_end0
  exact ⟨rfl, rfl⟩
theorem growEvent_no (g : Nat) (cs : Array Value) (w : World) (hB : BkIs w g cs) (hcs : cs[13]? = some nilS) : Calls Tryz.prog 45 #[.pointer (some ⟨g, 0, none⟩)] w fun e w' => e = .returned (.tuple #[]) ∧ w = w' := by
  have hc : w.cell? ⟨g, 13, none⟩ = some (.slice none 0 0) := (hB.cell 13).trans hcs
  clear hB hcs
  go_enter Tryz.func45, Tryz.ntmps45
  go_wp2
  refine wp_loop_rounds 1 ?_
  rw [rounds_succ]
  go_wp2
  go_end0
  exact ⟨rfl, rfl⟩
theorem lookEvent_no (g : Nat) (cs : Array Value) (w : World) (hB : BkIs w g cs) (hcs : cs[13]? = some nilS) : Calls Tryz.prog 58 #[.pointer (some ⟨g, 0, none⟩)] w fun e w' => e = .returned (.bool true) ∧ w = w' := by
  have hc : w.cell? ⟨g, 13, none⟩ = some (.slice none 0 0) := (hB.cell 13).trans hcs
  clear hB hcs
  go_enter Tryz.func58, Tryz.ntmps58
  go_wp2
  refine wp_loop_rounds 1 ?_
  rw [rounds_succ]
  go_wp2
  go_ret
  exact ⟨rfl, rfl⟩
end Go.Proofs.YtjnmckchicmmgaaGreatDoor
