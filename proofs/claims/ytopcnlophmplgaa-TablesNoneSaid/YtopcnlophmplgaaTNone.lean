/-
  What the methods of package tables answer for a table that is not there, or that no call made.
-/
import Derived.Test.YtopcnlophmplgaaTabG
namespace Go.Proofs.Ytopcnlophmplgaa
open Go.RowKit
set_option linter.unusedVariables false
set_option maxRecDepth 100000

def TNo (w : World) (p : Option Addr) : Prop := p = none ∨ ∃ b, p = some ⟨b, 0, none⟩ ∧ w.cell? ⟨b, 0, none⟩ = some (.pointer none)
theorem TNo.below {w w' : World} {p : Option Addr} (h : TNo w p) (hb : Below w.heap.size w w') : TNo w' p := by
  rcases h with h | ⟨b, h, hc⟩
  · exact .inl h
  · refine .inr ⟨b, h, ?_⟩
    have hlt : b < w.heap.size := by
      rcases Nat.lt_or_ge b w.heap.size with q | q
      · exact q
      · rw [World.cell?, Array.getElem?_eq_none q] at hc; cases hc
    rw [World.cell?, hb.block b hlt]; exact hc
section
variable {p : Option Addr} {w : World} (h : TNo w p)
include h
theorem exists_tno : Calls Try.prog 53 #[.pointer p] w fun e w' => e = .returned (.bool false) ∧ w = w' := by
  rcases h with rfl | ⟨b, rfl, hc⟩
  · exact exists_nil w
  · exact exists_no b w hc
theorem len_tno : Calls Try.prog 25 #[.pointer p] w fun e w' => e = .returned (.int .i64 0) ∧ w = w' := by
  have HE := Lib.hid (exists_tno h)
  clear h
  go_enter Try.func25, Try.ntmps25
  go_wp2_with fail
  refine HE.out.mono ?_
  rintro e w1 ⟨rfl, hw⟩
  obtain rfl := hw
  go_wp2
  go_ret
  exact ⟨rfl, rfl⟩
theorem bytes_tno : Calls Try.prog 24 #[.pointer p] w fun e w' => e = .returned (.int .i64 0) ∧ w = w' := by
  have HE := Lib.hid (exists_tno h)
  clear h
  go_enter Try.func24, Try.ntmps24
  go_wp2_with fail
  refine HE.out.mono ?_
  rintro e w1 ⟨rfl, hw⟩
  obtain rfl := hw
  go_wp2
  go_ret
  exact ⟨rfl, rfl⟩
theorem put_tno (x : En) (k : Int) : Calls Try.prog 22 #[.pointer p, x.v, .int .i64 k] w fun e w' => e = .returned (te 2) ∧ Below w.heap.size w w' := by
  obtain ⟨b0, b1, b2, b3, hB, hz⟩ := enW_facts w x
  obtain ⟨W, hW⟩ : ∃ W, w.alloc (Obj.cells #[.string x.m.k, .int .u64 (x.m.s : Int), .bool x.m.g, .string x.x] 48) = W := ⟨_, rfl⟩
  rw [show enW w x = W from hW] at hB
  have HE := Lib.hid (exists_tno (h.below hB))
  have HB := Lib.hid hB
  clear h b0 b1 b2 b3 hB hz
  unfold En.v
  go_enter Try.func22, Try.ntmps22
  go_wp2_with fail
  clear hW
  refine HE.out.mono ?_
  rintro e w1 ⟨rfl, hw⟩
  obtain rfl := hw
  go_wp2
  go_ret
  exact ⟨rfl, HB.out⟩
theorem from_tno (m : Mk) : Calls Try.prog 52 #[.pointer p, m.v] w fun e w' => e = .returned (.pointer none) ∧ Below w.heap.size w w' := by
  obtain ⟨b0, b1, b2, hB, hz⟩ := mkW_facts w m
  obtain ⟨W, hW⟩ : ∃ W, w.alloc (.cells #[.string m.k, .int .u64 (m.s : Int), .bool m.g] 46) = W := ⟨_, rfl⟩
  rw [show mkW w m = W from hW] at hB
  have HE := Lib.hid (exists_tno (h.below hB))
  have HB := Lib.hid hB
  clear h b0 b1 b2 hB hz
  unfold Mk.v
  go_enter Try.func52, Try.ntmps52
  go_wp2_with fail
  clear hW
  refine HE.out.mono ?_
  rintro e w1 ⟨rfl, hw⟩
  obtain rfl := hw
  go_wp2
  go_ret
  exact ⟨rfl, HB.out⟩
theorem list_tno (m : Mk) (k : Int) : Calls Try.prog 23 #[.pointer p, m.v, .int .i64 k] w fun e w' => e = .returned (.slice none 0 0) ∧ Below w.heap.size w w' := by
  obtain ⟨b0, b1, b2, hB, hz⟩ := mkW_facts w m
  obtain ⟨W, hW⟩ : ∃ W, w.alloc (.cells #[.string m.k, .int .u64 (m.s : Int), .bool m.g] 46) = W := ⟨_, rfl⟩
  rw [show mkW w m = W from hW] at hB b0 b1 b2
  have HE := Lib.hid (from_tno (h.below hB) m)
  have HB := Lib.hid hB
  clear h hB hz
  unfold Mk.v at HE ⊢
  go_enter Try.func23, Try.ntmps23
  go_wp2_with fail
  clear hW
  refine HE.out.mono ?_
  rintro e w1 ⟨rfl, hb⟩
  have HB := Lib.hid (HB.out.trans (hb.mono HB.out.size))
  clear hb
  go_wp2
  go_loopg [7, 8] 0 (fun k v n wr => v = .slice none 0 0 ∧ n = .pointer none ∧ wr = w1)
  case atStart => exact ⟨rfl, rfl, rfl⟩
  case round =>
    obtain ⟨rfl, rfl, rfl⟩ := hrel
    go_wp2
    go_ret
    exact ⟨rfl, HB.out⟩
theorem get_tno (k : ByteArray) (s : Nat) : Calls Try.prog 21 #[.pointer p, .string k, .int .u64 (s : Int)] w fun e w' => e = .returned (okE none) ∧ Below w.heap.size w w' := by
  obtain ⟨b0, b1, b2, b3, hB, hz⟩ := enW_facts w zeroE
  obtain ⟨W, hW⟩ : ∃ W, w.alloc (Obj.cells #[Value.string ⟨#[]⟩, Value.int IntKind.u64 0, Value.bool false, Value.string ⟨#[]⟩] 48) = W := ⟨_, rfl⟩
  rw [show enW w zeroE = W from hW] at hB hz
  have HF2 : Hid (Calls Try.prog 52 #[.pointer p, .agg #[.string k, .int .u64 (s : Int), .bool true]] W fun e w' => e = .returned (.pointer none) ∧ Below W.heap.size W w') := from_tno (h.below hB) ⟨k, s, true⟩
  have HB := Lib.hid hB
  have HZ : Hid (w.heap.size < W.heap.size) := by unfold Hid; omega
  have HBX : Hid (W.heap[w.heap.size]? = some (.cells #[Value.string ⟨#[]⟩, Value.int IntKind.u64 0, Value.bool false, Value.string ⟨#[]⟩] 48 (0, 0))) := by
    unfold Hid; rw [← hW]; exact heap_alloc_new w _
  clear h hB b0 b1 b2 b3 hz
  go_enter Try.func21, Try.ntmps21
  go_wp2_with fail
  refine HF2.out.mono ?_
  rintro e w2 ⟨rfl, hb⟩
  have hbx := (hb.block _ HZ.out).trans HBX.out
  have z0 : w2.cell? ⟨w.heap.size, 0, none⟩ = some (.string ⟨#[]⟩) := cell_of_row w2 _ 0 _ _ (0, 0) hbx
  have z1 : w2.cell? ⟨w.heap.size, 1, none⟩ = some (.int .u64 0) := cell_of_row w2 _ 1 _ _ (0, 0) hbx
  have z2 : w2.cell? ⟨w.heap.size, 2, none⟩ = some (.bool false) := cell_of_row w2 _ 2 _ _ (0, 0) hbx
  have z3 : w2.cell? ⟨w.heap.size, 3, none⟩ = some (.string ⟨#[]⟩) := cell_of_row w2 _ 3 _ _ (0, 0) hbx
  have f0 : w2.frozen? ⟨w.heap.size, 0, none⟩ = false := by simp [World.frozen?, hbx]
  have f1 : w2.frozen? ⟨w.heap.size, 1, none⟩ = false := by simp [World.frozen?, hbx]
  have f2 : w2.frozen? ⟨w.heap.size, 2, none⟩ = false := by simp [World.frozen?, hbx]
  have f3 : w2.frozen? ⟨w.heap.size, 3, none⟩ = false := by simp [World.frozen?, hbx]
  have HF := Lib.hid (four_set hbx (HB.out.trans (hb.mono HB.out.size)) (Nat.le_refl _) (.string ⟨#[]⟩) (.int .u64 0) (.bool false) (.string ⟨#[]⟩))
  clear hb hbx hW
  go_wp2
  clear z0 z1 z2 z3 f0 f1 f2 f3
  generalize (((w2.setCell ⟨w.heap.size, 0, none⟩ (.string ⟨#[]⟩)).setCell ⟨w.heap.size, 1, none⟩ (.int .u64 0)).setCell ⟨w.heap.size, 2, none⟩ (.bool false)).setCell ⟨w.heap.size, 3, none⟩ (.string ⟨#[]⟩) = WF at *
  obtain ⟨hf, hbf⟩ := HF.out
  have z0 : WF.cell? ⟨w.heap.size, 0, none⟩ = some (.string ⟨#[]⟩) := cell_of_row WF _ 0 _ _ (0, 0) hf
  have z1 : WF.cell? ⟨w.heap.size, 1, none⟩ = some (.int .u64 0) := cell_of_row WF _ 1 _ _ (0, 0) hf
  have z2 : WF.cell? ⟨w.heap.size, 2, none⟩ = some (.bool false) := cell_of_row WF _ 2 _ _ (0, 0) hf
  have z3 : WF.cell? ⟨w.heap.size, 3, none⟩ = some (.string ⟨#[]⟩) := cell_of_row WF _ 3 _ _ (0, 0) hf
  exact bodyPost_ret (v := .tuple #[.agg #[.string ⟨#[]⟩, .int .u64 0, .bool false, .string ⟨#[]⟩], .bool false]) (by simp [results, Try.results21, go_sem, z0, z1, z2, z3]) rfl ⟨rfl, hbf⟩
end
end Go.Proofs.Ytopcnlophmplgaa
