/-
  The laws' Book: a mark as a text ('word'); the marks of entries.
-/
import Derived.Test.YtbbimfbkllellaaGreatDoorBkANO
import Derived.Test.YtbbimfbkllellaaGreatDoorMarks
import Derived.Test.YtbbimfbkllellaaGreatDoorLayI
import Derived.Lib.AppendIntMem
import Derived.Lib.ItoaLen
import Derived.Deep.Cut
import Derived.Deep.RegionHeld3
namespace Go.Proofs.YtbbimfbkllellaaGreatDoor
open Go.RowKit
set_option linter.unusedVariables false
set_option maxRecDepth 100000

/-- the library's table holds what its initialiser lays, in every world that leaves what lies below B -/
abbrev TabB (B : Nat) (w : World) : Prop := Lib.TabBelow Tryz.prog B w "internal/strconv.uint64pow10" .u64 Lib.pow10Tab
/-- what word tells -/
def wd (n : Nat) : ByteArray := ⟨#[35]⟩ ++ ⟨(Lib.itoa (n : Int)).toArray⟩
theorem itoa_any (n : Nat) (w : World) (hn : n ≤ 1000000) (ht : Lib.TabIs Tryz.prog w "internal/strconv.uint64pow10" .u64 Lib.pow10Tab) :
    Calls Tryz.prog 138 #[.int .i64 (n : Int)] w fun e w' => e = .returned (.string ⟨(Lib.itoa (n : Int)).toArray⟩) ∧ Below w.heap.size w w' :=
  (Any.strconv_Itoa itoa_lay (n : Int) (by omega) (by omega) w ht).mono fun e w' ⟨he, k, os, hw⟩ => ⟨he, by rw [hw]; exact Lib.below_grow _ _ (Nat.le_refl _) _ _⟩
theorem word_any (n : Nat) (w : World) (hn : n ≤ 1000000) (ht : Lib.TabIs Tryz.prog w "internal/strconv.uint64pow10" .u64 Lib.pow10Tab) :
    Calls Tryz.prog 126 #[.int .i64 (n : Int)] w fun e w' => e = .returned (.string (wd n)) ∧ Below w.heap.size w w' := by
  have H := Lib.hid (itoa_any n w hn ht)
  have hsz : (⟨(Lib.itoa (n : Int)).toArray⟩ : ByteArray).size ≤ 21 := Lib.itoa_length_le (n : Int) (by omega) (by omega)
  clear ht
  unfold wd
  obtain ⟨s, hs⟩ : ∃ s : ByteArray, (⟨(Lib.itoa (n : Int)).toArray⟩ : ByteArray) = s := ⟨_, rfl⟩
  rw [hs] at H hsz ⊢
  clear hs
  go_enter Tryz.func126, Tryz.ntmps126
  go_wp2_with fail
  refine H.out.mono ?_
  rintro e w1 ⟨rfl, hb⟩
  have HB := Lib.hid hb
  clear hb
  have hI : ¬ ((((⟨#[35]⟩ : ByteArray).size + s.size : Nat) : Int) > IntKind.i64.max) := by show ¬ (((1 + s.size : Nat) : Int) > 9223372036854775807); omega
  go_wp2
  go_ret
  exact ⟨rfl, HB.out⟩

/-- an entry of a key alone, stored -/
abbrev st4 (w : World) (g : Nat) (s : ByteArray) : World := (((w.setCell ⟨g, 0, none⟩ (.string s)).setCell ⟨g, 1, none⟩ (.int .u64 0)).setCell ⟨g, 2, none⟩ (.bool false)).setCell ⟨g, 3, none⟩ (.string ⟨#[]⟩)
/-- a mark as an entry -/
def bkE (n : Nat) : En := ⟨⟨wd n, 0, false⟩, ByteArray.empty⟩
theorem markEntry_any (n : Nat) (w : World) (hn : n ≤ 1000000) (ht : TabB w.heap.size w) :
    Calls Tryz.prog 92 #[.int .i64 (n : Int)] w fun e w' => e = .returned (bkE n).v ∧ Below w.heap.size w w' := by
  have H : Hid (∀ W, Below w.heap.size w W → Calls Tryz.prog 126 #[.int .i64 (n : Int)] W fun e w' => e = .returned (.string (wd n)) ∧ Below W.heap.size W w') := fun W hW => word_any n W hn (ht W hW)
  clear ht
  unfold bkE En.v
  obtain ⟨s, hs⟩ : ∃ s, wd n = s := ⟨_, rfl⟩
  rw [hs] at H ⊢
  clear hs
  go_enter Tryz.func92, Tryz.ntmps92
  go_wp2_with fail
  refine (H.out _ (Below.refl _ _ |>.alloc (Nat.le_refl _) _)).mono ?_
  rintro e w1 ⟨rfl, hb⟩
  have hr : w1.heap[w.heap.size]? = some (.cells #[.string ⟨#[]⟩, .int .u64 0, .bool false, .string ⟨#[]⟩] 59 (0, 0)) := (hb.block _ (by simp)).trans (heap_alloc_new w _)
  have c0 : w1.cell? ⟨w.heap.size, 0, none⟩ = some (.string ⟨#[]⟩) := cell_of_row w1 _ 0 _ _ (0, 0) hr
  have f0 : w1.frozen? ⟨w.heap.size, 0, none⟩ = false := by simp [World.frozen?, hr]
  have f1 : w1.frozen? ⟨w.heap.size, 1, none⟩ = false := by simp [World.frozen?, hr]
  have f2 : w1.frozen? ⟨w.heap.size, 2, none⟩ = false := by simp [World.frozen?, hr]
  have f3 : w1.frozen? ⟨w.heap.size, 3, none⟩ = false := by simp [World.frozen?, hr]
  have c3 : w1.cell? ⟨w.heap.size, 3, none⟩ = some (.string ⟨#[]⟩) := cell_of_row w1 _ 3 _ _ (0, 0) hr
  have c1 : w1.cell? ⟨w.heap.size, 1, none⟩ = some (.int .u64 0) := cell_of_row w1 _ 1 _ _ (0, 0) hr
  have c2 : w1.cell? ⟨w.heap.size, 2, none⟩ = some (.bool false) := cell_of_row w1 _ 2 _ _ (0, 0) hr
  have hB : Below w.heap.size w (st4 w1 w.heap.size s) := (((((((Below.refl _ w).alloc (Nat.le_refl _) _).trans (hb.mono (by simp))).setCell (p := ⟨w.heap.size, 0, none⟩) (Nat.le_refl _) _).setCell (p := ⟨w.heap.size, 1, none⟩) (Nat.le_refl _) _).setCell (p := ⟨w.heap.size, 2, none⟩) (Nat.le_refl _) _).setCell (p := ⟨w.heap.size, 3, none⟩) (Nat.le_refl _) _)
  have h2 : (st4 w1 w.heap.size s).heap[w.heap.size]? = some (.cells #[.string s, .int .u64 0, .bool false, .string ⟨#[]⟩] 59 (0, 0)) := by
    simp [st4, World.setCell, Array.getElem?_modify, hr]
  have HB := Lib.hid hB; have H2 := Lib.hid h2
  clear hb hr hB h2 H
  go_wp2
  have z0 := cell_of_row _ _ 0 _ _ (0, 0) H2.out
  have z1 := cell_of_row _ _ 1 _ _ (0, 0) H2.out
  have z2 := cell_of_row _ _ 2 _ _ (0, 0) H2.out
  have z3 := cell_of_row _ _ 3 _ _ (0, 0) H2.out
  clear H2 f0 f1 f2 f3 c0 c1 c2 c3
  change bodyPost _ _ _ _ _ (st4 w1 w.heap.size s)
  revert z0 z1 z2 z3 HB
  generalize st4 w1 w.heap.size s = W
  intro HB z0 z1 z2 z3
  exact bodyPost_ret (v := .agg #[.string s, .int .u64 0, .bool false, .string ⟨#[]⟩]) (by simp [results, Tryz.results92, go_sem, z0, z1, z2, z3]) rfl ⟨rfl, HB.out⟩

theorem isEntry_any (n : Nat) (x : En) (w : World) (hn : n ≤ 1000000) (hx : x = bkE n) (ht : TabB w.heap.size w) :
    Calls Tryz.prog 105 #[x.v, .int .i64 (n : Int)] w fun e w' => e = .returned (.bool true) ∧ Below w.heap.size w w' := by
  have H : Hid (∀ W, Below w.heap.size w W → Calls Tryz.prog 126 #[.int .i64 (n : Int)] W fun e w' => e = .returned (.string (wd n)) ∧ Below W.heap.size W w') := fun W hW => word_any n W hn (ht W hW)
  subst hx
  clear ht
  unfold bkE En.v
  obtain ⟨s, hs⟩ : ∃ s, wd n = s := ⟨_, rfl⟩
  rw [hs] at H
  rw [hs]
  clear hs
  have hee : (s.toList == s.toList) = true := by simp
  go_enter Tryz.func105, Tryz.ntmps105
  have hb0 : Below w.heap.size w (w.alloc (.cells #[.string s, .int .u64 0, .bool false, .string ByteArray.empty] 59)) := (Below.refl _ w).alloc (Nat.le_refl _) _
  have c0 : (w.alloc (.cells #[.string s, .int .u64 0, .bool false, .string ByteArray.empty] 59)).cell? ⟨w.heap.size, 0, none⟩ = some (.string s) := cell_of_row _ _ 0 _ _ (0, 0) (heap_alloc_new w _)
  have HBx := Lib.hid hb0; have HCx := Lib.hid c0
  clear hb0 c0
  go_upto_region 1 with fail
  obtain ⟨W, hW⟩ : ∃ W, w.alloc (.cells #[.string s, .int .u64 0, .bool false, .string ByteArray.empty] 59) = W := ⟨_, rfl⟩
  rw [hW] at HBx HCx ⊢
  clear hW
  have c0 := HCx.out
  have hd0 : Below w.heap.size w W.drew := ⟨HBx.out.os, HBx.out.tape, HBx.out.output, HBx.out.size, HBx.out.block⟩
  have cd : W.drew.cell? ⟨w.heap.size, 0, none⟩ = some (.string s) := c0
  go_region_held3 (fun w' => w'.cell? ⟨w.heap.size, 0, none⟩ = some (.string s)) (first | exact cd | exact cw)
    (first
      | (go_at_call 126; refine (H.out _ hd0).mono ?_; rintro x w2 ⟨rfl, hb2⟩; have cw : w2.cell? ⟨w.heap.size, 0, none⟩ = some (.string s) := (hb2.cell (World.block_lt_of_cell? W.drew _ cd)).trans cd)
      | fail)
  have HFin := Lib.hid (hd0.trans (hb2.mono hd0.size))
  clear hd0 hb2 cd cw
  go_wp2
  go_ret
  exact ⟨rfl, HFin.out⟩
end Go.Proofs.YtbbimfbkllellaaGreatDoor
