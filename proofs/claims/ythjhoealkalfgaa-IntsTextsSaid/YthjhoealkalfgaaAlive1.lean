/-
  Contract of layer 1's 'alive': some answers that the document fixes.
-/
import Derived.Test.YthjhoealkalfgaaIntsE
import Derived.Lib.SlBytesConst
namespace Go.Proofs.Ythjhoealkalfgaa
open Go.RowKit
set_option linter.unusedVariables false

theorem lit_lies (w : World) (l : List UInt8) : Lies (w.alloc (.cells (l.map bv).toArray 5)) (w.alloc (.cells (l.map bv).toArray 5)).heap.size 1 (some ⟨w.heap.size, 0, none⟩) l.length (l.map bv) := by
  have h := lits_lie (w := w) rfl (l.map bv) 5
  simp at h ⊢
  exact h
theorem lit_below (w : World) (o : Obj) {w' : World} (h : Below (w.alloc o).heap.size (w.alloc o) w') : Below w.heap.size w w' :=
  ((Below.refl _ _).alloc (Nat.le_refl _) o).trans (h.mono (by simp))
theorem get_lit (l : List UInt8) (w : World) (a b c : Nat) (hr : Vi.get l = (a, b, c)) (hl : l.length ≤ 1000) :
    Calls Try.prog 14 #[.slice (some ⟨w.heap.size, 0, none⟩) l.length l.length] (w.alloc (.cells (l.map bv).toArray 5)) fun e w' => e = .returned (.tuple #[.int .u64 (a : Int), .int .i64 (b : Int), .int .i64 (c : Int)]) ∧ Below w.heap.size w w' := by
  have h := get_any _ _ l.length l _ (lit_lies w l) (Nat.le_refl _) (by unfold maxLen; omega)
  rw [hr] at h
  exact h.mono fun e w' ⟨he, hb⟩ => ⟨he, lit_below _ _ hb⟩
theorem lit_lies_fz (w : World) (l : List UInt8) (fz : Nat × Nat) : Lies (w.alloc (.cells (l.map bv).toArray 5 fz)) (w.alloc (.cells (l.map bv).toArray 5 fz)).heap.size 1 (some ⟨w.heap.size, 0, none⟩) l.length (l.map bv) := by
  refine ⟨by simp, fun j hj => ⟨_, (l.map bv)[j], rfl, by simp, List.getElem?_eq_getElem hj, ?_⟩⟩
  rw [add_lit]
  have h : (w.alloc (.cells (l.map bv).toArray 5 fz)).heap[w.heap.size]? = some (.cells (l.map bv).toArray 5 fz) := heap_alloc_new w _
  rw [Nat.zero_add, cell_of_row _ w.heap.size j (l.map bv).toArray 5 fz h, List.getElem?_toArray]
  exact List.getElem?_eq_getElem hj
theorem getText_lit (l : List UInt8) (w : World) (fz : Nat × Nat) (a : List UInt8) (b c : Nat) (hr : getText l = (a, b, c)) (hl : l.length ≤ 1000) :
    Calls Try.prog 18 #[.slice (some ⟨w.heap.size, 0, none⟩) l.length l.length] (w.alloc (.cells (l.map bv).toArray 5 fz)) fun e w' => e = .returned (.tuple #[.string ⟨a.toArray⟩, .int .i64 (b : Int), .int .i64 (c : Int)]) ∧ Below w.heap.size w w' := by
  have h := getText_any _ _ l.length l _ (lit_lies_fz w l fz) (Nat.le_refl _) (by unfold maxLen; omega)
  rw [hr] at h
  exact h.mono fun e w' ⟨he, hb⟩ => ⟨he, lit_below _ _ hb⟩
theorem getFour_lit (l : List UInt8) (w : World) (a b : Nat) (hr : getFour l = (a, b)) (hl : l.length ≤ 1000) :
    Calls Try.prog 16 #[.slice (some ⟨w.heap.size, 0, none⟩) l.length l.length] (w.alloc (.cells (l.map bv).toArray 5)) fun e w' => e = .returned (.tuple #[.int .u32 (a : Int), .int .i64 (b : Int)]) ∧ Below w.heap.size w w' := by
  have h := getFour_any _ _ l.length l _ (lit_lies w l) (Nat.le_refl _) (by omega)
  rw [hr] at h
  exact h.mono fun e w' ⟨he, hb⟩ => ⟨he, lit_below _ _ hb⟩

/-- a slice that is answered, and what string it makes -/
def Makes (P : Program) (w : World) (n : Nat) (r : List UInt8) (e : Ending) (w' : World) : Prop :=
  ∃ A c, e = .returned (.slice A n c) ∧ (convert 22 9 (.slice A n c)).run P w' = .ok (.string ⟨r.toArray⟩) w' ∧ Below w.heap.size w w'
theorem makes_of {w w1 w' : World} {v : Value} {n : Nat} {r : List UInt8} (h : w'.ownsRow w1.heap.size 5 1 v n (r.map bv)) (hb : Below w.heap.size w w') : Makes Try.prog w n r (.returned v) w' := by
  obtain ⟨A, c, rfl, _⟩ := own_shape h
  exact ⟨A, c, rfl, run_str w' _ _ 5 Try.underlying22 Try.underlying5 Try.underlying9 c (Lies.of_own h), hb⟩

theorem put_lit (w : World) : Calls Try.prog 22 #[.slice (some ⟨w.heap.size, 0, none⟩) 1 1, .int .u64 128] (w.alloc (.cells #[.int .u8 9] 5)) fun e w' => Makes Try.prog w 3 [9, 128, 1] e w' := by
  have h := put_any _ _ 1 128 [9] _ (lit_lies w [9]) (by decide) (by decide)
  refine h.mono fun e w' ⟨v, he, hown, hb⟩ => ?_
  subst he
  exact makes_of (r := [9, 128, 1]) hown (lit_below _ _ hb)
theorem putFour_lit (w : World) : Calls Try.prog 25 #[.slice (some ⟨w.heap.size, 0, none⟩) 1 1, .int .u32 258] (w.alloc (.cells #[.int .u8 7] 5)) fun e w' => Makes Try.prog w 5 [7, 0, 0, 1, 2] e w' := by
  have h := putFour_any _ _ 1 258 [7] _ (lit_lies w [7]) (by decide) (by decide)
  refine h.mono fun e w' ⟨v, he, hown, hb⟩ => ?_
  subst he
  exact makes_of (r := [7, 0, 0, 1, 2]) hown (lit_below _ _ hb)
theorem putText_lit (w : World) : Calls Try.prog 24 #[.slice none 0 0, .string ⟨#[97, 98]⟩] w fun e w' => Makes Try.prog w 3 [2, 97, 98] e w' := by
  have h := putText_any none 0 0 ⟨#[97, 98]⟩ [] w (Lies.none_ _ _ _ _) (by decide)
  refine h.mono fun e w' ⟨v, he, hown, hb⟩ => ?_
  subst he
  exact makes_of (r := [2, 97, 98]) hown hb

set_option maxHeartbeats 2000000 in
theorem alive_any (w : World) : Calls Try.prog 21 #[] w fun e w' => e = .returned (.bool true) ∧ Below w.heap.size w w' := by
  have G1 := fun W => Lib.hid (get_lit [172, 2, 7] W 300 2 0 (by decide) (by decide))
  have G2 := fun W => Lib.hid (get_lit [128] W 0 0 5 (by decide) (by decide))
  have G3 := fun W => Lib.hid (get_lit [128, 0] W 0 0 4 (by decide) (by decide))
  have G4 := fun W => Lib.hid (getFour_lit [0, 0, 1, 2, 9] W 258 0 (by decide) (by decide))
  have G5 := fun W => Lib.hid (getText_lit [2, 97, 98, 99] W (4, 5) [97, 98] 3 0 (by decide) (by decide))
  have G6 := fun W => Lib.hid (getText_lit [3, 97, 98] W (3, 4) [] 0 5 (by decide) (by decide))
  have kc := fun (w : World) (C : Array Value) (n c : Nat) => Lib.run_convert_bytes_const (P := Try.prog) w 22 5 C n c Try.underlying22 Try.underlying5
  go_enter Try.func21, Try.ntmps21
  go_wp2_with fail
  refine (G1 w).out.mono ?_
  rintro e w1 ⟨rfl, hb1⟩
  go_wp2_with fail
  refine (G2 w1).out.mono ?_
  rintro e w2 ⟨rfl, hb2⟩
  go_wp2_with fail
  refine (G3 w2).out.mono ?_
  rintro e w3 ⟨rfl, hb3⟩
  go_wp2_with fail
  refine (G4 w3).out.mono ?_
  rintro e w4 ⟨rfl, hb4⟩
  go_wp2_with fail
  refine (G5 w4).out.mono ?_
  rintro e w5 ⟨rfl, hb5⟩
  go_wp2_with fail
  refine (G6 w5).out.mono ?_
  rintro e w6 ⟨rfl, hb6⟩
  have HB := Lib.hid (hb1.trans ((hb2.mono hb1.size).trans ((hb3.mono (Nat.le_trans hb1.size hb2.size)).trans ((hb4.mono (Nat.le_trans hb1.size (Nat.le_trans hb2.size hb3.size))).trans ((hb5.mono (Nat.le_trans hb1.size (Nat.le_trans hb2.size (Nat.le_trans hb3.size hb4.size)))).trans (hb6.mono (Nat.le_trans hb1.size (Nat.le_trans hb2.size (Nat.le_trans hb3.size (Nat.le_trans hb4.size hb5.size))))))))))
  clear hb1 hb2 hb3 hb4 hb5 hb6 G1 G2 G3 G4 G5 G6
  go_wp2_with fail
  refine (put_lit w6).mono ?_
  rintro e w7 ⟨A7, c7, rfl, hs7, hb7⟩
  have HB7 := Lib.hid (HB.out.trans (hb7.mono HB.out.size))
  clear hb7 HB
  go_wp2_with fail
  refine (putFour_lit w7).mono ?_
  rintro e w8 ⟨A8, c8, rfl, hs8, hb8⟩
  have HB8 := Lib.hid (HB7.out.trans (hb8.mono HB7.out.size))
  clear hb8 HB7 hs7
  go_wp2_with fail
  refine (putText_lit w8).mono ?_
  rintro e w9 ⟨A9, c9, rfl, hs9, hb9⟩
  have HB9 := Lib.hid (HB8.out.trans (hb9.mono HB8.out.size))
  clear hb9 HB8 hs8
  go_wp2
  go_ret
  exact ⟨rfl, HB9.out⟩
end Go.Proofs.Ythjhoealkalfgaa
