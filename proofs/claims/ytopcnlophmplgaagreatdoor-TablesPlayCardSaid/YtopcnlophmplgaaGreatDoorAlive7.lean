/-
  bucketlinelaw07's alive answers true.
-/
import Derived.Test.YtopcnlophmplgaaGreatDoorTHelp
import Derived.Deep.RegionHeld3
namespace Go.Proofs.YtopcnlophmplgaaGreatDoor
open Go.RowKit
set_option linter.unusedVariables false
set_option maxRecDepth 100000

def kA : ByteArray := ⟨#[97]⟩
def kB : ByteArray := ⟨#[98]⟩
def vV : ByteArray := ⟨#[118]⟩
def vW : ByteArray := ⟨#[119, 120]⟩
def vY : ByteArray := ⟨#[121]⟩
def E1 : En := mkE ⟨#[98]⟩ 2 ⟨#[118]⟩
def E2 : En := mkE ⟨#[97]⟩ 1 ⟨#[]⟩
def E3 : En := mkE ⟨#[98]⟩ 3 ⟨#[119, 120]⟩
def E4 : En := mkE ⟨#[98]⟩ 2 ⟨#[121]⟩
theorem al_1 : putE [] E1 1 = 0 ∧ putS [] E1 1 = [E1] := by constructor <;> kernel_rfl
theorem al_2 : putE [E1] E2 8 = 0 ∧ putS [E1] E2 8 = [E2, E1] := by constructor <;> kernel_rfl
theorem al_3 : putE [E2, E1] E3 2 = 0 ∧ putS [E2, E1] E3 2 = [E2, E3, E1] := by constructor <;> kernel_rfl
theorem al_4 : putE [E2, E3, E1] E4 1 = 8 ∧ putS [E2, E3, E1] E4 1 = [E2, E3, E1] := by constructor <;> kernel_rfl
theorem al_5 : esum [E2, E3, E1] = 6 := by kernel_rfl
theorem al_6 : getE [E2, E3, E1] ⟨#[98]⟩ 9 = some E3 := by kernel_rfl
theorem al_7 : getE [E2, E3, E1] ⟨#[98]⟩ 2 = some E1 := by kernel_rfl
theorem al_8 : getE [E2, E3, E1] ⟨#[98]⟩ 1 = none := by kernel_rfl
theorem al_9 : getE [E2, E3, E1] ⟨#[97]⟩ 5 = some E2 := by kernel_rfl
theorem al_10 : fromE [E2, E3, E1] ⟨⟨#[98]⟩, 2, false⟩ 9 = [E1] := by kernel_rfl
theorem al_11 : fromE [E2, E3, E1] ⟨⟨#[97]⟩, 5, false⟩ 1 = [E2] := by kernel_rfl
theorem al_12 : putE [E2, E3, E1] (mkE ⟨#[98]⟩ 1 ⟨#[118]⟩) 9 = 1 ∧ putS [E2, E3, E1] (mkE ⟨#[98]⟩ 1 ⟨#[118]⟩) 9 = [E2, E3, E1] := by constructor <;> kernel_rfl
theorem al_13 : putE [E2, E3, E1] (mkE ⟨#[]⟩ 1 ⟨#[118]⟩) 1 = 1 ∧ putS [E2, E3, E1] (mkE ⟨#[]⟩ 1 ⟨#[118]⟩) 1 = [E2, E3, E1] := by constructor <;> kernel_rfl
def E5 : En := mkE ⟨#[98]⟩ 1 ⟨#[118]⟩
def E6 : En := mkE ⟨#[]⟩ 1 ⟨#[118]⟩
theorem eV1 : E1.v = .agg #[.string ⟨#[98]⟩, .int .u64 2, .bool false, .string ⟨#[118]⟩] := by kernel_rfl
theorem eV2 : E2.v = .agg #[.string ⟨#[97]⟩, .int .u64 1, .bool true, .string ⟨#[]⟩] := by kernel_rfl
theorem eV3 : E3.v = .agg #[.string ⟨#[98]⟩, .int .u64 3, .bool false, .string ⟨#[119, 120]⟩] := by kernel_rfl
theorem eV4 : E4.v = .agg #[.string ⟨#[98]⟩, .int .u64 2, .bool false, .string ⟨#[121]⟩] := by kernel_rfl
theorem eV5 : E5.v = .agg #[.string ⟨#[98]⟩, .int .u64 1, .bool false, .string ⟨#[118]⟩] := by kernel_rfl
theorem eV6 : E6.v = .agg #[.string ⟨#[]⟩, .int .u64 1, .bool false, .string ⟨#[118]⟩] := by kernel_rfl
theorem eO : okE none = .tuple #[.agg #[.string ⟨#[]⟩, .int .u64 0, .bool false, .string ⟨#[]⟩], .bool false] := by kernel_rfl
theorem eC1 : (#[.string E1.m.k, .int .u64 (E1.m.s : Int), .bool E1.m.g, .string E1.x] : Array Value) = #[.string ⟨#[98]⟩, .int .u64 2, .bool false, .string ⟨#[118]⟩] := by kernel_rfl
theorem eC2 : (#[.string E2.m.k, .int .u64 (E2.m.s : Int), .bool E2.m.g, .string E2.x] : Array Value) = #[.string ⟨#[97]⟩, .int .u64 1, .bool true, .string ⟨#[]⟩] := by kernel_rfl
section
variable {w0 w : World} {t : Nat}
theorem put7_1 (h : Tb w0 w t []) : Calls Tryz.prog 31 #[tp t, .agg #[.string ⟨#[98]⟩, .int .u64 2, .bool false, .string ⟨#[118]⟩], .int .i64 1] w fun e w' => e = .returned (.int .i64 0) ∧ Tb w0 w' t [E1] := by
  have q := tb_put h E1 (by decide) (by decide) 1
  rw [al_1.1, al_1.2, eV1] at q
  exact q
theorem put7_2 (h : Tb w0 w t [E1]) : Calls Tryz.prog 31 #[tp t, .agg #[.string ⟨#[97]⟩, .int .u64 1, .bool true, .string ⟨#[]⟩], .int .i64 8] w fun e w' => e = .returned (.int .i64 0) ∧ Tb w0 w' t [E2, E1] := by
  have q := tb_put h E2 (by decide) (by decide) 8
  rw [al_2.1, al_2.2, eV2] at q
  exact q
theorem put7_3 (h : Tb w0 w t [E2, E1]) : Calls Tryz.prog 31 #[tp t, .agg #[.string ⟨#[98]⟩, .int .u64 3, .bool false, .string ⟨#[119, 120]⟩], .int .i64 2] w fun e w' => e = .returned (.int .i64 0) ∧ Tb w0 w' t [E2, E3, E1] := by
  have q := tb_put h E3 (by decide) (by decide) 2
  rw [al_3.1, al_3.2, eV3] at q
  exact q
theorem put7_4 (h : Tb w0 w t [E2, E3, E1]) : Calls Tryz.prog 31 #[tp t, .agg #[.string ⟨#[98]⟩, .int .u64 2, .bool false, .string ⟨#[121]⟩], .int .i64 1] w fun e w' => e = .returned (.int .i64 8) ∧ Tb w0 w' t [E2, E3, E1] := by
  have q := tb_put h E4 (by decide) (by decide) 1
  rw [al_4.1, al_4.2, eV4] at q
  exact q
theorem put7_5 (h : Tb w0 w t [E2, E3, E1]) : Calls Tryz.prog 31 #[tp t, .agg #[.string ⟨#[98]⟩, .int .u64 1, .bool false, .string ⟨#[118]⟩], .int .i64 9] w fun e w' => e = .returned (.int .i64 1) ∧ Below w.heap.size w w' := by
  have q := tb_put_no h E5 (by decide) (by decide) 9 (by rw [show putE [E2, E3, E1] E5 9 = 1 from al_12.1]; decide)
  rw [show putE [E2, E3, E1] E5 9 = 1 from al_12.1, eV5] at q
  exact q
theorem put7_6 (h : Tb w0 w t [E2, E3, E1]) : Calls Tryz.prog 31 #[tp t, .agg #[.string ⟨#[]⟩, .int .u64 1, .bool false, .string ⟨#[118]⟩], .int .i64 1] w fun e w' => e = .returned (.int .i64 1) ∧ Below w.heap.size w w' := by
  have q := tb_put_no h E6 (by decide) (by decide) 1 (by rw [show putE [E2, E3, E1] E6 1 = 1 from al_13.1]; decide)
  rw [show putE [E2, E3, E1] E6 1 = 1 from al_13.1, eV6] at q
  exact q
theorem get7_1 (h : Tb w0 w t [E2, E3, E1]) : Calls Tryz.prog 33 #[tp t, .string ⟨#[98]⟩, .int .u64 9] w fun e w' => e = .returned (.tuple #[.agg #[.string ⟨#[98]⟩, .int .u64 3, .bool false, .string ⟨#[119, 120]⟩], .bool true]) ∧ Below w.heap.size w w' := by
  have q := tb_get h ⟨#[98]⟩ 9
  rw [al_6, show okE (some E3) = .tuple #[E3.v, .bool true] from rfl, eV3] at q
  exact q
theorem get7_2 (h : Tb w0 w t [E2, E3, E1]) : Calls Tryz.prog 33 #[tp t, .string ⟨#[98]⟩, .int .u64 2] w fun e w' => e = .returned (.tuple #[.agg #[.string ⟨#[98]⟩, .int .u64 2, .bool false, .string ⟨#[118]⟩], .bool true]) ∧ Below w.heap.size w w' := by
  have q := tb_get h ⟨#[98]⟩ 2
  rw [al_7, show okE (some E1) = .tuple #[E1.v, .bool true] from rfl, eV1] at q
  exact q
theorem get7_3 (h : Tb w0 w t [E2, E3, E1]) : Calls Tryz.prog 33 #[tp t, .string ⟨#[98]⟩, .int .u64 1] w fun e w' => e = .returned (.tuple #[.agg #[.string ⟨#[]⟩, .int .u64 0, .bool false, .string ⟨#[]⟩], .bool false]) ∧ Below w.heap.size w w' := by
  have q := tb_get h ⟨#[98]⟩ 1
  rw [al_8, eO] at q
  exact q
theorem get7_4 (h : Tb w0 w t [E2, E3, E1]) : Calls Tryz.prog 33 #[tp t, .string ⟨#[97]⟩, .int .u64 5] w fun e w' => e = .returned (.tuple #[.agg #[.string ⟨#[97]⟩, .int .u64 1, .bool true, .string ⟨#[]⟩], .bool true]) ∧ Below w.heap.size w w' := by
  have q := tb_get h ⟨#[97]⟩ 5
  rw [al_9, show okE (some E2) = .tuple #[E2.v, .bool true] from rfl, eV2] at q
  exact q
theorem from7_1 (h : Tb w0 w t [E2, E3, E1]) : Calls Tryz.prog 35 #[tp t, .agg #[.string ⟨#[98]⟩, .int .u64 2, .bool false], .int .i64 9] w fun e w' => ∃ A c, e = .returned (.slice A 1 c) ∧ Lies w' w'.heap.size 4 A 1 (ecs [E1]) ∧ Below w.heap.size w w' := by
  have q := tb_from h ⟨⟨#[98]⟩, 2, false⟩ 9
  rw [al_10] at q
  refine q.mono fun e w' ⟨v, he, ho, hb⟩ => ?_
  obtain ⟨A, c, rfl, _⟩ := own_shape ho
  exact ⟨A, c, he, Lies.of_own ho, hb⟩
theorem from7_2 (h : Tb w0 w t [E2, E3, E1]) : Calls Tryz.prog 35 #[tp t, .agg #[.string ⟨#[97]⟩, .int .u64 5, .bool false], .int .i64 1] w fun e w' => ∃ A c, e = .returned (.slice A 1 c) ∧ Lies w' w'.heap.size 4 A 1 (ecs [E2]) ∧ Below w.heap.size w w' := by
  have q := tb_from h ⟨⟨#[97]⟩, 5, false⟩ 1
  rw [al_11] at q
  refine q.mono fun e w' ⟨v, he, ho, hb⟩ => ?_
  obtain ⟨A, c, rfl, _⟩ := own_shape ho
  exact ⟨A, c, he, Lies.of_own ho, hb⟩
theorem same7_1 {A : Option Addr} {c : Nat} (h : Lies w w.heap.size 4 A 1 (ecs [E1])) {W : World} (hb : Below w.heap.size w W) : Calls Tryz.prog 36 #[.slice A 1 c, .slice (some ⟨W.heap.size, 0, none⟩) 1 1] (W.alloc (.cells #[.string ⟨#[98]⟩, .int .u64 2, .bool false, .string ⟨#[118]⟩] 83)) fun e w' => e = .returned (.bool true) ∧ Below w.heap.size w w' := by
  have h1 : Below W.heap.size W (enW W E1) := (enW_facts W E1).2.2.2.2.1
  have h2 : Below w.heap.size w (enW W E1) := hb.trans (h1.mono hb.size)
  have q := sameE_yes (A2 := some ⟨W.heap.size, 0, none⟩) (c := c) (c2 := 1) ((h.below h2).more h2.size) (by have := en_lies W E1; rw [← (enW_facts W E1).2.2.2.2.2] at this; exact this) (by decide)
  unfold enW at q h1 h2
  rw [eC1] at q h1 h2
  exact q.mono fun e w' ⟨he, hb'⟩ => ⟨he, h2.trans (hb'.mono h2.size)⟩
theorem same7_2 {A : Option Addr} {c : Nat} (h : Lies w w.heap.size 4 A 1 (ecs [E2])) {W : World} (hb : Below w.heap.size w W) : Calls Tryz.prog 36 #[.slice A 1 c, .slice (some ⟨W.heap.size, 0, none⟩) 1 1] (W.alloc (.cells #[.string ⟨#[97]⟩, .int .u64 1, .bool true, .string ⟨#[]⟩] 83)) fun e w' => e = .returned (.bool true) ∧ Below w.heap.size w w' := by
  have h1 : Below W.heap.size W (enW W E2) := (enW_facts W E2).2.2.2.2.1
  have h2 : Below w.heap.size w (enW W E2) := hb.trans (h1.mono hb.size)
  have q := sameE_yes (A2 := some ⟨W.heap.size, 0, none⟩) (c := c) (c2 := 1) ((h.below h2).more h2.size) (by have := en_lies W E2; rw [← (enW_facts W E2).2.2.2.2.2] at this; exact this) (by decide)
  unfold enW at q h1 h2
  rw [eC2] at q h1 h2
  exact q.mono fun e w' ⟨he, hb'⟩ => ⟨he, h2.trans (hb'.mono h2.size)⟩
end
theorem al_below {W w : World} (h : Below W.heap.size W w) {o : Obj} : Below W.heap.size W (w.alloc o) := h.alloc h.size o

def EBox (W : World) (g : Nat) (c : Array Value) : Prop := W.heap[g]? = some (.cells c 83 (0, 0))
theorem EBox.below {W W' : World} {g : Nat} {c : Array Value} (h : EBox W g c) (hb : Below W.heap.size W W') : EBox W' g c := (hb.block g (Array.getElem?_eq_some_iff.1 h).1).trans h
theorem EBox.new (W : World) (c : Array Value) : EBox (W.alloc (.cells c 83)) W.heap.size c := heap_alloc_new W _
theorem EBox.cells {W : World} {g : Nat} {a b c d : Value} (h : EBox W g #[a, b, c, d]) : W.cell? ⟨g, 0, none⟩ = some a ∧ W.cell? ⟨g, 1, none⟩ = some b ∧ W.cell? ⟨g, 2, none⟩ = some c ∧ W.cell? ⟨g, 3, none⟩ = some d :=
  ⟨cell_of_row W g 0 _ _ (0, 0) h, cell_of_row W g 1 _ _ (0, 0) h, cell_of_row W g 2 _ _ (0, 0) h, cell_of_row W g 3 _ _ (0, 0) h⟩
theorem self_al (W : World) (o : Obj) : Below W.heap.size W (W.alloc o) := (Below.refl _ _).alloc (Nat.le_refl _) o
end Go.Proofs.YtopcnlophmplgaaGreatDoor
