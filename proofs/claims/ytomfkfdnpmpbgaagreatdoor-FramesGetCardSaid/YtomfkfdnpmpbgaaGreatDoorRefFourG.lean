/-
  The document's own GetFour.
-/
import Derived.Test.YtomfkfdnpmpbgaaGreatDoorFourG
namespace Go.Proofs.YtomfkfdnpmpbgaaGreatDoor
open Go.RowKit
set_option linter.unusedVariables false

theorem wrap_u32_nat (q : Nat) (h : q < 4294967296) : IntKind.u32.wrap (q : Int) = (q : Int) := by
  rw [IntKind.wrap_u32']; omega

set_option maxHeartbeats 2000000 in
theorem ref_getFour_yes (A : Option Addr) (n c B : Nat) (x0 x1 x2 x3 : UInt8) (l : List UInt8) (w : World) (h : Lies w B 1 A n ((x0 :: x1 :: x2 :: x3 :: l).map bv)) :
    Calls Tryz.prog 59 #[.slice A n c] w fun e w' => e = .returned (.tuple #[.int .u32 ((x0.toNat * 16777216 + x1.toNat * 65536 + x2.toNat * 256 + x3.toNat : Nat) : Int), .int .i64 0]) ∧ ∃ q, w' = w.drewN q := by
  have hl4 : 4 ≤ n := by have := h.len; simp at this; omega
  obtain ⟨b, o, u, rfl, hbB, hu0, hc0⟩ := h.at_ (j := 0) (by omega)
  have hcell : ∀ (i : Nat) (x : UInt8), (x0 :: x1 :: x2 :: x3 :: l)[i]? = some x → w.cell? ⟨b, o + i, none⟩ = some (.int .u8 (x.toNat : Int)) := by
    intro i x hx
    obtain ⟨ad, v, e, _, hv, hcc⟩ := h.spot i (by rcases List.getElem?_eq_some_iff.1 hx with ⟨hh, _⟩; simpa using hh)
    injection e with e
    subst e
    rw [add_lit] at hcc
    rw [List.getElem?_map, hx] at hv
    injection hv with hv
    rw [hcc, ← hv]
  have c0 : w.cell? ⟨b, o, none⟩ = some (.int .u8 (x0.toNat : Int)) := hcell 0 x0 rfl
  have c1 := hcell 1 x1 rfl
  have c2 := hcell 2 x2 rfl
  have c3 := hcell 3 x3 rfl
  have y0 := x0.toNat_lt
  have y1 := x1.toNat_lt
  have y2 := x2.toNat_lt
  have y3 := x3.toNat_lt
  clear hcell h hu0 hc0
  generalize x0.toNat = a0 at *
  generalize x1.toNat = a1 at *
  generalize x2.toNat = a2 at *
  generalize x3.toNat = a3 at *
  have m0 : IntKind.u32.wrap (16777216 * (a0 : Int)) = ((16777216 * a0 : Nat) : Int) := by rw [← wrap_u32_nat (16777216 * a0) (by omega)]; simp
  have m1 : IntKind.u32.wrap (65536 * (a1 : Int)) = ((65536 * a1 : Nat) : Int) := by rw [← wrap_u32_nat (65536 * a1) (by omega)]; simp
  have m2 : IntKind.u32.wrap (256 * (a2 : Int)) = ((256 * a2 : Nat) : Int) := by rw [← wrap_u32_nat (256 * a2) (by omega)]; simp
  have b0 : (0 : Int) < (n : Int) := by omega
  have b1 : (1 : Int) < (n : Int) := by omega
  have b2 : (2 : Int) < (n : Int) := by omega
  have b3 : (3 : Int) < (n : Int) := by omega
  go_enter Tryz.func59, Tryz.ntmps59
  go_wp2
  go_quiet (fail)
  go_wp2
  go_ret2
  exact ⟨congrArg (fun x => Ending.returned (.tuple #[.int .u32 x, .int .i64 0])) (by simp; omega), _, rfl⟩
theorem ref_getFour_no (A : Option Addr) (n c : Nat) (w : World) (hn : n < 4) :
    Calls Tryz.prog 59 #[.slice A n c] w fun e w' => e = .returned (.tuple #[.int .u32 0, .int .i64 5]) ∧ ∃ q, w' = w.drewN q := by
  go_enter Tryz.func59, Tryz.ntmps59
  go_wp2
  go_ret2
  exact ⟨rfl, 0, rfl⟩
theorem ref_getFour (A : Option Addr) (n c B : Nat) (l : List UInt8) (w : World) (h : Lies w B 1 A n (l.map bv)) :
    Calls Tryz.prog 59 #[.slice A n c] w fun e w' => e = .returned (.tuple #[.int .u32 ((getFour l).1 : Int), .int .i64 ((getFour l).2 : Int)]) ∧ ∃ q, w' = w.drewN q := by
  have hln : l.length = n := by simpa using h.len
  match l, h, hln with
  | x0 :: x1 :: x2 :: x3 :: l, h, _ => exact ref_getFour_yes A n c B x0 x1 x2 x3 l w h
  | [], _, hln => exact ref_getFour_no A n c w (by simp at hln; omega)
  | [_], _, hln => exact ref_getFour_no A n c w (by simp at hln; omega)
  | [_, _], _, hln => exact ref_getFour_no A n c w (by simp at hln; omega)
  | [_, _, _], _, hln => exact ref_getFour_no A n c w (by simp at hln; omega)

end Go.Proofs.YtomfkfdnpmpbgaaGreatDoor
