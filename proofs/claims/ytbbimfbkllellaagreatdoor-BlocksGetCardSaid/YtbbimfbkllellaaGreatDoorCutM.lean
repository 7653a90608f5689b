/-
  Three-index slices of bytes.
  A part of a byte list, from a place on, up to another one.
-/
import Derived.Test.YtbbimfbkllellaaGreatDoorMemM
namespace Go.Proofs.YtbbimfbkllellaaGreatDoor
open Go.RowKit
set_option linter.unusedVariables false

/-- 's[l:h:m]' -/
theorem run_cut3 (w : World) (A : Option Addr) (n c l h m : Nat) (h1 : l ≤ h) (h2 : h ≤ m) (h3 : m ≤ c) :
    (Instr.slice 22 (.slice A n c) (some (.int .i64 (l : Int))) (some (.int .i64 (h : Int))) (some (.int .i64 (m : Int)))).run Tryz.prog w = .ok (.slice (cutA A m l) (h - l) (m - l)) w := by
  obtain ⟨i0, hi, hz0, hz1, hz2⟩ := info_parts byte_info
  unfold Instr.slice cutA
  simp [run_underlying Tryz.underlying22, Instr.sliceBounds, Instr.sliceBound, asIntOf, sizeOf, typeInfo, hi, hz1, h1, h2, h3]
/-- 's[:h:m]' -/
theorem run_head3 (w : World) (A : Option Addr) (n c h m : Nat) (h2 : h ≤ m) (h3 : m ≤ c) :
    (Instr.slice 22 (.slice A n c) none (some (.int .i64 (h : Int))) (some (.int .i64 (m : Int)))).run Tryz.prog w = .ok (.slice A h m) w := by
  obtain ⟨i0, hi, hz0, hz1, hz2⟩ := info_parts byte_info
  unfold Instr.slice
  simp [run_underlying Tryz.underlying22, Instr.sliceBounds, Instr.sliceBound, asIntOf, sizeOf, typeInfo, hi, h2, h3]
  cases A <;> simp [Addr.add]

theorem Lies.part {w : World} {B n : Nat} {A : Option Addr} {l : List UInt8} (h : Lies w B 1 A n (l.map bv)) {m : Nat} (hm : m ≤ n) : Lies w B 1 (Go.Proofs.YtbbimfbkllellaaGreatDoor.cutA A n m) (n - m) ((l.drop m).map bv) := h.cutA hm (Nat.le_refl _)
end Go.Proofs.YtbbimfbkllellaaGreatDoor

namespace Go.Proofs.YtbbimfbkllellaaGreatDoor
open Go.RowKit
set_option linter.unusedVariables false

theorem run_cutLH (w : World) (A : Option Addr) (n c l h : Nat) (h1 : l ≤ h) (h2 : h ≤ c) :
    (Instr.slice 22 (.slice A n c) (some (.int .i64 (l : Int))) (some (.int .i64 (h : Int))) none).run Tryz.prog w = .ok (.slice (cutA A c l) (h - l) (c - l)) w := by
  obtain ⟨i0, hi, hz0, hz1, hz2⟩ := info_parts byte_info
  unfold Instr.slice cutA
  simp [run_underlying Tryz.underlying22, Instr.sliceBounds, Instr.sliceBound, asIntOf, sizeOf, typeInfo, hi, hz1, h1, h2]
end Go.Proofs.YtbbimfbkllellaaGreatDoor

