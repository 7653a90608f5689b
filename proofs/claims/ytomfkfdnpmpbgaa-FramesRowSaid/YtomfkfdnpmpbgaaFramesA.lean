/-
  Contracts of package frames: checksum.
-/
import Derived.Test.YtomfkfdnpmpbgaaFourG
import Derived.Test.YtomfkfdnpmpbgaaSumsC
import Derived.Test.YtomfkfdnpmpbgaaCopy
import Derived.Test.YtomfkfdnpmpbgaaLay
namespace Go.Proofs.Ytomfkfdnpmpbgaa
open Go.RowKit
set_option linter.unusedVariables false

/-- the sum of a length's four bytes and a record -/
def csum (h r : List UInt8) : Nat := Crc.on Crc.tab (Crc.on Crc.tab 0 h) r
theorem csum_lt (h r : List UInt8) : csum h r < 4294967296 := Crc.on_lt _ _ _
/-- a record's frame -/
def fr (r : List UInt8) : List UInt8 := four r.length ++ (four (csum (four r.length) r) ++ r)
theorem four_len (k : Nat) : (four k).length = 4 := rfl
theorem fr_len (r : List UInt8) : (fr r).length = r.length + 8 := by unfold fr; simp only [List.length_append, four_len]; omega

/-- 's[l:h:m]' -/
theorem run_cut3 (w : World) (A : Option Addr) (n c l h m : Nat) (h1 : l ≤ h) (h2 : h ≤ m) (h3 : m ≤ c) :
    (Instr.slice 22 (.slice A n c) (some (.int .i64 (l : Int))) (some (.int .i64 (h : Int))) (some (.int .i64 (m : Int)))).run Try.prog w = .ok (.slice (cutA A m l) (h - l) (m - l)) w := by
  obtain ⟨i0, hi, hz0, hz1, hz2⟩ := info_parts byte_info
  unfold Instr.slice cutA
  simp [run_underlying Try.underlying22, Instr.sliceBounds, Instr.sliceBound, asIntOf, sizeOf, typeInfo, hi, hz1, h1, h2, h3]
/-- 's[:h:m]' -/
theorem run_head3 (w : World) (A : Option Addr) (n c h m : Nat) (h2 : h ≤ m) (h3 : m ≤ c) :
    (Instr.slice 22 (.slice A n c) none (some (.int .i64 (h : Int))) (some (.int .i64 (m : Int)))).run Try.prog w = .ok (.slice A h m) w := by
  obtain ⟨i0, hi, hz0, hz1, hz2⟩ := info_parts byte_info
  unfold Instr.slice
  simp [run_underlying Try.underlying22, Instr.sliceBounds, Instr.sliceBound, asIntOf, sizeOf, typeInfo, hi, h2, h3]
  cases A <;> simp [Addr.add]

theorem Lies.part {w : World} {B n : Nat} {A : Option Addr} {l : List UInt8} (h : Lies w B 1 A n (l.map bv)) {m : Nat} (hm : m ≤ n) : Lies w B 1 (Go.Proofs.Ytomfkfdnpmpbgaa.cutA A n m) (n - m) ((l.drop m).map bv) := h.cutA hm (Nat.le_refl _)

set_option maxHeartbeats 1000000 in
theorem checksum_any (A : Option Addr) (n c : Nat) (l : List UInt8) (w : World) (h : Lies w w.heap.size 1 A n (l.map bv)) (h8 : 8 ≤ n) (hnc : n ≤ c) (hn : n ≤ 1099511627776) :
    Calls Try.prog 20 #[.slice A n c] w fun e w' => e = .returned (.int .u32 (csum (l.take 4) (l.drop 8) : Int)) ∧ Below w.heap.size w w' := by
  have HL := Lib.hid h; clear h
  have c1 : ∀ w, (Instr.slice 22 (.slice A n c) none (some (.int .i64 4)) (some (.int .i64 4))).run Try.prog w = .ok (.slice A 4 4) w := fun w => run_head3 w A n c 4 4 (Nat.le_refl _) (by omega)
  have c2 : ∀ w, (Instr.slice 22 (.slice A n c) (some (.int .i64 8)) (some (.int .i64 (n : Int))) (some (.int .i64 (n : Int)))).run Try.prog w = .ok (.slice (cutA A n 8) (n - 8) (n - 8)) w := fun w => run_cut3 w A n c 8 n n h8 (Nat.le_refl _) hnc
  go_enter Try.func20, Try.ntmps20
  go_wp2_with fail
  refine (table_any w).mono ?_
  rintro e w1 ⟨rfl, hb1⟩
  have HB1 := Lib.hid (lay_below hb1 hb1.size Crc.tab)
  have HT := Lib.hid (lay_tab w1 Crc.tab)
  clear hb1
  go_wp2_with (first
    | refine wpList_lay rfl rfl ?_
    | refine wpList_laid rfl _ _ rfl noughts Crc.tab rfl rfl noughts_len Crc.tab_len ?_)
  refine (of_any w1.heap.size 4 4 w.heap.size A (l.take 4) Crc.tab (lay w1 Crc.tab) HT.out Crc.tab_len Crc.small_tab ?_ (by omega)).mono ?_
  · have := (HL.out.below HB1.out).take_ (m := 4) (by omega)
    rw [List.map_take]; exact this
  rintro e w2 ⟨rfl, rfl⟩
  go_wp2_with fail
  refine (on_any w1.heap.size _ (n - 8) (n - 8) w.heap.size (cutA A n 8) (l.drop 8) Crc.tab _ HT.out Crc.tab_len Crc.small_tab (Crc.on_lt _ _ _) ?_ (by omega)).mono ?_
  · exact (HL.out.below HB1.out).part h8
  rintro e w2 ⟨rfl, rfl⟩
  go_wp2
  go_ret
  exact ⟨rfl, HB1.out⟩
end Go.Proofs.Ytomfkfdnpmpbgaa
