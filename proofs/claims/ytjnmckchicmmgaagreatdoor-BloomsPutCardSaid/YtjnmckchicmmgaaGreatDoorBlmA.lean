/-
  Contracts of package blooms: bitCount, probeOf, bit.
-/
import Derived.Test.YtjnmckchicmmgaaGreatDoorSumsC
import Derived.Test.YtjnmckchicmmgaaGreatDoorLay
import Derived.Test.YtjnmckchicmmgaaGreatDoorBlm
import Derived.Test.YtjnmckchicmmgaaGreatDoorConv
import Derived.Laws.ShiftsVarLaws
import Derived.Deep.Cut
namespace Go.Proofs.YtjnmckchicmmgaaGreatDoor
open Go.RowKit
set_option linter.unusedVariables false

theorem countS_any (A : Option Addr) (n c : Nat) (w : World) (hn : n ≤ 140737488355328) :
    Calls Tryz.prog 13 #[.slice A n c, .int .u64 10] w fun e w' => e = .returned (.int .u64 ((n * 10 : Nat) : Int)) ∧ w' = w := by
  have h1 := Lib.hid (show (n : Int) * 10 = ((n * 10 : Nat) : Int) by omega)
  go_enter Tryz.func13, Tryz.ntmps13
  go_wp2
  go_ret
  exact ⟨by first | rfl | (rw [h1.out]; rfl), rfl⟩
theorem countB_any (A : Option Addr) (n c : Nat) (w : World) (hn : n ≤ 140737488355328) :
    Calls Tryz.prog 90 #[.slice A n c, .int .u64 8] w fun e w' => e = .returned (.int .u64 ((8 * n : Nat) : Int)) ∧ w' = w := by
  have h1 := Lib.hid (show (n : Int) * 8 = ((8 * n : Nat) : Int) by omega)
  go_enter Tryz.func90, Tryz.ntmps90
  go_wp2
  go_ret
  exact ⟨by first | rfl | (rw [h1.out]; rfl), rfl⟩

/-- a key's two numbers as the program has them -/
abbrev prb (s : List UInt8) : Value := .agg #[nv (Blm.x1 s), nv (Blm.y1 s)]
theorem bit_any (s : List UInt8) (i : Nat) (A : Option Addr) (n c : Nat) (w : World) (hi : i < 6) (h0 : 0 < n) (hn : n ≤ 140737488355328) :
    Calls Tryz.prog 60 #[prb s, .int .u32 (i : Int), .slice A n c] w fun e w' => e = .returned (.tuple #[.int .u64 ((Blm.pos s (8 * n) i / 8 : Nat) : Int), .int .u8 ((2 ^ (Blm.pos s (8 * n) i % 8) : Nat) : Int)]) ∧ Below w.heap.size w w' := by
  have hx := Blm.x1_lt s
  have hy := Blm.y1_lt s
  unfold prb nv Blm.pos
  generalize Blm.x1 s = x at *
  generalize Blm.y1 s = y at *
  obtain ⟨N, hN⟩ : ∃ N, 8 * n = N := ⟨_, rfl⟩
  have HC := Lib.hid (fun W => countB_any A n c W hn)
  rw [hN] at HC ⊢
  have hN0 : 0 < N := by omega
  have hNl : N ≤ 1125899906842624 := by omega
  obtain ⟨m, hm⟩ : ∃ m, (i * y) % 4294967296 = m := ⟨_, rfl⟩
  obtain ⟨q, hq⟩ : ∃ q, (x + i * y) % 4294967296 = q := ⟨_, rfl⟩
  have hq2 : (x + m) % 4294967296 = q := by rw [← hq, ← hm]; omega
  have hml : m < 4294967296 := by omega
  have hql : q < 4294967296 := by omega
  rw [hq]
  obtain ⟨p, hp⟩ : ∃ p, q % N = p := ⟨_, rfl⟩
  rw [hp]
  have hpl : p < N := by rw [← hp]; exact Nat.mod_lt _ hN0
  obtain ⟨k, hk⟩ : ∃ k, p % 8 = k := ⟨_, rfl⟩
  obtain ⟨d, hd⟩ : ∃ d, p / 8 = d := ⟨_, rfl⟩
  rw [hk, hd]
  have hkl : k < 8 := by omega
  have hdl : d < N := by omega
  have g1 : (p : Int) % 8 = (k : Int) := by omega
  have g2 : (p : Int) / 8 = (d : Int) := by omega
  have HG := Lib.hid (And.intro g1 g2)
  have f1 : IntKind.u32.wrap ((i : Int) * (y : Int)) = (m : Int) := by
    rw [IntKind.wrap_u32, ← hm]; omega
  have f2 : IntKind.u32.wrap ((x : Int) + (m : Int)) = (q : Int) := by
    rw [IntKind.wrap_u32, ← hq2]; omega
  have f3 : IntKind.u64.wrap (q : Int) = (q : Int) := by
    rw [IntKind.wrap_u64]; omega
  have f4 : (q : Int).tmod (N : Int) = (p : Int) := by rw [← hp]; rfl
  have F := And.intro f1 (And.intro f2 (And.intro f3 f4))
  have HF := Lib.hid F
  clear F f1 f2 f3 f4 hm hq hq2 hp hN g1 g2 hk hd
  go_enter Tryz.func60, Tryz.ntmps60
  go_upto_region 1 with fail
  have hb0 : Below w.heap.size w (w.alloc (.cells #[.int .u32 (x : Int), .int .u32 (y : Int)] 55)) := (Below.refl _ w).alloc (Nat.le_refl _) _
  have c0 : (w.alloc (.cells #[.int .u32 (x : Int), .int .u32 (y : Int)] 55)).cell? ⟨w.heap.size, 0, none⟩ = some (.int .u32 (x : Int)) := cell_of_row _ _ 0 _ _ (0, 0) (heap_alloc_new w _)
  have c1 : (w.alloc (.cells #[.int .u32 (x : Int), .int .u32 (y : Int)] 55)).cell? ⟨w.heap.size, 1, none⟩ = some (.int .u32 (y : Int)) := cell_of_row _ _ 1 _ _ (0, 0) (heap_alloc_new w _)
  obtain ⟨W, hW⟩ : ∃ W, w.alloc (.cells #[.int .u32 (x : Int), .int .u32 (y : Int)] 55) = W := ⟨_, rfl⟩
  rw [hW] at hb0 c0 c1 ⊢
  have HB := Lib.hid hb0
  clear hW hb0
  obtain ⟨f1, f2, f3, f4⟩ := HF.out
  go_quiet ((go_at_call 90; exact Calls.quiet_of_same (HC.out _)))
  obtain ⟨g1, g2⟩ := HG.out
  clear f1 f2 f3 f4 c0 c1
  go_wp2
  have e2 : (2 : Int) ^ k % 256 = ((2 ^ k : Nat) : Int) := (by decide : ∀ k : Nat, k < 8 → (2 : Int) ^ k % 256 = ((2 ^ k : Nat) : Int)) k hkl
  rw [e2]
  go_ret2
  exact ⟨rfl, below_drewN HB.out nq⟩

set_option maxRecDepth 100000 in
set_option maxHeartbeats 1000000 in
theorem probeOf_any (g : Nat) (s : ByteArray) (w : World) (hT : Tab w g 51 Crc.tab) (hs : s.size ≤ 1099511627776) :
    Calls Tryz.prog 16 #[.pointer (some ⟨g, 0, none⟩), .string s] w fun e w' => e = .returned (prb s.data.toList) ∧ Below w.heap.size w w' := by
  obtain ⟨w0, hw0⟩ : ∃ w0, w.alloc (.cells #[.int .u32 0, .int .u32 0] 55) = w0 := ⟨_, rfl⟩
  have hr0 : w0.heap[w.heap.size]? = some (.cells #[.int .u32 0, .int .u32 0] 55 (0, 0)) := by rw [← hw0]; exact heap_alloc_new w _
  have hb0 : Below w.heap.size w w0 := by rw [← hw0]; exact (Below.refl _ w).alloc (Nat.le_refl _) _
  have hz0 : w.heap.size < w0.heap.size := by rw [← hw0]; simp
  obtain ⟨w1, c1, hconv, hb1, hl1⟩ := conv_bytes w0 s
  have hgl := hT.lt
  have HT1 := Lib.hid (hT.below (hb0.trans (hb1.mono hb0.size)) hgl)
  have HR1 := Lib.hid ((hb1.block _ hz0).trans hr0)
  have HOF := Lib.hid (of_any g s.size c1 _ (some ⟨w0.heap.size, 0, none⟩) s.data.toList Crc.tab w1 HT1.out Crc.tab_len Crc.small_tab hl1 hs)
  have hb01 := hb0.trans (hb1.mono hb0.size)
  have HB1 := Lib.hid hb01
  have HZ : Hid (w.heap.size < w1.heap.size) := Nat.lt_of_lt_of_le hz0 hb1.size
  clear hb0 hb1 hb01 hl1 hr0 hT
  have hx := Crc.on_lt Crc.tab 0 s.data.toList
  unfold prb Blm.y1 Blm.x1
  obtain ⟨x, hxe⟩ : ∃ x, Crc.on Crc.tab 0 s.data.toList = x := ⟨_, rfl⟩
  rw [hxe] at HOF hx ⊢
  clear hxe
  obtain ⟨y, hy⟩ : ∃ y, Crc.on Crc.tab x [1] = y := ⟨_, rfl⟩
  have HO2 : Hid (Calls Tryz.prog 62 #[.pointer (some ⟨g, 0, none⟩), .int .u32 (x : Int), .slice (some ⟨w1.heap.size, 0, none⟩) 1 1] (w1.alloc (.cells #[.int .u8 1] 5)) fun e w2 => e = .returned (.int .u32 (y : Int)) ∧ w2 = w1.alloc (.cells #[.int .u8 1] 5)) := by
    have h := on_any g x 1 1 _ (some ⟨w1.heap.size, 0, none⟩) [1] Crc.tab (w1.alloc (.cells #[.int .u8 1] 5)) (HT1.out.alloc _) Crc.tab_len Crc.small_tab hx (lit_lies w1 [1]) (by omega)
    rw [hy] at h
    exact h
  rw [hy]
  clear hy
  have hr2 : (w1.alloc (.cells #[.int .u8 1] 5)).heap[w.heap.size]? = some (.cells #[.int .u32 0, .int .u32 0] 55 (0, 0)) := (Below.heap_alloc w1 _ _ HZ.out).trans HR1.out
  have hb2 := HB1.out.alloc (B := w.heap.size) HB1.out.size (.cells #[.int .u8 1] 5)
  obtain ⟨w2, hw2⟩ : ∃ w2, w1.alloc (.cells #[.int .u8 1] 5) = w2 := ⟨_, rfl⟩
  rw [hw2] at HO2 hr2 hb2
  have HR2 := Lib.hid hr2; have HB2 := Lib.hid hb2
  clear hr2 hb2 HR1 HB1 hgl HT1
  go_enter Tryz.func16, Tryz.ntmps16
  go_wp2_with (go_at_call 61; refine HOF.out.mono ?_; rintro e w' ⟨rfl, rfl⟩)
  refine HO2.out.mono ?_
  rintro e w3 ⟨rfl, rfl⟩
  have c0 := cell_of_row w3 _ 0 _ _ (0, 0) HR2.out
  have c1 := cell_of_row w3 _ 1 _ _ (0, 0) HR2.out
  have f0 : w3.frozen? ⟨w.heap.size, 0, none⟩ = false := by simp [World.frozen?, HR2.out]
  have f1 : w3.frozen? ⟨w.heap.size, 1, none⟩ = false := by simp [World.frozen?, HR2.out]
  have HB := Lib.hid ((HB2.out.setCell (p := ⟨w.heap.size, 0, none⟩) (Nat.le_refl _) (nv x)).setCell (p := ⟨w.heap.size, 1, none⟩) (Nat.le_refl _) (nv y))
  have hr3 : ((w3.setCell ⟨w.heap.size, 0, none⟩ (nv x)).setCell ⟨w.heap.size, 1, none⟩ (nv y)).heap[w.heap.size]? = some (.cells #[nv x, nv y] 55 (0, 0)) := by
    simp [World.setCell, Array.getElem?_modify, HR2.out]
  have HR3 := Lib.hid hr3
  clear hr3
  go_wp2
  have z0 := cell_of_row _ _ 0 _ _ (0, 0) HR3.out
  have z1 := cell_of_row _ _ 1 _ _ (0, 0) HR3.out
  clear HR3 f0 f1 c0 c1 HR2
  revert z0 z1 HB
  change _ → _ → _ → bodyPost _ _ _ _ _ ((w3.setCell ⟨w.heap.size, 0, none⟩ (nv x)).setCell ⟨w.heap.size, 1, none⟩ (nv y))
  generalize (w3.setCell ⟨w.heap.size, 0, none⟩ (nv x)).setCell ⟨w.heap.size, 1, none⟩ (nv y) = W
  intro HB z0 z1
  exact bodyPost_ret (v := .agg #[nv x, nv y]) (by simp [results, Tryz.results16, go_sem, z0, z1]) rfl ⟨rfl, HB.out⟩
end Go.Proofs.YtjnmckchicmmgaaGreatDoor
