/-
  Contracts of package blooms: Put, May.
-/
import Derived.Test.YtjnmckchicmmgaaGreatDoorBlmB
import Derived.Laws.OwnMore
import Derived.Deep.RegionHeld3
namespace Go.Proofs.YtjnmckchicmmgaaGreatDoor
open Go.RowKit
set_option linter.unusedVariables false
set_option maxRecDepth 100000

/-- the bytes of texts -/
abbrev kys (T : List ByteArray) : List (List UInt8) := T.map fun s => s.data.toList
def BFine (_ : World) : Prop := True
theorem bfine (w : World) : BFine w := trivial
/-- 's[:h:m]' by numbers of 64 bits -/
theorem run_head3u (w : World) (A : Option Addr) (n c h m : Nat) (h2 : h ≤ m) (h3 : m ≤ c) :
    (Instr.slice 25 (.slice A n c) none (some (.int .u64 (h : Int))) (some (.int .u64 (m : Int)))).run Tryz.prog w = .ok (.slice A h m) w := by
  obtain ⟨i0, hi, hz0, hz1, hz2⟩ := info_parts byte_info
  unfold Instr.slice
  simp [run_underlying Tryz.underlying25, Instr.sliceBounds, Instr.sliceBound, asIntOf, sizeOf, typeInfo, hi, h2, h3]
  cases A <;> simp [Addr.add]
theorem run_head3i (w : World) (A : Option Addr) (n c h m : Nat) (h2 : h ≤ m) (h3 : m ≤ c) :
    (Instr.slice 25 (.slice A n c) none (some (.int .i64 (h : Int))) (some (.int .i64 (m : Int)))).run Tryz.prog w = .ok (.slice A h m) w := by
  obtain ⟨i0, hi, hz0, hz1, hz2⟩ := info_parts byte_info
  unfold Instr.slice
  simp [run_underlying Tryz.underlying25, Instr.sliceBounds, Instr.sliceBound, asIntOf, sizeOf, typeInfo, hi, h2, h3]
  cases A <;> simp [Addr.add]
/-- the bits of the first k keys -/
def Blm.upto (L : List (List UInt8)) (N k : Nat) : List UInt8 := (L.take k).foldl (fun b s => Blm.putK b s 6) (List.replicate N 0)
theorem Blm.upto_len (L : List (List UInt8)) (N k : Nat) : (Blm.upto L N k).length = N := by unfold Blm.upto; rw [Blm.foldl_len, List.length_replicate]
theorem Blm.upto_succ (L : List (List UInt8)) (N k : Nat) (s : List UInt8) (h : L[k]? = some s) : Blm.upto L N (k + 1) = Blm.putK (Blm.upto L N k) s 6 := by
  unfold Blm.upto; rw [List.take_add_one, h]; simp
theorem Blm.upto_all (L : List (List UInt8)) (k : Nat) (h : L.length ≤ k) : Blm.upto L (Blm.size L.length) k ++ [6] = Blm.filt L := by
  unfold Blm.upto Blm.filt Blm.bitsOf; rw [List.take_of_length_le h]

/-- what the loop of Put keeps -/
def PutRel (w : World) (L : List (List UInt8)) (N n gt : Nat) (i : Value) (wr : World) : Prop :=
  ∃ k : Nat, k ≤ n ∧ i = .int .i64 (k : Int) ∧ wr.ownsRow w.heap.size 5 1 (.slice (some ⟨w.heap.size, 0, none⟩) (N + 1) (N + 1)) (N + 1) ((Blm.upto L N k ++ [6]).map bv) ∧ Tab wr gt 51 Crc.tab ∧ gt ≠ w.heap.size ∧ Below w.heap.size w wr

set_option maxHeartbeats 4000000 in
theorem blPut_any (A : Option Addr) (n c B : Nat) (T : List ByteArray) (w : World) (h : Lies w B 1 A n (T.map Value.string)) (hB : B ≤ w.heap.size) (hT : ∀ s ∈ T, s.size ≤ 1099511627776) (hn : n ≤ 1048576) :
    Calls Tryz.prog 6 #[.slice A n c] w fun e w' => Got w (Blm.size n + 1) (Blm.filt (kys T)) e w' := by
  have hTl : T.length = n := by have := h.len; simp at this; exact this
  obtain ⟨N, hN⟩ : ∃ N, Blm.size n = N := ⟨_, rfl⟩
  have hN8 : 8 ≤ N := by rw [← hN]; exact Blm.size_pos n
  obtain ⟨q, hq⟩ : ∃ q, (n * 10 + 7) / 8 = q := ⟨_, rfl⟩
  have hNq : N = max q 8 := by rw [← hN, ← hq]; rfl
  have hql : q ≤ 1310721 := by omega
  have hNl : N ≤ 1310721 := by omega
  have hmax : ∀ ts t W, (Builtin.max_ ts t #[.int .u64 (q : Int), .int .u64 8]).run Tryz.prog W = .ok (.int .u64 (N : Int)) W := fun ts t W => by
    rw [run_max_int2]
    congr 2
    split <;> omega
  have hq2 : ((n * 10 : Nat) : Int) + 8 - 1 = ((n * 10 + 7 : Nat) : Int) := by omega
  obtain ⟨t10, ht10⟩ : ∃ t, n * 10 = t := ⟨_, rfl⟩
  have HCNT := Lib.hid (countS_any A n c w (by omega))
  rw [ht10] at HCNT hq
  have hq3 : ((t10 : Int) + 8 - 1) / 8 = (q : Int) := by omega
  have htl : t10 ≤ 10485760 := by omega
  clear hq2 hNq
  obtain ⟨i0, hi, hz0, hz1, hz2⟩ := info_parts byte_info
  obtain ⟨w1, hmk, ho1, hg1⟩ := run_make_full (P := Tryz.prog) (w := w) w.heap.size 25 5 i0 _ 1 Tryz.underlying25 hi hz0 hz1 .u64 .u64 (N + 1) (by rw [hz2]; omega) (by unfold maxLen; omega) (Nat.le_refl _)
  have e : (madeCells (Value.int .u8 0).cells ((N + 1) * 1)).toList = (List.replicate (N + 1) (0 : UInt8)).map bv := by
    rw [Nat.mul_one]
    refine (toList_madeCells_one (.int .u8 0) (N + 1)).trans ?_
    rw [List.map_replicate]; rfl
  rw [e] at ho1
  have hb1 : Below w.heap.size w w1 := (Below.refl _ _).grown hg1 (Nat.le_refl _) (fun k e => by cases e)
  have hc1 : w1.cell? ⟨w.heap.size, N, none⟩ = some (.int .u8 0) := by
    rw [ho1.cellAt N (by omega), List.getElem?_map, List.getElem?_replicate, if_pos (by omega)]; rfl
  have hf1 := ho1.frozenAt N
  have hst := ho1.stored N (.int .u8 6)
  have hb2 := hb1.setCell (p := ⟨w.heap.size, N, none⟩) (Nat.le_refl _) (.int .u8 6)
  have e6 : ((List.replicate (N + 1) (0 : UInt8)).map bv).set N (.int .u8 6) = ((Blm.upto (kys T) N 0 ++ [6]).map bv) := by
    have h0 : Blm.upto (kys T) N 0 = List.replicate N 0 := by unfold Blm.upto; simp
    rw [h0, List.replicate_succ', show (Value.int .u8 6) = bv 6 from rfl, ← List.map_set, List.set_append_right _ _ (by simp)]
    simp
  rw [e6] at hst
  obtain ⟨w2, hw2⟩ : ∃ w2, w1.setCell ⟨w.heap.size, N, none⟩ (.int .u8 6) = w2 := ⟨_, rfl⟩
  rw [hw2] at hst hb2
  have hN1 : (N : Int) + 1 = ((N + 1 : Nat) : Int) := by omega
  rw [← hN1] at hmk
  have HO2 := Lib.hid hst.1; have HB2 := Lib.hid hb2
  have HH := Lib.hid h; have HT := Lib.hid hT; have HTL := Lib.hid hTl; have HNN := Lib.hid hN
  rw [hN]
  clear hst hb2 ho1 hg1 hb1 e e6 h hT hTl hN hN1 hi hz0 hz1 hz2 hq ht10
  go_enter Tryz.func6, Tryz.ntmps6
  go_wp2_with fail
  refine HCNT.out.mono ?_
  rintro e w' ⟨rfl, rfl⟩
  go_wp2_with fail
  refine (table_any w2).mono ?_
  rintro e w3 ⟨rfl, hb3⟩
  have hbs := HB2.out.size
  have HB4 := Lib.hid (lay_below (HB2.out.trans (hb3.mono hbs)) (Nat.le_trans hbs hb3.size) Crc.tab)
  have HO4 := Lib.hid ((own_below HO2.out hb3).alloc (.cells (arr Crc.tab) 51))
  have HT4 := Lib.hid (lay_tab w3 Crc.tab)
  have hgt : w3.heap.size ≠ w'.heap.size := by
    have h1 := HO2.out.lt w'.heap.size rfl
    have h2 := hb3.size
    omega
  clear hw2 hb3 HB2 HO2 hbs hc1 hf1 hmk
  go_wp2_with (first
    | refine wpList_lay rfl rfl ?_
    | refine wpList_laid rfl _ _ rfl noughts Crc.tab rfl rfl noughts_len Crc.tab_len ?_)
  obtain ⟨gt, hgt0⟩ : ∃ g, w3.heap.size = g := ⟨_, rfl⟩
  have HO4' : Hid ((lay w3 Crc.tab).ownsRow w'.heap.size 5 1 (.slice (some ⟨w'.heap.size, 0, none⟩) (N + 1) (N + 1)) (N + 1) ((Blm.upto (kys T) N 0 ++ [6]).map bv)) := HO4.out
  rw [hgt0] at HT4 hgt ⊢
  generalize lay w3 Crc.tab = w4 at *
  clear hgt0 HO4
  have R0 : Hid (PutRel w' (kys T) N n gt (.int .i64 0) w4) := ⟨0, Nat.zero_le _, rfl, HO4'.out, HT4.out, hgt, HB4.out⟩
  clear HO4' HT4 HB4 hgt
  go_loopw [23] (fun i wr => PutRel w' (kys T) N n gt i wr) (fun i _ => n - (intOf i).toNat)
  case atStart => exact R0.out
  case round =>
    clear R0
    obtain ⟨k, hk, rfl, ho, ht, hgt, hb⟩ := hrel
    have HO := Lib.hid ho; have HTB := Lib.hid ht; have HB := Lib.hid hb
    clear ho ht hb
    by_cases hlt : k < n
    · obtain ⟨b, o, u, rfl, hbB, hu, hcell0⟩ := HH.out.at_ (j := k) hlt
      obtain ⟨x, hx, rfl⟩ : ∃ x, T[k]? = some x ∧ u = Value.string x := by
        rw [List.getElem?_map] at hu
        cases hx : T[k]? with
        | none => rw [hx] at hu; cases hu
        | some x => rw [hx] at hu; injection hu with hu; exact ⟨x, rfl, hu.symm⟩
      have hcell : wr.cell? ⟨b, o + k, none⟩ = some (.string x) := (HB.out.cell (p := ⟨b, o + k, none⟩) (Nat.lt_of_lt_of_le hbB hB)).trans hcell0
      have hxs := HT.out x (List.mem_of_getElem? hx)
      have HNX : Hid (Blm.upto (kys T) N (k + 1) = Blm.putK (Blm.upto (kys T) N k) x.data.toList 6) := Blm.upto_succ _ _ _ _ (by rw [List.getElem?_map, hx]; rfl)
      have HL := Lib.hid (Blm.upto_len (kys T) N k)
      have HPO := Lib.hid (probeOf_any gt x wr.drew HTB.out.drew hxs)
      have HSA : Hid (∀ W, Below wr.drew.heap.size wr.drew W → Calls Tryz.prog 15 #[.slice (some ⟨w'.heap.size, 0, none⟩) N N, prb x.data.toList] W fun e w2 => e = .returned (.tuple #[]) ∧ w2.ownsRow w'.heap.size 5 1 (.slice (some ⟨w'.heap.size, 0, none⟩) (N + 1) (N + 1)) (N + 1) ((Blm.upto (kys T) N (k + 1) ++ [6]).map bv) ∧ W.grownBy w2 (some w'.heap.size)) := fun W hW => by
        have h1 : W.ownsRow w'.heap.size 5 1 (.slice (some ⟨w'.heap.size, 0, none⟩) (N + 1) (N + 1)) (N + 1) ((Blm.upto (kys T) N k ++ [6]).map bv) := own_below (w := wr.drew) HO.out hW
        have h2 := setAll_any w'.heap.size w'.heap.size (N + 1) (N + 1) N (Blm.upto (kys T) N k) [6] x.data.toList W h1 HL.out (by omega) (by omega)
        rw [← HNX.out] at h2
        exact h2
      have hcut : ∀ W, (Instr.slice 25 (.slice (some ⟨w'.heap.size, 0, none⟩) (N + 1) (N + 1)) none (some (.int .u64 (N : Int))) (some (.int .u64 (N : Int)))).run Tryz.prog W = .ok (.slice (some ⟨w'.heap.size, 0, none⟩) N N) W := fun W => run_head3u W _ _ _ _ _ (Nat.le_refl _) (by omega)
      clear hx hu hcell0 hxs HNX HL
      go_wp2
      go_region_held3 (fun w' => BFine w') (exact bfine _)
        (first
        | (go_at_call 16; refine HPO.out.mono ?_; rintro e w5 ⟨rfl, hb5⟩)
        | (go_at_call 15; refine (HSA.out w5 hb5).mono ?_; rintro e w6 ⟨rfl, ho6, hg6⟩))
      have hbw5 := HB.out.drew.trans (hb5.mono HB.out.drew.size)
      have R : Hid (PutRel w' (kys T) N n gt (.int .i64 ((k : Int) + 1)) w6) := by
        refine ⟨k + 1, hlt, by simp, ho6, ?_, hgt, hbw5.grown hg6 hbw5.size (fun j e => by injection e with e; omega)⟩
        exact (hg6.block gt (Nat.lt_of_lt_of_le HTB.out.lt hb5.size) (by intro e; injection e with e; exact hgt e)).trans (HTB.out.drew.below hb5 HTB.out.lt)
      clear hbw5 ho6 hg6 hb5 HSA HPO hcut hcell
      go_wp2
      go_roundw
      case rel => exact R.out
      case measure => simp [intOf]; omega
    · obtain rfl : k = n := by omega
      have hfin : Blm.upto (kys T) N k ++ [6] = Blm.filt (kys T) := by
        have h1 : (kys T).length = k := by rw [List.length_map]; exact HTL.out
        rw [← HNN.out, ← Blm.upto_all (kys T) k (Nat.le_of_eq h1), h1]
      have HO2 := HO.out
      rw [hfin] at HO2
      have HG := Lib.hid (fun e (h : e = Ending.returned (.slice (some ⟨w'.heap.size, 0, none⟩) (N + 1) (N + 1))) => h ▸ got_of HO2 HB.out)
      clear HO2 hfin
      go_wp2
      go_ret
      exact HG.out _ rfl

end Go.Proofs.YtjnmckchicmmgaaGreatDoor
