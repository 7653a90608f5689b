/-
  The document's own answers of layer 2 (bucketlineref02): Table, On, Of.
-/
import Derived.Test.YtjnmckchicmmgaaGreatDoorSumsC
namespace Go.Proofs.YtjnmckchicmmgaaGreatDoor
open Go.RowKit
set_option linter.unusedVariables false

set_option maxRecDepth 100000 in
set_option maxHeartbeats 2000000 in
theorem rtable_any (w : World) :
    Calls Tryz.prog 91 #[] w fun e w' => e = .returned (.agg (arr Crc.tab)) ∧ Below w.heap.size w w' := by
  go_enter Tryz.func91, Tryz.ntmps91
  go_wp2_with (refine wpList_newTab rfl rfl ?_)
  have T1 := Tab.new (w.alloc (.cells (arr noughts) 51)) 51 noughts
  have T0 := (Tab.new w 51 noughts).alloc (.cells (arr noughts) 51)
  have hb0 : Below w.heap.size w ((w.alloc (.cells (arr noughts) 51)).alloc (.cells (arr noughts) 51)) := ((Below.refl _ _).alloc (Nat.le_refl _) _).alloc (by simp) _
  have e0 : (w.alloc (.cells (arr noughts) 51)).heap.size = w.heap.size + 1 := by simp
  rw [e0] at T1
  go_loopw [2] (fun i wr => ∃ k : Nat, k ≤ 256 ∧ i = .int .i64 (k : Int) ∧ Tab wr (w.heap.size + 1) 51 (fillTo Crc.ent k) ∧ Tab wr w.heap.size 51 noughts ∧ Below w.heap.size w wr) (fun i _ => 256 - (intOf i).toNat)
  case atStart => exact ⟨0, Nat.zero_le _, rfl, by rw [fillTo_zero]; exact T1, T0, hb0⟩
  case round =>
    clear T1 T0 hb0 e0
    obtain ⟨k, hk, rfl, T1, T0, hb⟩ := hrel
    obtain ⟨wo, rfl⟩ : ∃ wo : World, wo = wr := ⟨_, rfl⟩
    have hbs := hb.size
    by_cases hlt : k < 256
    · obtain ⟨x, hx⟩ : ∃ x, (fillTo Crc.ent k)[k]? = some x := ⟨_, List.getElem?_eq_getElem (by rw [fillTo_len]; exact hlt)⟩
      have hc := T1.cell hx
      have hf := T1.frozen k
      have hm : (k : Int) % 4294967296 = (k : Int) := by omega
      have hi : (k : Int) < 256 := by omega
      have H1 := Lib.hid T1; have H0 := Lib.hid T0; have HB := Lib.hid hb
      have hkl : k < 4294967296 := by omega
      clear T1 T0 hb hx
      go_wp2
      go_loopw [3, 4] (fun v i wr => ∃ j : Nat, j ≤ 8 ∧ i = .int .i64 (j : Int) ∧ v = .int .u32 ((Crc.sts j k : Nat) : Int) ∧ wr = wo) (fun _ i _ => 8 - (intOf i).toNat)
      case atStart => exact ⟨0, Nat.zero_le _, rfl, rfl, rfl⟩
      case round =>
        obtain ⟨j, hj, rfl, rfl, rfl⟩ := hrel
        have hm := Crc.sts_lt j hkl
        by_cases hj8 : j < 8
        · have hs := Crc.sts_succ j k
          generalize Crc.sts j k = m at hs hm ⊢
          obtain ⟨d, hd⟩ : ∃ d, d = m / 2 := ⟨_, rfl⟩
          have hd2 : (m : Int) / 2 = (d : Int) := by omega
          have hdl : d < 4294967296 := by omega
          have hxor := u32_xor_nat d 2197175160 hdl (by omega)
          unfold Crc.st at hs
          rw [← hd] at hs
          by_cases hodd : m % 2 = 1
          · rw [if_pos hodd] at hs
            generalize d ^^^ 2197175160 = r at hxor hs
            have hrem : (m : Int) % 2 = 1 := by omega
            have hxor2 : bits .xor .u32 (d : Int) 2197175160 = (r : Int) := hxor
            clear hxor hd hodd hj
            go_wp2
            go_roundw
            case rel => exact ⟨j + 1, hj8, by go_num, by rw [hs], by first | rfl | trivial⟩
            case measure => simp [intOf]; omega
          · rw [if_neg hodd] at hs
            have hrem : (m : Int) % 2 = 0 := by omega
            clear hxor hd hodd hj
            go_wp2
            go_roundw
            case rel => exact ⟨j + 1, hj8, by go_num, by rw [hs], by first | rfl | trivial⟩
            case measure => simp [intOf]; omega
        · obtain rfl : j = 8 := by omega
          go_wp2
          go_roundw
          case rel => exact ⟨k + 1, hlt, by go_num, by rw [← fillTo_set]; exact H1.out.set k _, H0.out.far (by simp) _, HB.out.setCell (by simp) _⟩
          case measure => simp [intOf]; omega
    · obtain rfl : k = 256 := by omega
      have T2 := Lib.hid (T0.setRow (fillTo Crc.ent 256))
      have HB := Lib.hid (below_setRow hb (Nat.le_refl _) (arr (fillTo Crc.ent 256)))
      have HR := fillTo_all Crc.ent
      go_wp2_with (first
        | refine wpList_loadTab rfl _ rfl (w.heap.size + 1) rfl _ T1 (fillTo_len _ _) ?_
        | refine wpList_storeTab rfl _ _ rfl w.heap.size rfl (fillTo Crc.ent 256) rfl noughts T0 noughts_len (fillTo_len _ _) ?_)
      refine bodyPost_ret (v := .agg (arr (fillTo Crc.ent 256))) ?_ rfl ⟨?_, HB.out⟩
      · exact results_tab rfl _ _ w.heap.size _ rfl T2.out (fillTo_len _ _)
      · rw [HR]; rfl

set_option maxHeartbeats 1000000 in
/-- by any table -/
theorem ron_any (g sum n c B : Nat) (A : Option Addr) (b : List UInt8) (T : List Nat) (w : World) (hT : Tab w g 51 T) (hl : T.length = 256) (hs : Crc.Small T) (hsum : sum < 4294967296)
    (L : Lies w B 1 A n (b.map bv)) (hn : n ≤ 1099511627776) :
    Calls Tryz.prog 92 #[.pointer (some ⟨g, 0, none⟩), .int .u32 (sum : Int), .slice A n c] w fun e w' => e = .returned (.int .u32 ((Crc.on T sum b : Nat) : Int)) ∧ w' = w := by
  have HT := Lib.hid hT; have HL := Lib.hid L; have HS := Lib.hid hs
  clear hT L hs
  obtain ⟨s0, hs0⟩ : ∃ s0, s0 = 4294967295 - sum := ⟨_, rfl⟩
  have hs0l : s0 < 4294967296 := by omega
  have hon : Crc.on T sum b = 4294967295 - Crc.run T s0 b := by rw [hs0]; rfl
  have hfl : (4294967295 : Int) - (sum : Int) = (s0 : Int) := by omega
  rw [hon]
  clear hs0 hon
  go_enter Tryz.func92, Tryz.ntmps92
  go_wp2
  go_loopw [7, 8] (fun v i wr => ∃ k : Nat, k ≤ n ∧ i = .int .i64 (k : Int) ∧ v = .int .u32 ((Crc.run T s0 (b.take k) : Nat) : Int) ∧ wr = w) (fun _ i _ => n - (intOf i).toNat)
  case atStart => exact ⟨0, Nat.zero_le _, rfl, by rw [List.take_zero]; first | rfl | (simp [Crc.run]; omega), rfl⟩
  case round =>
    obtain ⟨k, hk, rfl, rfl, rfl⟩ := hrel
    have hr := Crc.run_lt HS.out (b.take k) hs0l
    by_cases hlt : k < n
    · obtain ⟨bb, o, x, rfl, _, hx, hc0⟩ := HL.out.byte hlt
      have hxl := x.toNat_lt
      have hnext := take_run T s0 k b x hx
      generalize Crc.run T s0 (b.take k) = s at hnext hr ⊢
      generalize x.toNat = xn at *
      obtain ⟨lo, hlo⟩ : ∃ lo, lo = s % 256 := ⟨_, rfl⟩
      obtain ⟨hi, hhi⟩ : ∃ hi, hi = s / 256 := ⟨_, rfl⟩
      have f1 : (s : Int) % 256 = (lo : Int) := by omega
      have f2 : (s : Int) / 256 = (hi : Int) := by omega
      have f0 : (xn : Int) % 4294967296 = (xn : Int) := by omega
      have hlol : lo < 256 := by omega
      have hhil : hi < 4294967296 := by omega
      have f3 := u32_xor_nat lo xn (by omega) (by omega)
      have hixl : lo ^^^ xn < 256 := Nat.xor_lt_two_pow (n := 8) hlol hxl
      unfold Crc.upd at hnext
      rw [← hlo, ← hhi] at hnext
      generalize lo ^^^ xn = ix at *
      obtain ⟨y, hy⟩ : ∃ y, T[ix]? = some y := ⟨_, List.getElem?_eq_getElem (by omega)⟩
      have hyl : y < 4294967296 := HS.out y (List.mem_of_getElem? hy)
      rw [List.getD_eq_getElem?_getD, hy, Option.getD_some] at hnext
      have hc1 := HT.out.cell hy
      have f4 := u32_xor_nat hi y hhil hyl
      have f5 : (ix : Int) < 256 := by omega
      have HX := Lib.hid hnext
      clear hx hlo hhi hy hnext hr
      go_wp2
      go_roundw
      case rel => exact ⟨k + 1, hlt, by go_num, by rw [HX.out], by first | rfl | trivial⟩
      case measure => simp [intOf]; omega
    · obtain rfl : n = k := by omega
      have hb : b.take n = b := List.take_of_length_le (by have := HL.out.blen; omega)
      rw [hb] at hr ⊢
      have f6 : (4294967295 : Int) - ((Crc.run T s0 b : Nat) : Int) = ((4294967295 - Crc.run T s0 b : Nat) : Int) := by omega
      go_wp2
      go_ret
      exact ⟨by first | rfl | (rw [f6]), rfl⟩

end Go.Proofs.YtjnmckchicmmgaaGreatDoor
