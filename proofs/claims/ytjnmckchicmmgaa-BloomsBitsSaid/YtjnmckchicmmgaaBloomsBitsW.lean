/-
  The walk of BloomsBits.
-/
import Derived.Test.YtjnmckchicmmgaaLaw9
import Derived.Test.YtjnmckchicmmgaaMore
import Derived.Test.YtjnmckchicmmgaaTwin
import Derived.Deep.RegionLaw
import Derived.Laws.OwnMore
namespace Go.Proofs.Ytjnmckchicmmgaa
open Go.RowKit
set_option linter.unusedVariables false
set_option maxRecDepth 100000

/-- what the loop that sets more bits keeps -/
def YRel (w0 : World) (base g m c : Nat) (a : List UInt8) (i : Value) (wr : World) : Prop :=
  ∃ (k : Nat) (yb : List UInt8), k ≤ m ∧ i = .int .i64 (k : Int) ∧ More a yb ∧ wr.ownsRow base 5 1 (.slice (some ⟨g, 0, none⟩) (m + 1) c) (m + 1) ((yb ++ [6]).map bv) ∧ Below base w0 wr

set_option maxHeartbeats 8000000 in
/-- where nothing is let go -/
theorem bloomsBits_main (A : Option Addr) (m c : Nat) (b : List UInt8) (A2 : Option Addr) (n2 c2 : Nat) (d : List UInt8) (s : ByteArray) (w : World) (L : Lies w w.heap.size 1 A (m + 1) (b.map bv)) (hnc : m + 1 ≤ c) (hc : c ≤ 140737488351232)
    (L2 : Lies w w.heap.size 1 A2 n2 (d.map bv)) (hnc2 : n2 ≤ c2) (hc2 : c2 ≤ 140737488351232) (hs : s.size ≤ 10000) (h1 : m + 1 ≤ 10000) (h8 : 8 ≤ m) :
    Calls Try.prog 6 #[.slice A (m + 1) c, .slice A2 n2 c2, .string s] w fun e w' => e = .returned (.bool true) ∧ Below w.heap.size w w' := by
  have d1 : decide ((10000 : Int) < ((m + 1 : Nat) : Int)) = false := by simp; omega
  have d1' : decide ((10000 : Int) < (m : Int) + 1) = false := by simp; omega
  have d2 : decide ((10000 : Int) < (s.size : Int)) = false := by simp; omega
  have d3 : decide (((m + 1 : Nat) : Int) < 9) = false := by simp; omega
  have d3' : decide ((m : Int) + 1 < 9) = false := by simp; omega
  have HL := Lib.hid L; have HL2 := Lib.hid L2
  have HBL := Lib.hid L.blen
  clear L L2
  go_enter Try.func6, Try.ntmps6
  go_wp2_with fail
  refine (alive9_any w).mono ?_
  rintro e w1 ⟨rfl, hb1⟩
  have HB1 := Lib.hid hb1
  have HTW := Lib.hid (twin_own A (m + 1) c b w1 ((HL.out.below hb1).more hb1.size) (by omega))
  clear hb1
  go_wp2_with fail
  refine HTW.out.mono ?_
  rintro e w2 ⟨gx, cx, rfl, hcx, hmx, hox, hb2⟩
  have HB2 := Lib.hid (HB1.out.trans (hb2.mono HB1.out.size))
  have hgx := hox.lt gx rfl
  have hst := hox.stored m (.int .u8 6)
  have hcell : ∃ u, w2.cell? ⟨gx, m, none⟩ = some u := by
    rw [hox.cellAt m (by omega)]
    exact ⟨_, List.getElem?_eq_getElem (by have := HBL.out; simp; omega)⟩
  obtain ⟨u0, hcell⟩ := hcell
  have hfz := hox.frozenAt m
  have ex : (b.map bv).set m (.int .u8 6) = (b.take m ++ [6]).map bv := by
    rw [← set_last b m HBL.out, List.map_set]; rfl
  rw [ex] at hst
  have hb3 : Below w.heap.size w (w2.setCell ⟨gx, m, none⟩ (.int .u8 6)) := HB2.out.setCell (p := ⟨gx, m, none⟩) (Nat.le_trans HB1.out.size hgx.1) _
  obtain ⟨w3, hw3⟩ : ∃ w3, w2.setCell ⟨gx, m, none⟩ (.int .u8 6) = w3 := ⟨_, rfl⟩
  rw [hw3] at hst hb3
  have HB3 := Lib.hid hb3
  have HX3 := Lib.hid hst.1
  have HTY := Lib.hid (twin_own (some ⟨gx, 0, none⟩) (m + 1) cx _ w3 (Lies.of_own hst.1) (by omega))
  unfold maxLen at hmx
  clear hst ex hb2 hox hb3 hgx HTW
  go_wp2_with fail
  refine HTY.out.mono ?_
  rintro e w4 ⟨gy, cy, rfl, hcy, hmy, hoy, hb4⟩
  have HB4 := Lib.hid (HB3.out.trans (hb4.mono HB3.out.size))
  have HX4 := Lib.hid (own_below HX3.out hb4)
  have HZ : Hid (w.heap.size ≤ w3.heap.size) := HB3.out.size
  have R0 : Hid (YRel w3 w3.heap.size gy m cy (b.take m) (.int .i64 0) w4) := ⟨0, b.take m, Nat.zero_le _, rfl, More.refl _, hoy, hb4⟩
  unfold maxLen at hmy
  clear hb4 hoy HTY hw3 hcell hfz HX4
  go_wp2
  go_loopw [9] (fun i wr => YRel w3 w3.heap.size gy m cy (b.take m) i wr) (fun i _ => m - (intOf i).toNat)
  case atStart => exact R0.out
  case round =>
    clear R0
    obtain ⟨k, yb, hk, rfl, hmore, hown, hb⟩ := hrel
    have HMO := Lib.hid hmore; have HOW := Lib.hid hown; have HB := Lib.hid hb
    clear hmore hown hb
    have hbl : (b.take m).length = m := by rw [List.length_take, HBL.out]; omega
    have hyl : yb.length = m := by rw [← HMO.out.1, hbl]
    by_cases hlt : k < m ∧ k < n2
    · obtain ⟨hkm, hkn⟩ := hlt
      obtain ⟨bb, o, x, rfl, hbB, hx, hc0⟩ := HL2.out.byte hkn
      have hbw : Below w.heap.size w wr := HB3.out.trans (HB.out.mono HZ.out)
      have hcx2 : wr.cell? ⟨bb, o + k, none⟩ = some (.int .u8 (x.toNat : Int)) := (hbw.cell (p := ⟨bb, o + k, none⟩) hbB).trans hc0
      obtain ⟨yy, hy⟩ : ∃ yy, yb[k]? = some yy := ⟨_, List.getElem?_eq_getElem (by omega)⟩
      have hcy2 : wr.cell? ⟨gy, k, none⟩ = some (.int .u8 (yy.toNat : Int)) := by
        rw [HOW.out.cellAt k (by omega), List.getElem?_map, List.getElem?_append_left (by omega), hy]; rfl
      have hfy := HOW.out.frozenAt k
      have hxl := x.toNat_lt
      have hyyl := yy.toNat_lt
      have hor := u8_or_nat yy.toNat x.toNat hyyl hxl
      have hlt8 : yy.toNat ||| x.toNat < 256 := Nat.or_lt_two_pow (n := 8) hyyl hxl
      have hm2 := HMO.out.set hy x.toNat hlt8
      have hst := HOW.out.stored k (.int .u8 ((yy.toNat ||| x.toNat : Nat) : Int))
      have e : ((yb ++ [6]).map bv).set k (.int .u8 ((yy.toNat ||| x.toNat : Nat) : Int)) = (yb.set k (UInt8.ofNat (yy.toNat ||| x.toNat)) ++ [6]).map bv := by
        rw [← List.set_append_left _ _ (by omega), List.map_set, bv_ofNat _ hlt8]
      rw [e] at hst
      have hlow := (HOW.out.lt gy rfl).1
      have R : Hid (YRel w3 w3.heap.size gy m cy (b.take m) (.int .i64 ((k : Int) + 1)) (wr.setCell ⟨gy, k, none⟩ (.int .u8 ((yy.toNat ||| x.toNat : Nat) : Int))).drew) :=
        ⟨k + 1, _, hkm, by simp, hm2, hst.1, (HB.out.setCell (p := ⟨gy, k, none⟩) hlow _).drew⟩
      clear hm2 hst e hy hx hc0 hbw
      generalize x.toNat = xn at *
      generalize yy.toNat = yn at *
      generalize yn ||| xn = zn at *
      have i1 : decide (k < n2) = true := by simp; omega
      have i1' : decide ((k : Int) < (n2 : Int)) = true := by simp; omega
      have i2 : (k : Int) < (m : Int) + 1 := by omega
      have i3 : (k : Int) < (n2 : Int) := by omega
      have i4 : (0 : Int) ≤ (k : Int) := by omega
      go_wp2
      go_region_law (fail)
      all_goals (
        clear hcx2 hcy2 hfy hor
        go_wp2
        go_roundw
        case rel => exact R.out
        case measure => simp [intOf]; omega)
    · have hbw := HB3.out.trans (HB.out.mono HZ.out)
      have HX5 := Lib.hid (own_below HX3.out HB.out)
      have HW5 := Lib.hid hbw
      clear hbw
      have HY5 := Lib.hid (Lies.of_own HOW.out)
      obtain ⟨i0, hi, hz0, hz1, hz2⟩ := info_parts byte_info
      obtain ⟨w6, hmk, ho6, hg6⟩ := run_make_full (P := Try.prog) (w := wr) wr.heap.size 22 5 i0 _ 1 Try.underlying22 hi hz0 hz1 .i64 .i64 (m + 1) (by rw [hz2]; omega) (by unfold maxLen; omega) (Nat.le_refl _)
      have e6 : (madeCells (Value.int .u8 0).cells ((m + 1) * 1)).toList = (List.replicate (m + 1) (0 : UInt8)).map bv := by
        rw [Nat.mul_one]
        refine (toList_madeCells_one (.int .u8 0) (m + 1)).trans ?_
        rw [List.map_replicate]; rfl
      rw [e6] at ho6
      have hb6 : Below wr.heap.size wr w6 := (Below.refl _ _).grown hg6 (Nat.le_refl _) (fun k e => by cases e)
      have hc6 : w6.cell? ⟨wr.heap.size, m, none⟩ = some (.int .u8 0) := by
        rw [ho6.cellAt m (by omega), List.getElem?_map, List.getElem?_replicate, if_pos (by omega)]; rfl
      have hf6 := ho6.frozenAt m
      have hst := ho6.stored m (.int .u8 6)
      have en : ((List.replicate (m + 1) (0 : UInt8)).map bv).set m (.int .u8 6) = (List.replicate m (0 : UInt8) ++ [6]).map bv := by
        have h2 := set_last (List.replicate (m + 1) (0 : UInt8)) m (by simp) 6
        rw [show (Value.int .u8 6) = bv 6 from rfl, ← List.map_set, h2, List.take_replicate, Nat.min_eq_left (by omega)]
      rw [en] at hst
      have hb7 := hb6.setCell (p := ⟨wr.heap.size, m, none⟩) (Nat.le_refl _) (.int .u8 6)
      obtain ⟨w7, hw7⟩ : ∃ w7, w6.setCell ⟨wr.heap.size, m, none⟩ (.int .u8 6) = w7 := ⟨_, rfl⟩
      rw [hw7] at hst hb7
      have hm1 : ((m + 1 : Nat) : Int) = (m : Int) + 1 := by omega
      rw [hm1] at hmk
      have HW7 := Lib.hid (HW5.out.trans (hb7.mono HW5.out.size))
      have HX7 := Lib.hid (Lies.of_own (own_below HX5.out hb7))
      have HY7 := Lib.hid ((HY5.out.below hb7).more hb7.size)
      have HN7 := Lib.hid (Lies.of_own hst.1)
      have HLK : Hid (Lies (w7.alloc (.cells #[.string s] 9)) (w7.alloc (.cells #[.string s] 9)).heap.size 1 (some ⟨w7.heap.size, 0, none⟩) 1 ([s].map Value.string)) := by
        have h := one_lies (w := w7) rfl (.string s) 9
        rw [Hid, World.size_alloc]; exact h
      have HP := Lib.hid (put9_any 1 9 (by decide) (some ⟨w7.heap.size, 0, none⟩) 1 _ [s] _ HLK.out (Nat.le_refl _) (fun t ht => by rw [List.mem_singleton.1 ht]; omega) (by decide))
      clear e6 en ho6 hg6 hb6 hst hb7 hm1 hi hz0 hz1 hz2
      have hway : (decide (k < n2) = true ∧ decide ((k : Int) < (n2 : Int)) = true ∧ decide (k < m) = false ∧ decide ((k : Int) < (m : Int)) = false) ∨ (decide (k < n2) = false ∧ decide ((k : Int) < (n2 : Int)) = false) := by
        rcases Nat.lt_or_ge k n2 with h | h
        · exact .inl ⟨by simp; omega, by simp; omega, by simp; omega, by simp; omega⟩
        · exact .inr ⟨by simp; omega, by simp; omega⟩
      rcases hway with ⟨i1, i1', i2, i2'⟩ | ⟨i1, i1'⟩
      all_goals (
        go_wp2_with fail
        refine HP.out.mono ?_
        rintro e w8 ⟨A8, c8, rfl, hc8, hm8, ho8, hb8⟩
        have hb78 : Below w7.heap.size w7 w8 := ((Below.refl _ _).alloc (Nat.le_refl _) _).trans (hb8.mono (by simp))
        have HW8 := Lib.hid (HW7.out.trans (hb78.mono HW7.out.size))
        have HX8 := Lib.hid ((HX7.out.below hb78).more hb78.size)
        have HY8 := Lib.hid ((HY7.out.below hb78).more hb78.size)
        have HN8 := Lib.hid ((HN7.out.below hb78).more hb78.size)
        have hl8 := Lies.of_own ho8
        have hF : Blm.filt (kys [s]) = Blm.bitsOf [s.data.toList] ++ [6] := rfl
        rw [hF] at hl8
        have HO8 := Lib.hid hl8
        have HFL : Hid ((Blm.bitsOf [s.data.toList]).length = 8) := by have := hl8.blen; simp at this; exact this
        obtain ⟨F, hFF⟩ : ∃ F, Blm.bitsOf [s.data.toList] = F := ⟨_, rfl⟩
        have HC1 := Lib.hid (Blm.cnt_one s.data.toList)
        rw [hFF] at HO8 HFL HC1
        have R0 : Hid (∃ j : Nat, j ≤ 8 ∧ (Value.int .i64 0) = .int .i64 (j : Int) ∧ (Value.int .i64 0) = .int .i64 ((Blm.cnt (Blm.has F) (8 * j) : Nat) : Int)) := ⟨0, Nat.zero_le _, rfl, rfl⟩
        unfold maxLen at hm8
        clear ho8 hb8 hb78 HX7 HY7 HN7 HW7 HP HLK hl8 hF hFF hmk hc6 hf6 hw7
        go_wp2
        go_loop [12, 13] (fun t i => ∃ j : Nat, j ≤ 8 ∧ i = .int .i64 (j : Int) ∧ t = .int .i64 ((Blm.cnt (Blm.has F) (8 * j) : Nat) : Int)) (fun _ i => 8 - (intOf i).toNat)
        case atStart => exact R0.out
        case round =>
          clear R0
          obtain ⟨j, hj, rfl, rfl⟩ := hrel
          by_cases hj8 : j < 8
          · obtain ⟨bo, oo, x, rfl, hbo, hx, hcx8⟩ := HO8.out.byte (k := j) (by omega)
            rw [List.getElem?_append_left (by have := HFL.out; omega)] at hx
            have HXX := Lib.hid hx
            have hxl := x.toNat_lt
            have hj9 : (j : Int) < 8 := by omega
            clear hx
            have R1 : Hid (∃ t : Nat, t ≤ 8 ∧ (Value.int .i64 0) = .int .i64 (t : Int) ∧ (Value.int .i64 ((Blm.cnt (Blm.has F) (8 * j) : Nat) : Int)) = .int .i64 ((Blm.cnt (Blm.has F) (8 * j + t) : Nat) : Int)) := ⟨0, Nat.zero_le _, rfl, rfl⟩
            go_wp2
            go_loop [12, 14] (fun v i => ∃ t : Nat, t ≤ 8 ∧ i = .int .i64 (t : Int) ∧ v = .int .i64 ((Blm.cnt (Blm.has F) (8 * j + t) : Nat) : Int)) (fun _ i => 8 - (intOf i).toNat)
            case atStart => exact R1.out
            case round =>
              clear R1
              obtain ⟨t, ht, rfl, rfl⟩ := hrel
              have hcl := Blm.cnt_le (Blm.has F) (8 * j + t)
              by_cases ht8 : t < 8
              · have HNX : Hid (Blm.cnt (Blm.has F) (8 * j + (t + 1)) = Blm.cnt (Blm.has F) (8 * j + t) + (if x.toNat.testBit t = true then 1 else 0)) := by
                  show Blm.cnt (Blm.has F) (8 * j + t) + (if Blm.has F (8 * j + t) = true then 1 else 0) = _
                  rw [Blm.has_at HXX.out ht8]
                generalize Blm.cnt (Blm.has F) (8 * j + t) = cc at *
                obtain ⟨z, hz⟩ : ∃ z, x.toNat / 2 ^ t = z := ⟨_, rfl⟩
                obtain ⟨v, hv⟩ : ∃ v, z % 2 = v := ⟨_, rfl⟩
                have hzl : z < 256 := by
                  have := Nat.div_le_self x.toNat (2 ^ t)
                  have : x.toNat < 256 := by simpa using hxl
                  omega
                have g1 : (x.toNat : Int) / 2 ^ t = (z : Int) := by rw [← hz]; simp
                have g2 := u8_and_nat z 1 hzl (by decide)
                rw [Nat.and_one_is_mod, hv] at g2
                have g3 : bits .and .u8 (z : Int) 1 = (v : Int) := g2
                have hvl : v ≤ 1 := by omega
                have HNX2 : Hid (Blm.cnt (Blm.has F) (8 * j + (t + 1)) = cc + v) := by
                  rw [Hid, HNX.out, Blm.bit_div, hz, hv]
                  have hv2 : v = 0 ∨ v = 1 := by omega
                  rcases hv2 with h | h <;> simp [h]
                generalize x.toNat = xn at *
                clear g2 hz hv HNX
                have hccl : cc ≤ 64 := by omega
                go_wp2
                go_round
                case rel => exact ⟨t + 1, ht8, by go_num, by rw [HNX2.out]; go_num⟩
                case measure => simp [intOf]; omega
              · obtain rfl : t = 8 := by omega
                have HNX : Hid (Blm.cnt (Blm.has F) (8 * (j + 1)) = Blm.cnt (Blm.has F) (8 * j + 8)) := by rw [Nat.mul_add]; rfl
                go_wp2
                go_round
                case rel => exact ⟨j + 1, hj8, by go_num, by rw [HNX.out]⟩
                case measure => simp [intOf]; omega
          · obtain rfl : j = 8 := by omega
            have h64 : Blm.cnt (Blm.has F) (8 * 8) = Blm.cnt (Blm.has F) 64 := rfl
            obtain ⟨hc1, hc2'⟩ := HC1.out
            rw [h64]
            generalize Blm.cnt (Blm.has F) 64 = cc at *
            clear h64
            have hxm := may9_any (some ⟨gx, 0, none⟩) (m + 1) cx _ _ s w8 HX8.out (Nat.le_refl _) hcx (by omega) (by omega)
            rw [may_six _ _ (by omega)] at hxm
            have HXM := Lib.hid hxm
            have HYM : Hid (∀ W, Below w8.heap.size w8 W → Calls Try.prog 15 #[.slice (some ⟨gy, 0, none⟩) (m + 1) cy, .string s] W fun e w' => e = .returned (.bool (Blm.hasK yb s.data.toList 6)) ∧ Below W.heap.size W w') := fun W hW => by
              have h := may9_any (some ⟨gy, 0, none⟩) (m + 1) cy _ _ s W ((HY8.out.below hW).more hW.size) (Nat.le_refl _) hcy (by omega) (by omega)
              rw [may_six _ _ (by omega)] at h
              exact h
            have HNM : Hid (∀ W, Below w8.heap.size w8 W → Calls Try.prog 15 #[.slice (some ⟨wr.heap.size, 0, none⟩) (m + 1) (m + 1), .string s] W fun e w' => e = .returned (.bool false) ∧ Below W.heap.size W w') := fun W hW => by
              have h := may9_any (some ⟨wr.heap.size, 0, none⟩) (m + 1) (m + 1) _ _ s W ((HN8.out.below hW).more hW.size) (Nat.le_refl _) (Nat.le_refl _) (by omega) (by omega)
              rw [may_six _ _ (by simp; omega), Blm.hasK_zero] at h
              exact h
            have HMK := Lib.hid (fun h => HMO.out.hasK (s := s.data.toList) h)
            generalize Blm.hasK yb s.data.toList 6 = ay at *
            generalize Blm.hasK (b.take m) s.data.toList 6 = ax at *
            have i5 : decide ((1 : Int) ≤ (cc : Int)) = true := by simp; omega
            have i6 : decide ((cc : Int) ≤ 6) = true := by simp; omega
            clear hxm
            cases ax with
            | false =>
              go_wp2_with fail
              refine HXM.out.mono ?_
              rintro e w9 ⟨rfl, hb9⟩
              have HB9 := Lib.hid hb9; clear hb9
              go_wp2_with fail
              refine (HNM.out w9 HB9.out).mono ?_
              rintro e w10 ⟨rfl, hb10⟩
              have R := Lib.hid (HW8.out.trans ((HB9.out.trans (hb10.mono HB9.out.size)).mono HW8.out.size))
              clear hb10
              go_wp2
              go_ret
              exact ⟨rfl, R.out⟩
            | true =>
              obtain rfl : ay = true := HMK.out rfl
              go_wp2_with fail
              refine HXM.out.mono ?_
              rintro e w9 ⟨rfl, hb9⟩
              have HB9 := Lib.hid hb9; clear hb9
              go_wp2_with fail
              refine (HYM.out w9 HB9.out).mono ?_
              rintro e w10 ⟨rfl, hb10⟩
              have HB10 := Lib.hid (HB9.out.trans (hb10.mono HB9.out.size)); clear hb10
              go_wp2_with fail
              refine (HNM.out w10 HB10.out).mono ?_
              rintro e w11 ⟨rfl, hb11⟩
              have R := Lib.hid (HW8.out.trans ((HB10.out.trans (hb11.mono HB10.out.size)).mono HW8.out.size))
              clear hb11
              go_wp2
              go_ret
              exact ⟨rfl, R.out⟩)

set_option maxHeartbeats 2000000 in
theorem bloomsBits_walk (A : Option Addr) (n c : Nat) (b : List UInt8) (A2 : Option Addr) (n2 c2 : Nat) (d : List UInt8) (s : ByteArray) (w : World) (L : Lies w w.heap.size 1 A n (b.map bv)) (hnc : n ≤ c) (hc : c ≤ 140737488351232)
    (L2 : Lies w w.heap.size 1 A2 n2 (d.map bv)) (hnc2 : n2 ≤ c2) (hc2 : c2 ≤ 140737488351232) (hs : s.size ≤ 140737488351232) :
    Calls Try.prog 6 #[.slice A n c, .slice A2 n2 c2, .string s] w fun e w' => e = .returned (.bool true) ∧ Below w.heap.size w w' := by
  have last : Hid (∀ W : World, Below w.heap.size w W → Calls Try.prog 12 #[] W fun e w' => e = .returned (.bool true) ∧ Below w.heap.size w w') := fun W hW =>
    (alive9_any W).mono fun e w' ⟨he, hb⟩ => ⟨he, hW.trans (hb.mono hW.size)⟩
  by_cases h1 : 10000 < n
  · have d1 : decide ((10000 : Int) < (n : Int)) = true := by simp; omega
    clear L L2
    go_enter Try.func6, Try.ntmps6
    go_wp2_with fail
    refine (alive9_any w).mono ?_
    rintro e w1 ⟨rfl, hb1⟩
    go_wp2_with fail
    refine (last.out w1 hb1).mono ?_
    rintro e w2 ⟨rfl, hb2⟩
    go_wp2
    go_ret
    exact ⟨rfl, hb2⟩
  have d1 : decide ((10000 : Int) < (n : Int)) = false := by simp; omega
  by_cases h2 : 10000 < s.size
  · have d2 : decide ((10000 : Int) < (s.size : Int)) = true := by simp; omega
    clear L L2
    go_enter Try.func6, Try.ntmps6
    go_wp2_with fail
    refine (alive9_any w).mono ?_
    rintro e w1 ⟨rfl, hb1⟩
    go_wp2_with fail
    refine (last.out w1 hb1).mono ?_
    rintro e w2 ⟨rfl, hb2⟩
    go_wp2
    go_ret
    exact ⟨rfl, hb2⟩
  have d2 : decide ((10000 : Int) < (s.size : Int)) = false := by simp; omega
  by_cases h3 : n < 9
  · have d3 : decide ((n : Int) < 9) = true := by simp; omega
    clear L L2
    go_enter Try.func6, Try.ntmps6
    go_wp2_with fail
    refine (alive9_any w).mono ?_
    rintro e w1 ⟨rfl, hb1⟩
    go_wp2_with fail
    refine (last.out w1 hb1).mono ?_
    rintro e w2 ⟨rfl, hb2⟩
    go_wp2
    go_ret
    exact ⟨rfl, hb2⟩
  obtain ⟨m, rfl⟩ : ∃ m, n = m + 1 := ⟨n - 1, by omega⟩
  exact bloomsBits_main A m c b A2 n2 c2 d s w L hnc hc L2 hnc2 hc2 (by omega) (by omega) (by omega)
end Go.Proofs.Ytjnmckchicmmgaa
