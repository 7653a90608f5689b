/-
  The walk of IntsTexts.
-/
import Derived.Test.YthjhoealkalfgaaLaw1
namespace Go.Proofs.Ythjhoealkalfgaa
open Go.RowKit
set_option linter.unusedVariables false

theorem str_back (s : ByteArray) : (⟨s.data.toList.toArray⟩ : ByteArray) = s := by cases s; simp

set_option maxHeartbeats 2000000 in
theorem intsTexts_yes (s : ByteArray) (n : Nat) (A1 : Option Addr) (n1 c1 : Nat) (w : World) (hs : s.size ≤ 140737488351232) (x1 : c1 ≤ 140737488351232) (z1 : n1 ≤ c1) (hbig : 1048576 < s.size + n1) :
    Calls Try.prog 5 #[.string s, .int .u32 (n : Int), .slice A1 n1 c1] w fun e w' => e = .returned (.bool true) ∧ Below w.heap.size w w' := by
  go_enter Try.func5, Try.ntmps5
  go_wp2_with fail
  refine (alive_any w).mono ?_
  rintro e w1 ⟨rfl, hb1⟩
  go_wp2_with fail
  refine (beyond_yes (s.size + n1) w1 (by omega) hbig).mono ?_
  rintro e w2 ⟨rfl, hb2⟩
  have HB := Lib.hid (hb1.trans (hb2.mono hb1.size)); clear hb1 hb2
  go_wp2_with fail
  refine (alive_any w2).mono ?_
  rintro e w3 ⟨rfl, hb3⟩
  have HB3 := Lib.hid (HB.out.trans (hb3.mono HB.out.size)); clear hb3 HB
  go_wp2
  go_ret
  exact ⟨rfl, HB3.out⟩

set_option maxHeartbeats 4000000 in
theorem intsTexts_no (s : ByteArray) (n : Nat) (A1 : Option Addr) (n1 c1 : Nat) (l1 : List UInt8) (w : World) (hn : n < 4294967296) (y1 : Lies w w.heap.size 1 A1 n1 (l1.map bv)) (hbig : s.size + n1 ≤ 1048576) :
    Calls Try.prog 5 #[.string s, .int .u32 (n : Int), .slice A1 n1 c1] w fun e w' => e = .returned (.bool true) ∧ Below w.heap.size w w' := by
  obtain ⟨i0, hi, hz0, hz1, hz2⟩ := info_parts byte_info
  have Y1 := Lib.hid y1; clear y1
  go_enter Try.func5, Try.ntmps5
  go_wp2_with fail
  refine (alive_any w).mono ?_
  rintro e w1 ⟨rfl, hb1⟩
  go_wp2_with fail
  refine (beyond_no (s.size + n1) w1 hbig).mono ?_
  rintro e w2 ⟨rfl, hb2⟩
  have HB := Lib.hid (hb1.trans (hb2.mono hb1.size)); clear hb1 hb2
  go_wp2_with fail
  refine (putText_some A1 n1 c1 s l1 w2 ((Y1.out.below HB.out).more HB.out.size) (by omega)).mono ?_
  rintro e w3 ⟨g, c, rfl, hnc, hcm, hown, hb3⟩
  have HB3 := Lib.hid (HB.out.trans (hb3.mono HB.out.size)); clear HB hb3
  have q1 := Vi.enc_pos s.size
  have q2 := Vi.enc_len s.size
  have L3 := Lib.hid (Lies.of_own hown); clear hown
  obtain ⟨k, hk⟩ : ∃ k, (Vi.enc s.size).length + s.size = k := ⟨_, rfl⟩
  have qk1 : 1 ≤ k := by omega
  have qk2 : k ≤ 1048586 := by omega
  rw [hk] at hnc L3
  rw [hk]
  obtain ⟨r, hr⟩ : ∃ r, Vi.enc s.size ++ s.data.toList = r := ⟨_, rfl⟩
  rw [hr] at L3
  have HK := Lib.hid hk; have HR := Lib.hid hr
  clear hk hr q1 q2
  go_wp2_with fail
  refine (putFour_some A1 n1 c1 n l1 w3 ((Y1.out.below HB3.out).more HB3.out.size) hn (by omega)).mono ?_
  rintro e w4 ⟨g4, c4, rfl, hnc4, hcm4, hown4, hb4⟩
  have L34 := Lib.hid ((L3.out.below hb4).more hb4.size)
  have HB4 := Lib.hid (HB3.out.trans (hb4.mono HB3.out.size)); clear HB3 hb4 L3
  have L4 := Lib.hid (Lies.of_own hown4); clear hown4
  have hl1 := Y1.out.blen
  have T1 : Lies w4 w4.heap.size 1 (some ⟨g, 0, none⟩) n1 (l1.map bv) := by
    have := L34.out.take_ (m := n1) (by omega)
    rw [List.map_append, List.take_append_of_le_length (by simp; omega), List.take_of_length_le (by simp; omega)] at this
    exact this
  have D1 : Lies w4 w4.heap.size 1 (some ⟨g, n1, none⟩) k (r.map bv) := by
    have := L34.out.drop_ (m := n1) (by omega)
    rw [List.map_append, List.drop_append, List.drop_eq_nil_of_le (by simp; omega)] at this
    simp [hl1, add_lit] at this
    exact this
  have T2 : Lies w4 w4.heap.size 1 (some ⟨g4, 0, none⟩) n1 (l1.map bv) := by
    have := L4.out.take_ (m := n1) (by omega)
    rw [List.map_append, List.take_append_of_le_length (by simp; omega), List.take_of_length_le (by simp; omega)] at this
    exact this
  have D2 : Lies w4 w4.heap.size 1 (some ⟨g4, n1, none⟩) 4 ((four n).map bv) := by
    have := L4.out.drop_ (m := n1) (by omega)
    rw [List.map_append, List.drop_append, List.drop_eq_nil_of_le (by simp; omega)] at this
    simp [hl1, add_lit] at this
    exact this
  have S1 := same_any (some ⟨g, 0, none⟩) A1 n1 n1 c c1 w4.heap.size l1 l1 w4 T1 ((Y1.out.below HB4.out).more HB4.out.size) (by omega)
  rw [sameB_self] at S1
  have S := Lib.hid S1
  have DD1 := Lib.hid D1; have DD2 := Lib.hid D2; have TT2 := Lib.hid T2
  clear S1 T1 T2 D1 D2 L34 L4 hl1
  unfold maxLen at hcm hcm4
  go_wp2_with fail
  refine S.out.mono ?_
  rintro e w5 ⟨rfl, q, rfl⟩
  have S2 := same_any (some ⟨g4, 0, none⟩) A1 n1 n1 c4 c1 w4.heap.size l1 l1 (w4.drewN q) (TT2.out.drewN q) (((Y1.out.below HB4.out).more HB4.out.size).drewN q) (by omega)
  rw [sameB_self] at S2
  have SS2 := Lib.hid S2
  clear S2 S TT2
  go_wp2_with fail
  refine SS2.out.mono ?_
  rintro e w6 ⟨rfl, q2, rfl⟩
  rw [World.drewN_drewN]
  clear SS2
  go_wp2_with fail
  refine (twin_own (some ⟨g, n1, none⟩) k (c - n1) _ (w4.drewN (q + q2)) (DD1.out.drewN _) (by omega)).mono ?_
  rintro e w7 ⟨g7, c7, rfl, hnc7, hcm7, hown7, hb7⟩
  have hwz : w.heap.size ≤ (w4.drewN (q + q2)).heap.size := HB4.out.size
  have HB7 : Hid (Below w.heap.size w w7) := (below_drewN HB4.out _).trans (hb7.mono HB4.out.size)
  have H47 : Hid (Below w4.heap.size (w4.drewN (q + q2)) w7) := hb7
  have DD27 := Lib.hid (DD2.out.drewN (q + q2))
  have Y7 := Lib.hid ((Y1.out.below HB7.out).more HB7.out.size)
  clear DD1 DD2 hb7 HB4
  go_wp2_with (at_builtin; refine wpList_app _ rfl (.tmp 69) (.tmp 70) 22 rfl w.heap.size 5 i0 _ 1 1 Try.underlying22 hi hz0 hz1 hz2 rfl (by decide) (.slice (some ⟨g7, 0, none⟩) k c7) k (r.map bv) rfl (own_base hown7 hwz) w7.heap.size A1 n1 c1 (l1.map bv) rfl Y7.out (bv_one l1) ?c1 ?c2 ?c3 ?_)
  case c1 => unfold maxLen; omega
  case c2 => omega
  case c3 => exact HB7.out.size
  intro v8 w8 hown8 hg8 _
  have hrow : ∀ j, (Value.slice (some ⟨g7, 0, none⟩) k c7).ownBlock = some j → w.heap.size ≤ j := fun j hj => Nat.le_trans hwz (hown7.lt j hj).1
  have HB8 := Lib.hid (HB7.out.grown hg8 HB7.out.size hrow)
  have H48 := H47.out.grown hg8 H47.out.size (fun j hj => (hown7.lt j hj).1)
  have DD8 := Lib.hid ((DD27.out.below H48).more H48.size)
  clear H47 H48 DD27 hown7 hrow Y7 HB7 hg8
  obtain ⟨A8, c8, rfl, hnc8, hcm8, _⟩ := own_shape hown8
  have L8 : Lies w8 w8.heap.size 1 A8 (k + n1) ((Vi.enc s.size ++ (s.data.toList ++ l1)).map bv) := by
    rw [← List.append_assoc, HR.out, List.map_append]; exact Lies.of_own hown8
  have G := getText_any A8 (k + n1) c8 _ w8 L8 hnc8 hcm8
  rw [getText_enc s l1 (by omega), HK.out, str_back] at G
  have G8 := Lib.hid G
  clear G L8 hown8
  go_wp2_with fail
  refine G8.out.mono ?_
  rintro e w9 ⟨rfl, hb9⟩
  have HB9 := Lib.hid (HB8.out.trans (hb9.mono HB8.out.size))
  have DD9 := Lib.hid ((DD8.out.below hb9).more hb9.size)
  clear hb9 HB8 G8 DD8
  go_wp2_with fail
  refine (twin_own (some ⟨g4, n1, none⟩) 4 (c4 - n1) _ w9 DD9.out (by decide)).mono ?_
  rintro e w10 ⟨g10, c10, rfl, hnc10, hcm10, hown10, hb10⟩
  have hwz9 : w.heap.size ≤ w9.heap.size := HB9.out.size
  have HB10 := Lib.hid (HB9.out.trans (hb10.mono HB9.out.size))
  have Y10 := Lib.hid ((Y1.out.below HB10.out).more HB10.out.size)
  clear DD9 hb10 HB9
  go_wp2_with (at_builtin; refine wpList_app _ rfl (.tmp 81) (.tmp 82) 22 rfl w.heap.size 5 i0 _ 1 1 Try.underlying22 hi hz0 hz1 hz2 rfl (by decide) (.slice (some ⟨g10, 0, none⟩) 4 c10) 4 ((four n).map bv) rfl (own_base hown10 hwz9) w10.heap.size A1 n1 c1 (l1.map bv) rfl Y10.out (bv_one l1) ?d1 ?d2 ?d3 ?_)
  case d1 => unfold maxLen; omega
  case d2 => omega
  case d3 => exact HB10.out.size
  intro v11 w11 hown11 hg11 _
  have HB11 := Lib.hid (HB10.out.grown hg11 HB10.out.size (fun j hj => Nat.le_trans hwz9 (hown10.lt j hj).1))
  obtain ⟨A11, c11, rfl, hnc11, hcm11, _⟩ := own_shape hown11
  have L11 : Lies w11 w11.heap.size 1 A11 (4 + n1) ((four n ++ l1).map bv) := by
    rw [List.map_append]; exact Lies.of_own hown11
  have G := getFour_any A11 (4 + n1) c11 _ w11 L11 hnc11 (by omega)
  rw [getFour_four n l1 hn] at G
  have G11 := Lib.hid G
  clear G L11 hown11 hg11 hown10 Y10 HB10
  go_wp2_with fail
  refine G11.out.mono ?_
  rintro e w12 ⟨rfl, hb12⟩
  have HB12 := Lib.hid (HB11.out.trans (hb12.mono HB11.out.size))
  clear hb12 HB11 G11
  have hk3 : ((k : Int) == ((n1 : Int) + (k : Int) - (n1 : Int))) = true := by simp; omega
  go_wp2
  go_ret
  exact ⟨rfl, HB12.out⟩

theorem intsTexts_walk (s : ByteArray) (n : Nat) (A1 : Option Addr) (n1 c1 : Nat) (l1 : List UInt8) (w : World) (hs : s.size ≤ 140737488351232) (hn : n < 4294967296) (y1 : Lies w w.heap.size 1 A1 n1 (l1.map bv)) (z1 : n1 ≤ c1) (x1 : c1 ≤ 140737488351232) :
    Calls Try.prog 5 #[.string s, .int .u32 (n : Int), .slice A1 n1 c1] w fun e w' => e = .returned (.bool true) ∧ Below w.heap.size w w' := by
  by_cases hbig : 1048576 < s.size + n1
  · exact intsTexts_yes s n A1 n1 c1 w hs x1 z1 hbig
  · exact intsTexts_no s n A1 n1 c1 l1 w hn y1 (by omega)
end Go.Proofs.Ythjhoealkalfgaa
