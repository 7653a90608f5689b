/-
  The document's own answers of layer 3: Own (layer 2), Put, Get.
-/
import Derived.Test.YtomfkfdnpmpbgaaGreatDoorFr
import Derived.Test.YtomfkfdnpmpbgaaGreatDoorRef2
import Derived.Test.YtomfkfdnpmpbgaaGreatDoorRefFourP
import Derived.Test.YtomfkfdnpmpbgaaGreatDoorRefFourG
import Derived.Test.YtomfkfdnpmpbgaaGreatDoorStr
namespace Go.Proofs.YtomfkfdnpmpbgaaGreatDoor
open Go.RowKit
set_option linter.unusedVariables false
set_option maxRecDepth 100000

set_option maxHeartbeats 1000000 in
theorem rown_any (A : Option Addr) (n c : Nat) (l : List UInt8) (w : World) (h : Lies w w.heap.size 1 A n (l.map bv)) (hn : n ≤ 1099511627776) :
    Calls Tryz.prog 17 #[.slice A n c] w fun e w' => e = .returned (.int .u32 (Crc.on Crc.tab 0 l : Int)) ∧ Below w.heap.size w w' := by
  have HL := Lib.hid h; clear h
  go_enter Tryz.func17, Tryz.ntmps17
  go_wp2_with fail
  refine (rtable_any w).mono ?_
  rintro e w1 ⟨rfl, hb1⟩
  have HB1 := Lib.hid (lay_below hb1 hb1.size Crc.tab)
  have HT := Lib.hid (lay_tab w1 Crc.tab)
  clear hb1
  go_wp2_with (first
    | refine wpList_lay rfl rfl ?_
    | refine wpList_laid rfl _ _ rfl noughts Crc.tab rfl rfl noughts_len Crc.tab_len ?_)
  refine (ron_any w1.heap.size 0 n c w.heap.size A l Crc.tab (lay w1 Crc.tab) HT.out Crc.tab_len Crc.small_tab (by omega) (HL.out.below HB1.out) hn).mono ?_
  rintro e w2 ⟨rfl, rfl⟩
  go_wp2
  go_ret
  exact ⟨rfl, HB1.out⟩

theorem rput_bad (A : Option Addr) (n c : Nat) (w : World) (hn : 65536 < n) (hm : n ≤ 1099511627776) :
    Calls Tryz.prog 7 #[.slice A n c] w fun e w' => e = .returned (.tuple #[.slice none 0 0, .int .i64 3]) ∧ w' = w := by
  go_enter Tryz.func7, Tryz.ntmps7
  go_wp2
  go_ret2
  exact ⟨rfl, rfl⟩

theorem csum_join (h r : List UInt8) : Crc.on Crc.tab 0 (h ++ r) = csum h r := Crc.on_append _ Crc.small_tab _ _ _

set_option maxHeartbeats 2000000 in
theorem rput_ok (A : Option Addr) (n c : Nat) (r : List UInt8) (w : World) (h : Lies w w.heap.size 1 A n (r.map bv)) (hn : n ≤ 65536) :
    Calls Tryz.prog 7 #[.slice A n c] w fun e w' => ∃ A' c', e = .returned (.tuple #[.slice A' (n + 8) c', .int .i64 0]) ∧ n + 8 ≤ c' ∧ c' ≤ maxLen ∧
      w'.ownsRow w.heap.size 5 1 (.slice A' (n + 8) c') (n + 8) ((fr r).map bv) ∧ Below w.heap.size w w' := by
  obtain ⟨i0, hi, hz0, hz1, hz2⟩ := info_parts byte_info
  have hr := h.blen
  have HL := Lib.hid h; clear h
  have hw1 : IntKind.u32.wrap (n : Int) = (n : Int) := by rw [IntKind.wrap_u32']; omega
  go_enter Tryz.func7, Tryz.ntmps7
  go_wp2_with fail
  refine (ref_putFour none 0 0 n [] w (Lies.none_ _ _ _ _) (by omega) (by decide)).mono ?_
  rintro e w1 ⟨v1, rfl, hown1, hb1⟩
  have O1 : w1.ownsRow w.heap.size 5 1 v1 4 ((four n).map bv) := by simpa using hown1
  obtain ⟨A1, c1, rfl, hnc1, hcm1, _⟩ := own_shape O1
  have HO1 := Lib.hid O1; have HB1 := Lib.hid hb1
  have HL1 := Lib.hid (Lies.of_own O1)
  clear O1 hown1 hb1
  go_wp2_with (at_builtin; refine wpList_app _ rfl _ _ 22 rfl w1.heap.size 5 i0 _ 1 1 Tryz.underlying22 hi hz0 hz1 hz2 rfl (by decide) (.slice none 0 0) 0 [] rfl ⟨rfl, .inl ⟨rfl, rfl⟩⟩ w1.heap.size A1 4 c1 ((four n).map bv) rfl HL1.out (bv_one _) (by unfold maxLen; omega) (by omega) (Nat.le_refl _) ?_)
  intro v2 w2 hown2 hg2 _
  have hb2 : Below w1.heap.size w1 w2 := (Below.refl _ _).grown hg2 (Nat.le_refl _) (fun k hk => by cases hk)
  have O2 : w2.ownsRow w1.heap.size 5 1 v2 4 ((four n).map bv) := by simpa using hown2
  have HB2 := Lib.hid hb2
  have HB2' := Lib.hid (HB1.out.trans (hb2.mono HB1.out.size))
  have Y2 := Lib.hid ((HL.out.below HB2'.out).more HB2'.out.size)
  clear hown2 hg2 hb2
  go_wp2_with (at_builtin; refine wpList_app _ rfl _ _ 22 rfl w1.heap.size 5 i0 _ 1 1 Tryz.underlying22 hi hz0 hz1 hz2 rfl (by decide) v2 4 ((four n).map bv) rfl O2 w2.heap.size A n c (r.map bv) rfl Y2.out (bv_one _) (by unfold maxLen; omega) (by omega) HB2.out.size ?_)
  intro v3 w3 hown3 hg3 _
  have hb3 : Below w1.heap.size w1 w3 := HB2.out.grown hg3 HB2.out.size (fun k hk => (O2.lt k hk).1)
  obtain ⟨A3, c3, rfl, hnc3, hcm3, _⟩ := own_shape hown3
  have L3 : Lies w3 w3.heap.size 1 A3 (4 + n) ((four n ++ r).map bv) := by rw [List.map_append]; exact Lies.of_own hown3
  have HL3 := Lib.hid L3
  have HO3 := Lib.hid (own_below HO1.out hb3)
  have HB3 := Lib.hid (HB1.out.trans (hb3.mono HB1.out.size))
  clear L3 hown3 hg3 hb3 O2 Y2 HB2 HB2' HO1 HL1 HB1
  go_wp2_with fail
  refine (rown_any A3 (4 + n) c3 (four n ++ r) w3 HL3.out (by omega)).mono ?_
  rintro e w4 ⟨rfl, hb4⟩
  rw [csum_join]
  obtain ⟨s, hs⟩ : ∃ s, csum (four n) r = s := ⟨_, rfl⟩
  have hsl : s < 4294967296 := by rw [← hs]; exact csum_lt _ _
  rw [hs]
  have HS := Lib.hid hs; clear hs
  have HB4 := Lib.hid (HB3.out.trans (hb4.mono HB3.out.size))
  have HL4 := Lib.hid (Lies.of_own (own_below HO3.out hb4))
  clear hb4 HB3 HL3 HO3
  go_wp2_with fail
  refine (ref_putFour A1 4 c1 s (four n) w4 HL4.out hsl (by omega)).mono ?_
  rintro e w5 ⟨v5, rfl, hown5, hb5⟩
  have HB5 := Lib.hid (HB4.out.trans (hb5.mono HB4.out.size))
  have O5 : w5.ownsRow w.heap.size 5 1 v5 8 ((four n ++ four s).map bv) := own_base hown5 HB4.out.size
  have Y5 := Lib.hid ((HL.out.below HB5.out).more HB5.out.size)
  clear hown5 hb5 HB4 HL4
  go_wp2_with (at_builtin; refine wpList_app _ rfl _ _ 22 rfl w.heap.size 5 i0 _ 1 1 Tryz.underlying22 hi hz0 hz1 hz2 rfl (by decide) v5 8 ((four n ++ four s).map bv) rfl O5 w5.heap.size A n c (r.map bv) rfl Y5.out (bv_one _) (by unfold maxLen; omega) (by omega) HB5.out.size ?_)
  intro v6 w6 hown6 hg6 _
  have hb6 : Below w.heap.size w w6 := HB5.out.grown hg6 HB5.out.size (fun k hk => (O5.lt k hk).1)
  have O6 : w6.ownsRow w.heap.size 5 1 v6 (n + 8) ((fr r).map bv) := by
    have e : (fr r).map bv = (four n ++ four s).map bv ++ r.map bv := by
      unfold fr; rw [hr, HS.out, ← List.append_assoc, List.map_append]
    rw [e, Nat.add_comm n 8]; exact hown6
  obtain ⟨A6, c6, rfl, hnc6, hcm6, _⟩ := own_shape O6
  have HO6 := Lib.hid O6; have HB6 := Lib.hid hb6
  clear hown6 hg6 hb6 O6 O5 Y5 HB5
  go_wp2
  go_ret2
  exact ⟨A6, c6, rfl, hnc6, hcm6, HO6.out, HB6.out⟩
end Go.Proofs.YtomfkfdnpmpbgaaGreatDoor
