/-
  The walk of FramesJoin.
-/
import Derived.Test.YtomfkfdnpmpbgaaFramesPartsW
import Derived.Test.YtomfkfdnpmpbgaaTwin
import Derived.Test.YtomfkfdnpmpbgaaStep
namespace Go.Proofs.Ytomfkfdnpmpbgaa
open Go.RowKit
set_option linter.unusedVariables false

set_option maxHeartbeats 2000000 in
theorem framesJoin_yes (A1 : Option Addr) (n1 c1 : Nat) (A2 : Option Addr) (n2 c2 : Nat) (w : World) (x1 : c1 ≤ 140737488351232) (z1 : n1 ≤ c1) (x2 : c2 ≤ 140737488351232) (z2 : n2 ≤ c2) (hbig : 65536 < n1 + n2) :
    Calls Try.prog 9 #[.slice A1 n1 c1, .slice A2 n2 c2] w fun e w' => e = .returned (.bool true) ∧ Below w.heap.size w w' := by
  go_enter Try.func9, Try.ntmps9
  go_wp2_with fail
  refine (alive3_any w).mono ?_
  rintro e w1 ⟨rfl, hb1⟩
  have HB := Lib.hid hb1; clear hb1
  go_wp2_with fail
  refine (alive3_any w1).mono ?_
  rintro e w3 ⟨rfl, hb3⟩
  have HB3 := Lib.hid (HB.out.trans (hb3.mono HB.out.size)); clear hb3 HB
  go_wp2
  go_ret
  exact ⟨rfl, HB3.out⟩

set_option maxRecDepth 100000 in
set_option maxHeartbeats 4000000 in
theorem framesJoin_no (A1 : Option Addr) (n1 c1 : Nat) (l1 : List UInt8) (A2 : Option Addr) (n2 c2 : Nat) (l2 : List UInt8) (w : World) (y1 : Lies w w.heap.size 1 A1 n1 (l1.map bv)) (y2 : Lies w w.heap.size 1 A2 n2 (l2.map bv)) (h : n1 + n2 ≤ 65536) :
    Calls Try.prog 9 #[.slice A1 n1 c1, .slice A2 n2 c2] w fun e w' => e = .returned (.bool true) ∧ Below w.heap.size w w' := by
  obtain ⟨i0, hi, hz0, hz1, hz2⟩ := info_parts byte_info
  have k1 := y1.blen; have k2 := y2.blen
  have Y1 := Lib.hid y1; have Y2 := Lib.hid y2; clear y1 y2
  go_enter Try.func9, Try.ntmps9
  go_wp2_with fail
  refine (alive3_any w).mono ?_
  rintro e w1 ⟨rfl, hb1⟩
  have HB := Lib.hid hb1; clear hb1
  go_wp2_with fail
  refine (framesPut_got A1 n1 c1 l1 w1 ((Y1.out.below HB.out).more HB.out.size) (by omega)).mono ?_
  rintro e w2 ⟨g2, rfl, hown2, hb2⟩
  have HB2 := Lib.hid (HB.out.trans (hb2.mono HB.out.size)); clear hb2 HB
  have HL2 := Lib.hid (Lies.of_own hown2); clear hown2
  go_wp2_with fail
  refine (framesPut_got A2 n2 c2 l2 w2 ((Y2.out.below HB2.out).more HB2.out.size) (by omega)).mono ?_
  rintro e w3 ⟨g3, rfl, hown3, hb3⟩
  have HK3 : Hid (Kept w2 w3) := hb3
  have HL3 := Lib.hid (Lies.of_own hown3)
  clear hb3 hown3
  go_wp2_with fail
  refine (twin_own A1 n1 c1 l1 w3 (HK3.out.lies ((Y1.out.below HB2.out).more HB2.out.size)) (by omega)).mono ?_
  rintro e w4 ⟨g4, c4, rfl, hnc4, hcm4, hown4, hb4⟩
  have HK4 : Hid (Kept w3 w4) := hb4
  have HY4 := Lib.hid (HK4.out.lies (HK3.out.lies ((Y2.out.below HB2.out).more HB2.out.size)))
  clear hb4
  go_wp2_with (at_builtin; refine wpList_app _ rfl _ _ 22 rfl w3.heap.size 5 i0 _ 1 1 Try.underlying22 hi hz0 hz1 hz2 rfl (by decide) (.slice (some ⟨g4, 0, none⟩) n1 c4) n1 (l1.map bv) rfl hown4 w4.heap.size A2 n2 c2 (l2.map bv) rfl HY4.out (bv_one _) (by unfold maxLen; omega) (by omega) HK4.out.size ?_)
  intro v5 w5 hown5 hg5 _
  have K5 : Kept w3 w5 := Below.grown HK4.out hg5 HK4.out.size (fun k hk => (hown4.lt k hk).1)
  have HK5 := Lib.hid K5
  obtain ⟨A5, c5, rfl, hnc5, hcm5, _⟩ := own_shape hown5
  have L5 : Lies w5 w5.heap.size 1 A5 (n1 + n2) ((l1 ++ l2).map bv) := by rw [List.map_append]; exact Lies.of_own hown5
  have HL5 := Lib.hid L5
  clear L5 hown5 hg5 K5 HK4 hown4 HY4
  go_wp2_with fail
  refine (framesPut_got A5 (n1 + n2) c5 (l1 ++ l2) w5 HL5.out h).mono ?_
  rintro e w6 ⟨g6, rfl, hown6, hb6⟩
  have HK6 : Hid (Kept w3 w6) := HK5.out.on hb6
  have P6 := (fr_parts (r := l1 ++ l2) (by simp [k1, k2]) (Lies.of_own hown6)).2.2
  have P3 := (fr_parts k2 (HK6.out.lies HL3.out)).2.2
  have P2 := (fr_parts k1 (HK6.out.lies (HK3.out.lies HL2.out))).2.2
  have HP6 := Lib.hid P6; have HP3 := Lib.hid P3; have HP2 := Lib.hid P2
  have HB6 : Hid (Below w.heap.size w w6) := HB2.out.trans (Below.mono (HK3.out.on (Below.mono HK6.out (Nat.le_refl _))) HB2.out.size)
  clear P6 P3 P2 hown6 hb6 HK6 HK5 HK3 HL3 HL2 HL5 HB2
  have cut : ∀ g n W, (Instr.slice 22 (.slice (some ⟨g, 0, none⟩) (n + 8) (n + 8)) (some (.int .i64 8)) none none).run Try.prog W = .ok (.slice (cutA (some ⟨g, 0, none⟩) (n + 8) 8) n n) W := fun g n W => by
    have := run_cut W (some ⟨g, 0, none⟩) (n + 8) (n + 8) 8 (by omega)
    rw [Nat.add_sub_cancel] at this; exact this
  have cut2 := cut g2 n1
  have cut3 := cut g3 n2
  have cut6 := cut g6 (n1 + n2)
  clear cut
  have e1 : ((n1 : Int) + (n2 : Int) + 8 + 8 != (n1 : Int) + 8 + ((n2 : Int) + 8)) = false := by simp; omega
  have TW := Lib.hid (twin_own (cutA (some ⟨g2, 0, none⟩) (n1 + 8) 8) n1 n1 l1 w6.drew HP2.out.drew (by omega))
  go_wp2_with fail
  go_region_held3 (fun w' => Fine w') (exact fine _)
    (first
    | (go_at_call 19; refine TW.out.mono ?_; rintro e w7 ⟨g7, c7, rfl, hnc7, hcm7, hown7, hb7⟩)
    | (go_at_call 13; refine (same_kept (cutA (some ⟨g6, 0, none⟩) (n1 + n2 + 8) 8) A8 (n1 + n2) (n1 + n2) (n1 + n2) c8 (l1 ++ l2) (l1 ++ l2) w6.drew w8 (Kept.lies (w := w6.drew) (Below.grown (Kept.on (w := w6.drew) (Kept.self _) hb7) hg8 hb7.size (fun k hk => (hown7.lt k hk).1)) HP6.out.drew) (by rw [List.map_append]; exact Lies.of_own hown8) (by omega) true (sameB_self _) (Below.grown (Kept.on (w := w6.drew) (Kept.self _) hb7) hg8 hb7.size (fun k hk => (hown7.lt k hk).1))).mono ?_; rintro e w9 ⟨rfl, hk9⟩)
    | (refine step_app _ (by rfl) (.tmp 75) (.tmp 77) 22 (by rfl) w6.heap.size 5 i0 _ 1 1 Try.underlying22 hi hz0 hz1 hz2 rfl (by decide) (.slice (some ⟨g7, 0, none⟩) n1 c7) n1 (l1.map bv) (by rfl) hown7 w7.heap.size (cutA (some ⟨g3, 0, none⟩) (n2 + 8) 8) n2 n2 (l2.map bv) (by rfl) ((Kept.on (w := w6.drew) (Kept.self _) hb7).lies HP3.out.drew) (bv_one _) (by unfold maxLen; omega) (by omega) hb7.size ?_; intro v8 w8 hown8 hg8 _; obtain ⟨A8, c8, rfl, hnc8, hcm8, _⟩ := own_shape hown8)
    | fail)
  have HBB : Hid (Below w.heap.size w w9) := (below_drew HB6.out).trans (Below.mono hk9 HB6.out.size)
  clear hk9 hown8 hg8 hown7 hb7 TW HP6 HP3 HP2 cut2 cut3 cut6
  go_wp2
  go_ret
  exact ⟨rfl, HBB.out⟩

theorem framesJoin_walk (A1 : Option Addr) (n1 c1 : Nat) (l1 : List UInt8) (A2 : Option Addr) (n2 c2 : Nat) (l2 : List UInt8) (w : World) (y1 : Lies w w.heap.size 1 A1 n1 (l1.map bv)) (z1 : n1 ≤ c1) (x1 : c1 ≤ 140737488351232) (y2 : Lies w w.heap.size 1 A2 n2 (l2.map bv)) (z2 : n2 ≤ c2) (x2 : c2 ≤ 140737488351232) :
    Calls Try.prog 9 #[.slice A1 n1 c1, .slice A2 n2 c2] w fun e w' => e = .returned (.bool true) ∧ Below w.heap.size w w' := by
  by_cases hbig : 65536 < n1 + n2
  · exact framesJoin_yes A1 n1 c1 A2 n2 c2 w x1 z1 x2 z2 hbig
  · exact framesJoin_no A1 n1 c1 l1 A2 n2 c2 l2 w y1 y2 (by omega)
end Go.Proofs.Ytomfkfdnpmpbgaa
