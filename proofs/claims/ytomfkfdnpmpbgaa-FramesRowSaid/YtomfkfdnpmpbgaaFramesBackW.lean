/-
  The walk of FramesBack.
-/
import Derived.Test.YtomfkfdnpmpbgaaAlive3
import Derived.Test.YtomfkfdnpmpbgaaSame
namespace Go.Proofs.Ytomfkfdnpmpbgaa
open Go.RowKit
set_option linter.unusedVariables false

theorem framesPut_got (A : Option Addr) (n c : Nat) (r : List UInt8) (w : World) (h : Lies w w.heap.size 1 A n (r.map bv)) (hn : n ≤ 65536) :
    Calls Try.prog 11 #[.slice A n c] w fun e w' => GotP w (n + 8) r e w' := framesPut_ok A n c r w h hn

set_option maxHeartbeats 2000000 in
theorem framesBack_yes (A1 : Option Addr) (n1 c1 : Nat) (A2 : Option Addr) (n2 c2 : Nat) (w : World) (x1 : c1 ≤ 140737488351232) (z1 : n1 ≤ c1) (x2 : c2 ≤ 140737488351232) (z2 : n2 ≤ c2) (hbig : 70000 < n1 ∨ 20000 < n2) :
    Calls Try.prog 3 #[.slice A1 n1 c1, .slice A2 n2 c2] w fun e w' => e = .returned (.bool true) ∧ Below w.heap.size w w' := by
  go_enter Try.func3, Try.ntmps3
  go_wp2_with fail
  refine (alive3_any w).mono ?_
  rintro e w1 ⟨rfl, hb1⟩
  have HB := Lib.hid hb1; clear hb1
  go_wp2_with fail
  all_goals first
    | (exfalso; omega)
    | (refine (alive3_any w1).mono ?_
       rintro e w3 ⟨rfl, hb3⟩
       have HB3 := Lib.hid (HB.out.trans (hb3.mono HB.out.size)); clear hb3 HB
       go_wp2
       go_ret
       exact ⟨rfl, HB3.out⟩)

set_option maxHeartbeats 2000000 in
theorem framesBack_mid (A1 : Option Addr) (n1 c1 : Nat) (A2 : Option Addr) (n2 c2 : Nat) (w : World) (hn : 65536 < n1) (h1 : n1 ≤ 70000) (h2 : n2 ≤ 20000) :
    Calls Try.prog 3 #[.slice A1 n1 c1, .slice A2 n2 c2] w fun e w' => e = .returned (.bool true) ∧ Below w.heap.size w w' := by
  go_enter Try.func3, Try.ntmps3
  go_wp2_with fail
  refine (alive3_any w).mono ?_
  rintro e w1 ⟨rfl, hb1⟩
  have HB := Lib.hid hb1; clear hb1
  go_wp2_with fail
  refine (framesPut_bad A1 n1 c1 w1 hn (by omega)).mono ?_
  rintro e w2 ⟨rfl, rfl⟩
  have hd : decide ((65536 : Int) < (n1 : Int)) = true := by simp; omega
  go_wp2
  go_ret
  exact ⟨rfl, HB.out⟩

set_option maxHeartbeats 2000000 in
theorem framesBack_no (A1 : Option Addr) (n1 c1 : Nat) (l1 : List UInt8) (A2 : Option Addr) (n2 c2 : Nat) (l2 : List UInt8) (w : World) (y1 : Lies w w.heap.size 1 A1 n1 (l1.map bv)) (y2 : Lies w w.heap.size 1 A2 n2 (l2.map bv)) (h1 : n1 ≤ 65536) (h2 : n2 ≤ 20000) :
    Calls Try.prog 3 #[.slice A1 n1 c1, .slice A2 n2 c2] w fun e w' => e = .returned (.bool true) ∧ Below w.heap.size w w' := by
  obtain ⟨i0, hi, hz0, hz1, hz2⟩ := info_parts byte_info
  have Y1 := Lib.hid y1; have Y2 := Lib.hid y2; clear y1 y2
  go_enter Try.func3, Try.ntmps3
  go_wp2_with fail
  refine (alive3_any w).mono ?_
  rintro e w1 ⟨rfl, hb1⟩
  have HB := Lib.hid hb1; clear hb1
  go_wp2_with fail
  refine (framesPut_got A1 n1 c1 l1 w1 ((Y1.out.below HB.out).more HB.out.size) h1).mono ?_
  rintro e w2 ⟨g2, rfl, hown2, hb2⟩
  have HB2 := Lib.hid (HB.out.trans (hb2.mono HB.out.size)); clear hb2 HB
  have L2 := Lib.hid (Lies.of_own hown2); clear hown2
  go_wp2_with (at_builtin; refine wpList_app _ rfl _ _ 22 rfl w2.heap.size 5 i0 _ 1 1 Try.underlying22 hi hz0 hz1 hz2 rfl (by decide) (.slice none 0 0) 0 [] rfl ⟨rfl, .inl ⟨rfl, rfl⟩⟩ w2.heap.size (some ⟨g2, 0, none⟩) (n1 + 8) (n1 + 8) ((fr l1).map bv) rfl L2.out (bv_one _) (by unfold maxLen; omega) (by omega) (Nat.le_refl _) ?_)
  intro v3 w3 hown3 hg3 _
  have hb3 : Below w2.heap.size w2 w3 := (Below.refl _ _).grown hg3 (Nat.le_refl _) (fun k hk => by cases hk)
  have O3 : w3.ownsRow w2.heap.size 5 1 v3 (n1 + 8) ((fr l1).map bv) := by simpa using hown3
  have HB3 := Lib.hid (HB2.out.trans (hb3.mono HB2.out.size))
  have Y3 := Lib.hid ((Y2.out.below HB3.out).more HB3.out.size)
  clear hown3 hg3
  go_wp2_with (at_builtin; refine wpList_app _ rfl _ _ 22 rfl w2.heap.size 5 i0 _ 1 1 Try.underlying22 hi hz0 hz1 hz2 rfl (by decide) v3 (n1 + 8) ((fr l1).map bv) rfl O3 w3.heap.size A2 n2 c2 (l2.map bv) rfl Y3.out (bv_one _) (by unfold maxLen; omega) (by omega) hb3.size ?_)
  intro v4 w4 hown4 hg4 _
  have hb4 : Below w.heap.size w w4 := HB3.out.grown hg4 HB3.out.size (fun k hk => Nat.le_trans HB2.out.size (O3.lt k hk).1)
  have HB4 := Lib.hid hb4
  obtain ⟨A4, c4, rfl, hnc4, hcm4, _⟩ := own_shape hown4
  have L4 : Lies w4 w4.heap.size 1 A4 (n1 + 8 + n2) ((fr l1 ++ l2).map bv) := by rw [List.map_append]; exact Lies.of_own hown4
  have hl1 := Y1.out.blen
  have G := framesGet_is A4 (n1 + 8 + n2) c4 (fr l1 ++ l2) w4 L4 hnc4 (by omega) n1 l1 (8 + n1) 0 (by rw [← hl1]; exact got_fr l1 l2 (by omega)) hl1
  have HG := Lib.hid G
  clear G L4 hown4 hg4 hb4 O3 hb3 Y3 L2 HB2 HB3 hl1
  go_wp2_with fail
  refine HG.out.mono ?_
  rintro e w5 ⟨A5, c5, rfl, hnc5, hcm5, hown5, hb5⟩
  have HB5 := Lib.hid (HB4.out.trans (hb5.mono HB4.out.size))
  have S := same_any A5 A1 n1 n1 c5 c1 w5.heap.size l1 l1 w5 (Lies.of_own hown5) ((Y1.out.below HB5.out).more HB5.out.size) (by omega)
  rw [sameB_self] at S
  have HS := Lib.hid S
  clear S hown5 hb5 HB4 HG
  have e1 : ((8 : Int) + (n1 : Int) == (n1 : Int) + 8) = true := by simp; omega
  have e2 : (((8 + n1 : Nat) : Int) == ((n1 + 8 : Nat) : Int)) = true := by simp; omega
  go_wp2_with fail
  refine HS.out.mono ?_
  rintro e w6 ⟨rfl, q, rfl⟩
  have HB6 : Hid (Below w.heap.size w (w5.drewN q)) := below_drewN HB5.out q
  clear HS HB5
  go_wp2
  go_ret
  exact ⟨rfl, HB6.out⟩

theorem framesBack_walk (A1 : Option Addr) (n1 c1 : Nat) (l1 : List UInt8) (A2 : Option Addr) (n2 c2 : Nat) (l2 : List UInt8) (w : World) (y1 : Lies w w.heap.size 1 A1 n1 (l1.map bv)) (z1 : n1 ≤ c1) (x1 : c1 ≤ 140737488351232) (y2 : Lies w w.heap.size 1 A2 n2 (l2.map bv)) (z2 : n2 ≤ c2) (x2 : c2 ≤ 140737488351232) :
    Calls Try.prog 3 #[.slice A1 n1 c1, .slice A2 n2 c2] w fun e w' => e = .returned (.bool true) ∧ Below w.heap.size w w' := by
  by_cases hbig : 70000 < n1 ∨ 20000 < n2
  · exact framesBack_yes A1 n1 c1 A2 n2 c2 w x1 z1 x2 z2 hbig
  · by_cases hm : 65536 < n1
    · exact framesBack_mid A1 n1 c1 A2 n2 c2 w hm (by omega) (by omega)
    · exact framesBack_no A1 n1 c1 l1 A2 n2 c2 l2 w y1 y2 (by omega) (by omega)
end Go.Proofs.Ytomfkfdnpmpbgaa
