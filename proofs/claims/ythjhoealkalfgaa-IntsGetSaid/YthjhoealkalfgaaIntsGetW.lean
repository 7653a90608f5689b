/-
  The walk of IntsGet.
-/
import Derived.Test.YthjhoealkalfgaaRef1X
namespace Go.Proofs.Ythjhoealkalfgaa
open Go.RowKit
set_option linter.unusedVariables false

set_option maxHeartbeats 2000000 in
theorem intsGet_yes (A : Option Addr) (n c : Nat) (w : World) (hnc : n ≤ c) (hc : c ≤ 140737488351232) (hbig : 1048576 < n) :
    Calls Try.prog 3 #[.slice A n c] w fun e w' => e = .returned (.bool true) ∧ Below w.heap.size w w' := by
  go_enter Try.func3, Try.ntmps3
  go_wp2_with fail
  refine (beyond_yes n w (by omega) hbig).mono ?_
  rintro e w2 ⟨rfl, hb2⟩
  go_wp2
  go_ret
  exact ⟨rfl, hb2⟩

set_option maxHeartbeats 4000000 in
theorem intsGet_no (A : Option Addr) (n c : Nat) (l : List UInt8) (w : World) (y : Lies w w.heap.size 1 A n (l.map bv)) (hnc : n ≤ c) (hc : c ≤ 140737488351232) (hbig : n ≤ 1048576) :
    Calls Try.prog 3 #[.slice A n c] w fun e w' => e = .returned (.bool true) ∧ Below w.heap.size w w' := by
  have Y := Lib.hid y; clear y
  have hcm : c ≤ maxLen := by unfold maxLen; omega
  go_enter Try.func3, Try.ntmps3
  go_wp2_with fail
  refine (beyond_no n w hbig).mono ?_
  rintro e w1 ⟨rfl, hb1⟩
  go_wp2_with fail
  refine (twin_any A n c l w1 ((Y.out.below hb1).more hb1.size) (by omega)).mono ?_
  rintro e w2 ⟨g, c2, rfl, hown2, hb2⟩
  have HB2 := Lib.hid (hb1.trans (hb2.mono hb1.size)); clear hb1 hb2
  have L2 := Lib.hid (Lies.of_own hown2)
  obtain ⟨hc2, hc2m⟩ : n + 1 ≤ c2 ∧ c2 ≤ maxLen := by
    obtain ⟨A', c', he, h1, h2, _⟩ := own_shape hown2
    injection he with _ _ he
    subst he
    exact ⟨h1, h2⟩
  have T2 : Hid (Lies w2 w2.heap.size 1 (some ⟨g, 0, none⟩) n (l.map bv)) := by
    have := L2.out.take_ (m := n) (by omega)
    rw [List.map_append, List.take_append_of_le_length (by simp [Y.out.blen]), List.take_of_length_le (by simp [Y.out.blen])] at this
    exact this
  clear hown2
  go_wp2_with fail
  refine (get_any (some ⟨g, 0, none⟩) n c2 l w2 T2.out (by omega) hc2m).mono ?_
  rintro e w3 ⟨rfl, hb3⟩
  have HB3 := Lib.hid (HB2.out.trans (hb3.mono HB2.out.size))
  have T3 := Lib.hid ((T2.out.below hb3).more hb3.size); have L3 := Lib.hid ((L2.out.below hb3).more hb3.size)
  clear HB2 T2 L2 hb3
  go_wp2_with fail
  refine (ref_get A n c w3.heap.size l w3 ((Y.out.below HB3.out).more HB3.out.size) (by omega)).mono ?_
  rintro e w3' ⟨rfl, rfl⟩
  go_wp2_with fail
  refine (getFour_any (some ⟨g, 0, none⟩) n c2 l w3 T3.out (by omega) (by omega)).mono ?_
  rintro e w4 ⟨rfl, hb4⟩
  have HB4 := Lib.hid (HB3.out.trans (hb4.mono HB3.out.size))
  have T4 := Lib.hid ((T3.out.below hb4).more hb4.size); have L4 := Lib.hid ((L3.out.below hb4).more hb4.size)
  clear HB3 T3 L3 hb4
  go_wp2_with fail
  refine (ref_getFour A n c w4.heap.size l w4 ((Y.out.below HB4.out).more HB4.out.size)).mono ?_
  rintro e w4' ⟨rfl, q, rfl⟩
  go_wp2_with fail
  refine (getText_any (some ⟨g, 0, none⟩) n c2 l (w4.drewN q) (T4.out.drewN q) (by omega) hc2m).mono ?_
  rintro e w5 ⟨rfl, hb5⟩
  have HB5 : Hid (Below w.heap.size w w5) := (below_drewN HB4.out q).trans (hb5.mono HB4.out.size)
  have L5 := Lib.hid (((L4.out.drewN q).below hb5).more hb5.size)
  clear HB4 T4 L4 hb5
  go_wp2_with fail
  refine (ref_getText A n c w5.heap.size l w5 ((Y.out.below HB5.out).more HB5.out.size) (by omega) hnc hcm).mono ?_
  rintro e w5' ⟨rfl, rfl⟩
  generalize Vi.get l = r1
  generalize getFour l = r2
  generalize getText l = r3
  obtain ⟨k1, t1, e1⟩ := r1
  obtain ⟨k2, e2⟩ := r2
  obtain ⟨s3, t3, e3⟩ := r3
  go_wp2_with fail
  refine (left_any A g 0 n c2 c w5.heap.size l w5 L5.out hc2 hc2m ((Y.out.below HB5.out).more HB5.out.size)).mono ?_
  rintro e w6 ⟨rfl, q6, rfl⟩
  go_wp2
  go_ret
  exact ⟨rfl, below_drewN HB5.out q6⟩
theorem intsGet_walk (A : Option Addr) (n c : Nat) (l : List UInt8) (w : World) (y : Lies w w.heap.size 1 A n (l.map bv)) (hnc : n ≤ c) (hc : c ≤ 140737488351232) :
    Calls Try.prog 3 #[.slice A n c] w fun e w' => e = .returned (.bool true) ∧ Below w.heap.size w w' := by
  by_cases hbig : 1048576 < n
  · exact intsGet_yes A n c w hnc hc hbig
  · exact intsGet_no A n c l w y hnc hc (by omega)
end Go.Proofs.Ythjhoealkalfgaa
