/-
  The walk of FramesUnlike.
-/
import Derived.Test.YtomfkfdnpmpbgaaFramesBackW
import Derived.Deep.RegionWith
namespace Go.Proofs.Ytomfkfdnpmpbgaa
open Go.RowKit
set_option linter.unusedVariables false

/-- a world that has only drawn since -/
def Drawn (w w' : World) : Prop := ∃ q, w' = w.drewN q
theorem Drawn.self (w : World) : Drawn w w := ⟨0, rfl⟩
theorem Drawn.drew (w : World) : Drawn w w.drew := ⟨1, rfl⟩
theorem Drawn.more {w w' : World} (h : Drawn w w') (q : Nat) : Drawn w (w'.drewN q) := by
  obtain ⟨q0, rfl⟩ := h
  exact ⟨q0 + q, by rw [World.drewN_drewN]⟩
theorem Drawn.below {w w' a : World} {B : Nat} (h : Drawn w w') (hb : Below B a w) : Below B a w' := by
  obtain ⟨q0, rfl⟩ := h
  exact below_drewN hb q0
theorem same_drawn (A A2 : Option Addr) (n m c c2 B : Nat) (l l2 : List UInt8) (w : World) (h1 : Lies w B 1 A n (l.map bv)) (h2 : Lies w B 1 A2 m (l2.map bv)) (hn : n ≤ 4611686018427387904) (b : Bool) (hb : sameB l l2 = b) (W : World) (hW : Drawn w W) :
    Calls Try.prog 13 #[.slice A n c, .slice A2 m c2] W fun e w' => e = .returned (.bool b) ∧ Drawn w w' := by
  obtain ⟨q, rfl⟩ := hW
  have s := same_any A A2 n m c c2 B l l2 (w.drewN q) (h1.drewN q) (h2.drewN q) hn
  rw [hb] at s
  exact s.mono fun e w' ⟨he, q', hw⟩ => ⟨he, q + q', by rw [hw, World.drewN_drewN]⟩

set_option maxHeartbeats 2000000 in
theorem framesUnlike_yes (A1 : Option Addr) (n1 c1 : Nat) (A2 : Option Addr) (n2 c2 : Nat) (w : World) (x1 : c1 ≤ 140737488351232) (z1 : n1 ≤ c1) (x2 : c2 ≤ 140737488351232) (z2 : n2 ≤ c2) (hbig : 65536 < n1 ∨ 65536 < n2) :
    Calls Try.prog 8 #[.slice A1 n1 c1, .slice A2 n2 c2] w fun e w' => e = .returned (.bool true) ∧ Below w.heap.size w w' := by
  go_enter Try.func8, Try.ntmps8
  go_wp2_with fail
  refine (alive3_any w).mono ?_
  rintro e w1 ⟨rfl, hb1⟩
  have HB := Lib.hid hb1; clear hb1
  go_wp2_with fail
  all_goals first
    | (exfalso; omega)
    | (refine (alive3_any w1).mono ?_
       rintro e w3 ⟨rfl, hb3⟩
       have HB3 := Lib.hid (HB.out.trans (hb3.mono HB.out.size)); clear hb3 HB
       go_wp2
       go_ret
       exact ⟨rfl, HB3.out⟩)

set_option maxRecDepth 100000 in
set_option maxHeartbeats 4000000 in
theorem framesUnlike_no (A1 : Option Addr) (n1 c1 : Nat) (l1 : List UInt8) (A2 : Option Addr) (n2 c2 : Nat) (l2 : List UInt8) (w : World) (y1 : Lies w w.heap.size 1 A1 n1 (l1.map bv)) (y2 : Lies w w.heap.size 1 A2 n2 (l2.map bv)) (h1 : n1 ≤ 65536) (h2 : n2 ≤ 65536) :
    Calls Try.prog 8 #[.slice A1 n1 c1, .slice A2 n2 c2] w fun e w' => e = .returned (.bool true) ∧ Below w.heap.size w w' := by
  have Y1 := Lib.hid y1; have Y2 := Lib.hid y2; clear y1 y2
  go_enter Try.func8, Try.ntmps8
  go_wp2_with fail
  refine (alive3_any w).mono ?_
  rintro e w1 ⟨rfl, hb1⟩
  have HB := Lib.hid hb1; clear hb1
  go_wp2_with fail
  refine (framesPut_got A1 n1 c1 l1 w1 ((Y1.out.below HB.out).more HB.out.size) h1).mono ?_
  rintro e w2 ⟨g2, rfl, hown2, hb2⟩
  have HB2 := Lib.hid (HB.out.trans (hb2.mono HB.out.size)); clear hb2 HB
  go_wp2_with fail
  refine (framesPut_got A2 n2 c2 l2 w2 ((Y2.out.below HB2.out).more HB2.out.size) h2).mono ?_
  rintro e w3 ⟨g3, rfl, hown3, hb3⟩
  have L2 := got_lies hown2 hb3
  have L3 := Lies.of_own hown3
  have HB3 := Lib.hid (HB2.out.trans (hb3.mono HB2.out.size)); clear hb3 HB2 hown2 hown3
  obtain ⟨m, hm⟩ : ∃ m, m = min (n1 + 8) (n2 + 8) := ⟨_, rfl⟩
  have b1 : m ≤ n1 + 8 := by omega
  have b2 : m ≤ n2 + 8 := by omega
  have hsame : sameB ((fr l1).take m) ((fr l2).take m) = sameB l1 l2 := by
    unfold sameB
    have k1 := Y1.out.blen; have k2 := Y2.out.blen
    by_cases e : l1 = l2
    · subst e; simp
    · have : (fr l1).take m ≠ (fr l2).take m := fun h => e (fr_min l1 l2 (by omega) (by omega) m (by omega) h)
      simp [e, this]
  obtain ⟨b, hb⟩ : ∃ b, sameB l1 l2 = b := ⟨_, rfl⟩
  rw [hb] at hsame
  have S1 := Lib.hid (same_drawn (some ⟨g2, 0, none⟩) (some ⟨g3, 0, none⟩) m m (n1 + 8) (n2 + 8) w3.heap.size _ _ w3 (lies_take L2 b1) (lies_take L3 b2) (by omega) b hsame)
  have S2 := Lib.hid (same_drawn A1 A2 n1 n2 c1 c2 w3.heap.size l1 l2 w3 ((Y1.out.below HB3.out).more HB3.out.size) ((Y2.out.below HB3.out).more HB3.out.size) (by omega) b hb)
  have hbb : (b == b) = true := by simp
  have HM := Lib.hid hm
  clear L2 L3 hsame hb
  rcases Nat.lt_or_ge n2 n1 with h12 | h12
  · obtain rfl : m = n2 + 8 := by omega
    clear hm
    have i1 : (n2 : Int) + 8 ≤ (n1 : Int) + 8 := by omega
    have i3 : (n2 : Int) < (n1 : Int) := by omega
    have i7 : (n2 : Int) + 8 < (n1 : Int) + 8 := by omega
    have i5 : (0 : Int) ≤ (n2 : Int) + 8 := by omega
    have i6 : ((n2 : Int) + 8).toNat = n2 + 8 := by omega
    go_wp2_with fail
    go_region_held3 (fun w' => Fine w') (exact fine _)
      (first
      | (go_at_call_of 13 g2; refine (S1.out _ (by first | assumption | exact Drawn.drew _)).mono ?_; rintro e w4 ⟨rfl, hw4⟩)
      | (go_at_call_of 13 c1; refine (S2.out _ (by first | assumption | exact Drawn.drew _)).mono ?_; rintro e w5 ⟨rfl, hw5⟩)
      | fail)
    have HBB : Hid (Below w.heap.size w w3) := HB3.out
    clear S1 S2
    go_wp2
    go_ret
    first
    | exact ⟨rfl, hw5.below HBB.out⟩
    | exact ⟨rfl, hw4.below HBB.out⟩
  · obtain rfl : m = n1 + 8 := by omega
    clear hm
    have i2 : (n1 : Int) + 8 ≤ (n2 : Int) + 8 := by omega
    have i4 : (n1 : Int) ≤ (n2 : Int) := by omega
    have i5 : (0 : Int) ≤ (n1 : Int) + 8 := by omega
    have i6 : ((n1 : Int) + 8).toNat = n1 + 8 := by omega
    go_wp2_with fail
    go_region_held3 (fun w' => Fine w') (exact fine _)
      (first
      | (go_at_call_of 13 g2; refine (S1.out _ (by first | assumption | exact Drawn.drew _)).mono ?_; rintro e w4 ⟨rfl, hw4⟩)
      | (go_at_call_of 13 c1; refine (S2.out _ (by first | assumption | exact Drawn.drew _)).mono ?_; rintro e w5 ⟨rfl, hw5⟩)
      | fail)
    have HBB : Hid (Below w.heap.size w w3) := HB3.out
    clear S1 S2
    go_wp2
    go_ret
    first
    | exact ⟨rfl, hw5.below HBB.out⟩
    | exact ⟨rfl, hw4.below HBB.out⟩

theorem framesUnlike_walk (A1 : Option Addr) (n1 c1 : Nat) (l1 : List UInt8) (A2 : Option Addr) (n2 c2 : Nat) (l2 : List UInt8) (w : World) (y1 : Lies w w.heap.size 1 A1 n1 (l1.map bv)) (z1 : n1 ≤ c1) (x1 : c1 ≤ 140737488351232) (y2 : Lies w w.heap.size 1 A2 n2 (l2.map bv)) (z2 : n2 ≤ c2) (x2 : c2 ≤ 140737488351232) :
    Calls Try.prog 8 #[.slice A1 n1 c1, .slice A2 n2 c2] w fun e w' => e = .returned (.bool true) ∧ Below w.heap.size w w' := by
  by_cases hbig : 65536 < n1 ∨ 65536 < n2
  · exact framesUnlike_yes A1 n1 c1 A2 n2 c2 w x1 z1 x2 z2 hbig
  · exact framesUnlike_no A1 n1 c1 l1 A2 n2 c2 l2 w y1 y2 (by omega) (by omega)
end Go.Proofs.Ytomfkfdnpmpbgaa
