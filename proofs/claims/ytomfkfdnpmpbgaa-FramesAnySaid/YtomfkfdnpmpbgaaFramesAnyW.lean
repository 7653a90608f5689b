/-
  The walk of FramesAny.
-/
import Derived.Test.YtomfkfdnpmpbgaaFramesBackW
namespace Go.Proofs.Ytomfkfdnpmpbgaa
open Go.RowKit
set_option linter.unusedVariables false

set_option maxHeartbeats 2000000 in
theorem framesAny_yes (A : Option Addr) (n c : Nat) (w : World) (z : n ≤ c) (x : c ≤ 140737488351232) (hbig : 100000 < n) :
    Calls Try.prog 6 #[.slice A n c] w fun e w' => e = .returned (.bool true) ∧ Below w.heap.size w w' := by
  go_enter Try.func6, Try.ntmps6
  go_wp2_with fail
  refine (alive3_any w).mono ?_
  rintro e w1 ⟨rfl, hb1⟩
  have HB := Lib.hid hb1; clear hb1
  go_wp2_with fail
  refine (alive3_any w1).mono ?_
  rintro e w3 ⟨rfl, hb3⟩
  have HB3 := Lib.hid (HB.out.trans (hb3.mono HB.out.size)); clear hb3 HB
  go_wp2
  go_ret
  exact ⟨rfl, HB3.out⟩

set_option maxHeartbeats 2000000 in
theorem framesAny_bad (A : Option Addr) (n c e : Nat) (l : List UInt8) (w : World) (y : Lies w w.heap.size 1 A n (l.map bv)) (z : n ≤ c) (hbig : n ≤ 100000) (hg : gotF l = ([], 0, e)) (he : e = 4 ∨ e = 5) :
    Calls Try.prog 6 #[.slice A n c] w fun e w' => e = .returned (.bool true) ∧ Below w.heap.size w w' := by
  have Y := Lib.hid y; clear y
  go_enter Try.func6, Try.ntmps6
  go_wp2_with fail
  refine (alive3_any w).mono ?_
  rintro e w1 ⟨rfl, hb1⟩
  have HB := Lib.hid hb1; clear hb1
  go_wp2_with fail
  refine (framesGet_is A n c l w1 ((Y.out.below HB.out).more HB.out.size) z (by omega) 0 [] 0 e hg rfl).mono ?_
  rintro en w2 ⟨A2, c2, rfl, _, _, _, hb2⟩
  have HB2 := Lib.hid (HB.out.trans (hb2.mono HB.out.size)); clear hb2 HB
  rcases he with rfl | rfl
  · go_wp2
    go_ret
    exact ⟨rfl, HB2.out⟩
  · go_wp2
    go_ret
    exact ⟨rfl, HB2.out⟩

set_option maxHeartbeats 2000000 in
theorem framesAny_ok (A : Option Addr) (n c m t : Nat) (l r : List UInt8) (w : World) (y : Lies w w.heap.size 1 A n (l.map bv)) (z : n ≤ c) (x : c ≤ 140737488351232) (hbig : n ≤ 100000) (hg : gotF l = (r, t, 0)) (hm : r.length = m) (hm2 : m ≤ 65536) (ht : t = m + 8) (htn : t ≤ n) (hfr : l.take t = fr r) :
    Calls Try.prog 6 #[.slice A n c] w fun e w' => e = .returned (.bool true) ∧ Below w.heap.size w w' := by
  have Y := Lib.hid y; clear y
  subst ht
  have HF := Lib.hid hfr; clear hfr
  have HG := Lib.hid hg; clear hg
  go_enter Try.func6, Try.ntmps6
  go_wp2_with fail
  refine (alive3_any w).mono ?_
  rintro e w1 ⟨rfl, hb1⟩
  have HB := Lib.hid hb1; clear hb1
  go_wp2_with fail
  refine (framesGet_is A n c l w1 ((Y.out.below HB.out).more HB.out.size) z (by omega) m r (m + 8) 0 HG.out hm).mono ?_
  rintro en w2 ⟨A2, c2, rfl, hnc2, hcm2, hown2, hb2⟩
  have HB2 := Lib.hid (HB.out.trans (hb2.mono HB.out.size)); clear hb2 HB
  have L2 := Lib.hid (Lies.of_own hown2); clear hown2
  go_wp2_with fail
  refine (framesPut_got A2 m c2 r w2 L2.out hm2).mono ?_
  rintro e w3 ⟨g3, rfl, hown3, hb3⟩
  have HB3 := Lib.hid (HB2.out.trans (hb3.mono HB2.out.size)); clear hb3 HB2 L2
  have S := same_any (some ⟨g3, 0, none⟩) A (m + 8) (m + 8) (m + 8) c w3.heap.size (fr r) (fr r) w3 (Lies.of_own hown3) (by
    have := lies_take ((Y.out.below HB3.out).more HB3.out.size) htn
    rw [HF.out] at this; exact this) (by omega)
  rw [sameB_self] at S
  have HS := Lib.hid S
  clear S hown3
  have e2 : decide ((m : Int) + 8 ≤ (n : Int)) = true := by simp; omega
  have e3 : (m : Int) + 8 ≤ (c : Int) := by omega
  have e4 : (0 : Int) ≤ (m : Int) + 8 := by omega
  have e5 : ((m : Int) + 8).toNat = m + 8 := by omega
  clear HG HF
  go_wp2_with fail
  refine HS.out.mono ?_
  rintro e w6 ⟨rfl, q, rfl⟩
  have HB6 : Hid (Below w.heap.size w (w3.drewN q)) := below_drewN HB3.out q
  clear HS HB3
  go_wp2
  go_ret
  exact ⟨rfl, HB6.out⟩

theorem framesAny_walk (A : Option Addr) (n c : Nat) (l : List UInt8) (w : World) (y : Lies w w.heap.size 1 A n (l.map bv)) (z : n ≤ c) (x : c ≤ 140737488351232) :
    Calls Try.prog 6 #[.slice A n c] w fun e w' => e = .returned (.bool true) ∧ Below w.heap.size w w' := by
  by_cases hbig : 100000 < n
  · exact framesAny_yes A n c w z x hbig
  · have hl := y.blen
    rcases got_err l with h | ⟨he, h⟩
    · obtain ⟨h1, h2, h3, h4⟩ := got_back l h
      rcases hg : gotF l with ⟨r, t, e⟩
      rw [hg] at h h1 h2 h3 h4
      obtain rfl : e = 0 := h
      exact framesAny_ok A n c r.length t l r w y z x (by omega) hg rfl h1 h2 (by rw [← hl]; exact h3) h4
    · exact framesAny_bad A n c _ l w y z (by omega) h he
end Go.Proofs.Ytomfkfdnpmpbgaa
