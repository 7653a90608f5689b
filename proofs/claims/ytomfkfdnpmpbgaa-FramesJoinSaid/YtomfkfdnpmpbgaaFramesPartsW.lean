/-
  The walk of FramesParts.
-/
import Derived.Test.YtomfkfdnpmpbgaaFramesBackW
import Derived.Deep.RegionWith
namespace Go.Proofs.Ytomfkfdnpmpbgaa
open Go.RowKit
set_option linter.unusedVariables false

/-- what lay there lies there still -/
def Kept (w W : World) : Prop := Below w.heap.size w W
theorem Kept.self (w : World) : Kept w w := Below.refl _ _
theorem Kept.drew {w W : World} (h : Kept w W) : Kept w W.drew := below_drew h
theorem Kept.on {w W W' : World} (h : Kept w W) (h' : Below W.heap.size W W') : Kept w W' := Below.trans h (h'.mono h.size)
theorem Kept.lies {w W : World} (h : Kept w W) {A : Option Addr} {n : Nat} {l : List UInt8} (L : Lies w w.heap.size 1 A n (l.map bv)) : Lies W W.heap.size 1 A n (l.map bv) := (L.below h).more h.size
theorem same_kept (A A2 : Option Addr) (n m c c2 : Nat) (l l2 : List UInt8) (w W : World) (h1 : Lies W W.heap.size 1 A n (l.map bv)) (h2 : Lies W W.heap.size 1 A2 m (l2.map bv)) (hn : n ≤ 4611686018427387904) (b : Bool) (hb : sameB l l2 = b) (hW : Kept w W) :
    Calls Try.prog 13 #[.slice A n c, .slice A2 m c2] W fun e w' => e = .returned (.bool b) ∧ Kept w w' := by
  have s := same_any A A2 n m c c2 _ l l2 W h1 h2 hn
  rw [hb] at s
  exact s.mono fun e w' ⟨he, q', hw⟩ => ⟨he, by rw [hw]; exact below_drewN hW q'⟩

set_option maxHeartbeats 2000000 in
theorem framesParts_yes (A : Option Addr) (n c : Nat) (w : World) (z : n ≤ c) (x : c ≤ 140737488351232) (hbig : 65536 < n) :
    Calls Try.prog 7 #[.slice A n c] w fun e w' => e = .returned (.bool true) ∧ Below w.heap.size w w' := by
  go_enter Try.func7, Try.ntmps7
  go_wp2_with fail
  refine (alive3_any w).mono ?_
  rintro e w1 ⟨rfl, hb1⟩
  have HB := Lib.hid hb1; clear hb1
  go_wp2_with fail
  refine (alive3_any w1).mono ?_
  rintro e w3 ⟨rfl, hb3⟩
  have HB3 := Lib.hid (HB.out.trans (hb3.mono HB.out.size)); clear hb3 HB
  go_wp2
  go_ret
  exact ⟨rfl, HB3.out⟩

/-- the parts of a frame, where it lies -/
theorem fr_parts {w : World} {B n : Nat} {g : Nat} {r : List UInt8} (hr : r.length = n) (L : Lies w B 1 (some ⟨g, 0, none⟩) (n + 8) ((fr r).map bv)) :
    Lies w B 1 (some ⟨g, 0, none⟩) 4 ((four n).map bv) ∧ Lies w B 1 (some ⟨g, 4, none⟩) 4 ((four (csum (four n) r)).map bv) ∧ Lies w B 1 (cutA (some ⟨g, 0, none⟩) (n + 8) 8) n (r.map bv) := by
  have e1 : (fr r).take 4 = four n := by rw [← hr]; rfl
  have e2 : ((fr r).drop 4).take 4 = four (csum (four n) r) := by rw [← hr]; rfl
  have e3 : (fr r).drop 8 = r := rfl
  refine ⟨?_, ?_, ?_⟩
  · have := lies_take L (m := 4) (by omega)
    rw [e1] at this; exact this
  · have h1 := L.cutA (m := 4) (c := n + 8) (by omega) (Nat.le_refl _)
    have h2 : cutA (some ⟨g, 0, none⟩) (n + 8) 4 = some ⟨g, 4, none⟩ := by unfold cutA; rw [if_neg (by omega)]; simp [add_lit]
    rw [h2] at h1
    have h3 := lies_take h1 (m := 4) (by omega)
    rw [e2] at h3; exact h3
  · have h1 := L.cutA (m := 8) (c := n + 8) (by omega) (Nat.le_refl _)
    rw [Nat.add_sub_cancel, e3] at h1; exact h1

set_option maxRecDepth 100000 in
set_option maxHeartbeats 4000000 in
theorem framesParts_no (A : Option Addr) (n c : Nat) (l : List UInt8) (w : World) (y : Lies w w.heap.size 1 A n (l.map bv)) (hn : n ≤ 65536) :
    Calls Try.prog 7 #[.slice A n c] w fun e w' => e = .returned (.bool true) ∧ Below w.heap.size w w' := by
  have hl := y.blen
  have Y := Lib.hid y; clear y
  have hw1 : IntKind.u32.wrap (n : Int) = (n : Int) := by rw [IntKind.wrap_u32']; omega
  go_enter Try.func7, Try.ntmps7
  go_wp2_with fail
  refine (alive3_any w).mono ?_
  rintro e w1 ⟨rfl, hb1⟩
  have HB := Lib.hid hb1; clear hb1
  go_wp2_with fail
  refine (framesPut_got A n c l w1 ((Y.out.below HB.out).more HB.out.size) hn).mono ?_
  rintro e w2 ⟨g2, rfl, hown2, hb2⟩
  have HB2 := Lib.hid (HB.out.trans (hb2.mono HB.out.size)); clear hb2 HB
  have HL2 := Lib.hid (Lies.of_own hown2); clear hown2
  go_wp2_with fail
  refine (table_any w2).mono ?_
  rintro e w3 ⟨rfl, hb3⟩
  have K4 : Kept w2 (lay w3 Crc.tab) := lay_below hb3 hb3.size Crc.tab
  have HK4 := Lib.hid K4
  have HT := Lib.hid (lay_tab w3 Crc.tab)
  have hsz4 : w3.heap.size < (lay w3 Crc.tab).heap.size := by rw [lay_size]; omega
  clear hb3 K4
  go_wp2_with (first
    | refine wpList_lay rfl rfl ?_
    | refine wpList_laid rfl _ _ rfl noughts Crc.tab rfl rfl noughts_len Crc.tab_len ?_)
  refine (putFour_nil n (lay w3 Crc.tab) (by omega)).mono ?_
  rintro e w5 ⟨A5, c5, rfl, hnc5, hcm5, hown5, hb5⟩
  have HT5 := Lib.hid (HT.out.below hb5 hsz4)
  have HK5 := Lib.hid (HK4.out.on hb5)
  have L5 := Lies.of_own hown5
  have HL5 := Lib.hid L5
  clear HT HK4 hb5 hown5 L5 hsz4
  go_wp2_with fail
  refine (of_any w3.heap.size 4 c5 w5.heap.size A5 (four n) Crc.tab w5 HT5.out Crc.tab_len Crc.small_tab HL5.out (by omega)).mono ?_
  rintro e w6 ⟨rfl, rfl⟩
  have YY := Lib.hid (Kept.lies (Kept.on HK5.out (Below.refl _ _)) (Y.out.below HB2.out |>.more HB2.out.size))
  go_wp2_with fail
  refine (on_any w3.heap.size _ n c w6.heap.size A l Crc.tab w6 HT5.out Crc.tab_len Crc.small_tab (Crc.on_lt _ _ _) YY.out (by omega)).mono ?_
  rintro e w7 ⟨rfl, rfl⟩
  obtain ⟨s, hs⟩ : ∃ s, csum (four n) l = s := ⟨_, rfl⟩
  have hsl : s < 4294967296 := by rw [← hs]; exact csum_lt _ _
  have hs' : Crc.on Crc.tab (Crc.on Crc.tab 0 (four n)) l = s := hs
  rw [hs']
  have P := fr_parts hl (HK5.out.lies HL2.out)
  rw [hs] at P
  have HP := Lib.hid P
  clear P hs hs' HT5 HL2
  have cut1 : ∀ W, (Instr.slice 22 (.slice (some ⟨g2, 0, none⟩) (n + 8) (n + 8)) (some (.int .i64 8)) none none).run Try.prog W = .ok (.slice (cutA (some ⟨g2, 0, none⟩) (n + 8) 8) n n) W := fun W => by
    have := run_cut W (some ⟨g2, 0, none⟩) (n + 8) (n + 8) 8 (by omega)
    rw [Nat.add_sub_cancel] at this; exact this
  have i4 : (4 : Int) ≤ (n : Int) + 8 := by omega
  have i8 : (8 : Int) ≤ (n : Int) + 8 := by omega
  go_wp2_with fail
  go_region_held3 (fun w' => Fine w') (exact fine _)
    (first
    | (go_at_call_of 13 A5; refine (same_kept (some ⟨g2, 0, none⟩) A5 4 4 (n + 8) c5 (four n) (four n) w7 w7.drew (HP.out.1.drew) (HL5.out.drew) (by omega) true (sameB_self _) (Kept.self w7).drew).mono ?_; rintro e w8 ⟨rfl, hk8⟩)
    | (go_at_call 16; refine (putFour_nil s _ hsl).mono ?_; rintro e w9 ⟨A9, c9, rfl, _, _, hown9, hb9⟩)
    | (go_at_call_of 13 A9; refine (same_kept (some ⟨g2, 4, none⟩) A9 4 4 (n + 4) c9 (four s) (four s) w7 w9 ((hk8.on hb9).lies HP.out.2.1) (Lies.of_own hown9) (by omega) true (sameB_self _) (hk8.on hb9)).mono ?_; rintro e w10 ⟨rfl, hk10⟩)
    | (go_at_call_of 13 A; refine (same_kept (cutA (some ⟨g2, 0, none⟩) (n + 8) 8) A n n n c l l w7 w10 (hk10.lies HP.out.2.2) (hk10.lies YY.out) (by omega) true (sameB_self _) hk10).mono ?_; rintro e w11 ⟨rfl, hk11⟩)
    | fail)
  have HBB : Hid (Below w.heap.size w w11) := HB2.out.trans (Below.mono (HK5.out.on hk11) HB2.out.size)
  clear hk8 hb9 hown9 hk10 hk11 HP HL5 YY cut1
  go_wp2
  go_ret
  exact ⟨rfl, HBB.out⟩

theorem framesParts_walk (A : Option Addr) (n c : Nat) (l : List UInt8) (w : World) (y : Lies w w.heap.size 1 A n (l.map bv)) (z : n ≤ c) (x : c ≤ 140737488351232) :
    Calls Try.prog 7 #[.slice A n c] w fun e w' => e = .returned (.bool true) ∧ Below w.heap.size w w' := by
  by_cases hbig : 65536 < n
  · exact framesParts_yes A n c w z x hbig
  · exact framesParts_no A n c l w y (by omega)
end Go.Proofs.Ytomfkfdnpmpbgaa
