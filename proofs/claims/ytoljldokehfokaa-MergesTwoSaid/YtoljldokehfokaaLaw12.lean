/-
  What layer 12's laws share: many, rises.
-/
import Derived.Test.YtoljldokehfokaaMgAB
import Derived.Test.YtoljldokehfokaaPlTx
import Derived.Test.YtoljldokehfokaaKpX
namespace Go.Proofs.Ytoljldokehfokaa
open Go.RowKit
set_option linter.unusedVariables false
set_option maxRecDepth 100000

def Fits (l : List En) : Prop := ∀ x ∈ l, x.m.s < 18446744073709551616 ∧ x.m.k.size ≤ 140737488351232 ∧ x.x.size ≤ 140737488351232
theorem many12_any (A : Option Addr) (n c : Nat) (l : List En) (w : World) (h : Lies w w.heap.size 4 A n (ecs l)) (hm : Fits l) (hn : n ≤ 140737488351232) :
    Calls Try.prog 7 #[.slice A n c] w fun e w' => ∃ b, e = .returned (.bool b) ∧ (b = false → n ≤ 150) ∧ Below w.heap.size w w' := by
  have HE := Lib.hid (entriesSize_any A n c l w h hm hn)
  clear h hm
  by_cases h3 : 150 < n
  · have hi : ((n : Int) > 150) := by omega
    go_enter Try.func7, Try.ntmps7
    go_wp2
    go_ret
    exact ⟨true, rfl, (fun q => by cases q), Below.refl _ _⟩
  · have hi : ¬ ((n : Int) > 150) := by omega
    have H3 := Lib.hid h3
    clear h3
    go_enter Try.func7, Try.ntmps7
    go_wp2_with fail
    refine HE.out.mono ?_
    rintro e w2 ⟨z, q, rfl, hw, _⟩
    have HF : Hid (Below w.heap.size w w2) := by unfold Hid; rw [hw]; exact below_drewN (Below.refl _ _) q
    clear hw HE
    go_wp2
    go_ret
    exact ⟨_, rfl, (fun _ => by have := H3.out; omega), HF.out⟩
theorem el_of {A : Option Addr} {n c : Nat} {l : List En} {W : World} (hl : Lies W W.heap.size 4 A n (ecs l)) (hu : Fits l) (hnc : n ≤ c) (hc : c ≤ 140737488351232) : EL W W.heap.size A n c l := ⟨hl, Nat.le_refl _, hnc, by unfold maxLen; omega, fun e he => (hu e he).2⟩

set_option maxHeartbeats 4000000 in
theorem rises12_any {w : World} {B n c : Nat} {A : Option Addr} {S : List En} (hE : EL w B A n c S) (hn : n ≤ 1000000) :
    Calls Try.prog 8 #[.slice A n c] w fun e w' => e = .returned (.bool (decide (Rise S))) ∧ Below w.heap.size w w' := by
  have hln := hE.lies.elen
  have HE := Lib.hid hE; have HLn := Lib.hid hln
  have HS : Hid (AscR w n S (.int .i64 1) w) := ⟨0, 1, rfl, rfl, by
    cases S with
    | nil => exact List.Pairwise.nil
    | cons x t => exact List.pairwise_singleton _ _, Below.refl _ _⟩
  clear hE hln
  go_enter Try.func8, Try.ntmps8
  go_wp2
  go_loopw [3] (fun i wr => AscR w n S i wr) (fun i _ => n - (intOf i).toNat)
  case atStart => exact HS.out
  case round =>
    clear HS
    obtain ⟨j, k, hjk, rfl, hr, hb⟩ := hrel
    by_cases hlt : k < n
    · have hEr : EL wr B A n c S := HE.out.below (hb.mono (Nat.le_refl _))
      obtain ⟨b, o, x, rfl, hbB, hx, x0, x1, x2, x3⟩ := hEr.lies.entry (i := j) (by omega)
      obtain ⟨b', o', y, e', _, hy, y0, y1, y2, y3⟩ := hEr.lies.entry (i := j + 1) (by omega)
      rw [← hjk] at y0 y1 y2 y3
      injection e' with e'
      injection e' with e1 e2
      subst e1 e2
      have HA : Hid (∀ W, Below wr.heap.size wr W → AF b (o + j * 4) (o + k * 4) x y W) := fun W hb => AF.below ⟨⟨x0, x1, x2, x3⟩, y0, y1, y2, y3⟩ hb
      have HC := Lib.hid (fun W => cmp_any x.m y.m W)
      unfold Mk.v at HC
      obtain ⟨z, hz⟩ : ∃ z, cmpM x.m y.m = z := ⟨_, rfl⟩
      rw [hz] at HC
      have HB := Lib.hid hb
      have hb0 : Below wr.heap.size wr wr.drew := (Below.refl _ _).drew
      have i0 : (0 : Int) ≤ (j : Int) := by omega
      have i1 : (j : Int) < (n : Int) := by omega
      have i2 : (k : Int) < (n : Int) := by omega
      have i3 : (k : Int) - 1 = (j : Int) := by omega
      have i4 : (0 : Int) ≤ (k : Int) := by omega
      have iw : IntKind.i64.wrap ((k : Int) - 1) = (j : Int) := by rw [IntWalk.i64_in] <;> omega
      have iw2 : IntKind.i64.wrap (j : Int) = (j : Int) := by rw [IntWalk.i64_in]; omega
      have i5 : j < n := by omega
      have HM : Hid (n - (k + 1) < n - k) := by unfold Hid; omega
      have HNx : Hid (z < 0 → ∀ w3, Below w.heap.size w w3 → AscR w n S (.int .i64 ((k : Int) + 1)) w3) := fun q w3 hb3 => ⟨j + 1, k + 1, by omega, by simp, riseM_take hr hx hy (by rw [hz]; exact q), hb3⟩
      have HNo : Hid (¬ z < 0 → decide (Rise S) = false) := fun q => by
        rw [decide_eq_false_iff_not]
        intro h
        exact q (by rw [← hz]; exact h.ne (Nat.lt_succ_self j) hx hy)
      clear hz hx hy hr hb hjk hEr x0 x1 x2 x3 y0 y1 y2 y3 HE
      by_cases h : z < 0
      · have dz : decide (0 ≤ z) = false := decide_eq_false (by omega)
        go_wp2
        go_region_held3 (fun W => AF b (o + j * 4) (o + k * 4) x y W)
          (first | exact HA.out _ hb0 | exact HA.out _ hb3 | fail)
          (first
          | (go_at_call 16; refine (HC.out _).mono ?_; rintro e w3 ⟨rfl, hb⟩; have hb3 := hb0.trans (hb.mono hb0.size); clear hb)
          | fail)
        have HR := Lib.hid (HNx.out h w3 (HB.out.trans (hb3.mono HB.out.size)))
        clear hb3 hb0 HA HB HNx HNo
        go_wp2
        go_roundw
        case rel => exact HR.out
        case measure => simp [intOf]; have := HM.out; omega
      · have dz : decide (0 ≤ z) = true := decide_eq_true (by omega)
        go_wp2
        go_region_held3 (fun W => AF b (o + j * 4) (o + k * 4) x y W)
          (first | exact HA.out _ hb0 | exact HA.out _ hb3 | fail)
          (first
          | (go_at_call 16; refine (HC.out _).mono ?_; rintro e w3 ⟨rfl, hb⟩; have hb3 := hb0.trans (hb.mono hb0.size); clear hb)
          | fail)
        have HR := Lib.hid (HB.out.trans (hb3.mono HB.out.size))
        clear hb3 hb0 HA HB HNx
        go_wp2
        go_ret
        exact ⟨congrArg (fun b => Ending.returned (.bool b)) (HNo.out h).symm, HR.out⟩
    · have hR : Rise S := by
        rw [List.take_of_length_le (by rw [HLn.out]; omega)] at hr
        exact hr
      have HRR := Lib.hid (decide_eq_true hR)
      have HB := Lib.hid hb
      have i2 : ¬ (k : Int) < (n : Int) := by omega
      clear hr hb hR HE
      go_wp2
      go_ret
      exact ⟨congrArg (fun b => Ending.returned (.bool b)) HRR.out.symm, HB.out⟩
end Go.Proofs.Ytoljldokehfokaa
