/-
  The walk of SortedBack.
-/
import Derived.Test.YtjikkdfiainjjaaAl10
import Derived.Test.YtjikkdfiainjjaaRises8
namespace Go.Proofs.Ytjikkdfiainjjaa
open Go.RowKit
set_option linter.unusedVariables false
set_option maxRecDepth 100000

theorem okA_ris (S : List En) : okA S = (decide (1 ≤ S.length) && risB S) := rfl

set_option maxHeartbeats 8000000 in
theorem sortedBack_walk (A : Option Addr) (n c : Nat) (l : List En) (cut : Nat) (W : World) (hl : Lies W W.heap.size 4 A n (ecs l)) (hu : Fits l) (hn : l.length = n) (hnc : n ≤ c) (hc : c ≤ 140737488351232) (hcut : cut < 65536) :
    Calls Try.prog 3 #[.slice A n c, .int .u16 (cut : Int)] W fun e W' => e = .returned (.bool true) ∧ Below W.heap.size W W' := by
  have HEL := Lib.hid (el_of hl hu hnc hc)
  have HU := Lib.hid hu; have HN := Lib.hid hn
  have HSq : Hid (SQ l) := fun e he => (hu e he).1
  have HL := Lib.hid hl
  clear hl hu hn
  go_enter Try.func3, Try.ntmps3
  go_wp2_with fail
  with_reducible refine Calls.mono (alive10_any W) ?_
  rintro e w1 ⟨rfl, hb1⟩
  have H1 := Lib.hid hb1
  have HG := Lib.hid (great10_any A n c l w1 ((HL.out.below hb1).more hb1.size) HU.out (by omega))
  clear hb1
  go_wp2_with fail
  with_reducible refine Calls.mono HG.out ?_
  rintro e w2 ⟨b, rfl, hb3, hb2⟩
  have H2 := Lib.hid (H1.out.trans (hb2.mono H1.out.size))
  have H300 := Lib.hid hb3
  clear hb2 hb3 HG
  cases b with
  | true =>
    go_wp2_with fail
    with_reducible refine Calls.mono (alive10_any w2) ?_
    rintro e w3 ⟨rfl, hb3⟩
    have HF := Lib.hid (H2.out.trans (hb3.mono H2.out.size))
    clear hb3
    go_wp2
    go_ret
    exact ⟨rfl, HF.out⟩
  | false =>
    have hn300 : n ≤ 300 := H300.out rfl
    have HP := Lib.hid (sput_any W.heap.size n c A l w2 (HEL.out.below H2.out) HSq.out)
    go_wp2_with fail
    with_reducible refine Calls.mono HP.out ?_
    rintro e w3 ⟨hb3, h1, h0, _⟩
    have H3 := Lib.hid (H2.out.trans (hb3.mono H2.out.size))
    have HR3 := Lib.hid (fun W' (hb : Below W.heap.size W W') => rises_any l A n c W.heap.size W' (HEL.out.below hb))
    clear HP
    obtain ⟨k, hk⟩ : ∃ k, okA l = k := ⟨_, rfl⟩
    have HOk := Lib.hid hk
    cases k
    · obtain rfl := h0 hk
      clear h0 h1 hb3 hk
      by_cases h00 : n = 0
      · have hi0 : ¬ ((n : Int) > 0) := by omega
        clear h00
        go_wp2
        go_ret
        exact ⟨rfl, H3.out⟩
      · have hi0 : ((n : Int) > 0) := by omega
        have HRf : Hid (risB l = false) := by
          have := HOk.out
          rw [okA_ris, decide_eq_true (by rw [HN.out]; omega), Bool.true_and] at this
          exact this
        clear h00
        go_wp2_with fail
        with_reducible refine Calls.mono (HR3.out _ H3.out) ?_
        rintro e w4 ⟨rfl, hb4⟩
        have H4 := Lib.hid (H3.out.trans (hb4.mono H3.out.size))
        rw [HRf.out]
        clear hb4
        go_wp2_with fail
        with_reducible refine Calls.mono (HR3.out _ H4.out) ?_
        rintro e w5 ⟨rfl, hb5⟩
        have H5 := Lib.hid (H4.out.trans (hb5.mono H4.out.size))
        rw [HRf.out]
        clear hb5
        go_wp2
        go_ret
        exact ⟨rfl, H5.out⟩
    · have hok : okF l = true := (okF_iff l).2 ⟨hk, by rw [HN.out]; omega⟩
      obtain ⟨A3, c3, rfl, ho3⟩ := h1 hok
      have hpos : 0 < n := by have := ((okA_iff l).1 hk).1; rw [HN.out] at this; omega
      have hi0 : ((n : Int) > 0) := by omega
      have HRt : Hid (risB l = true) := by
        have := HOk.out
        rw [okA_ris, decide_eq_true (by rw [HN.out]; omega), Bool.true_and] at this
        exact this
      have hfl := filB_le hok
      have hf12 := filB_pos l
      obtain ⟨_, _, hv, hn3, hc3, _⟩ := own_shape ho3
      injection hv with e1 e2 e3
      subst e1 e3
      have HIs : Hid (IsF (filB l) (some l)) := ⟨hok, HSq.out, rfl⟩
      have HCut : Hid (∀ m, m < (filB l).length → IsF ((filB l).take m) none) := fun m hm => isF_cut hok hm
      obtain ⟨F, hF⟩ : ∃ F, filB l = F := ⟨_, rfl⟩
      rw [hF] at ho3 hfl hf12 hn3 HIs HCut ⊢
      obtain ⟨N, hN⟩ : ∃ N, F.length = N := ⟨_, rfl⟩
      rw [hN] at ho3 hfl hf12 hn3 HCut ⊢
      have L3 := Lib.hid (Lies.of_own ho3)
      have HFN := Lib.hid hN
      obtain ⟨ab, ao, x, rfl, hab, hx, c0, c1, _, _⟩ := HL.out.entry (i := 0) hpos
      rw [Nat.zero_mul, Nat.add_zero] at c0 c1
      have HX0 : Hid (∀ W', Below W.heap.size W W' → W'.cell? ⟨ab, ao, none⟩ = some (.string x.m.k) ∧ W'.cell? ⟨ab, ao + 1, none⟩ = some (.int .u64 (x.m.s : Int))) := fun W' hb => ⟨(hb.cell (p := ⟨ab, ao, none⟩) hab).trans c0, (hb.cell (p := ⟨ab, ao + 1, none⟩) hab).trans c1⟩
      clear h0 h1 hb3 hk ho3 hN hF c0 c1 hx hab hok
      go_wp2_with fail
      with_reducible refine Calls.mono (HR3.out _ H3.out) ?_
      rintro e w4 ⟨rfl, hb4⟩
      have H4 := Lib.hid (H3.out.trans (hb4.mono H3.out.size))
      have L4 := Lib.hid ((L3.out.below hb4).more hb4.size)
      rw [HRt.out]
      have HAll := Lib.hid (sall_any A3 N c3 F (some l) w4 HIs.out L4.out hn3 (by unfold maxLen at hc3; omega) (by omega))
      clear hb4 HR3
      go_wp2_with fail
      with_reducible refine Calls.mono HAll.out ?_
      rintro e w5 ⟨hb5, h1, _⟩
      obtain ⟨A5, c5, rfl, ho5, _⟩ := h1 l rfl
      have H5 := Lib.hid (H4.out.trans (hb5.mono H4.out.size))
      have L5 := Lib.hid ((L4.out.below hb5).more hb5.size)
      rw [HN.out] at ho5 ⊢
      have HSe := Lib.hid (sameE_yes (c := c5) (c2 := c) (Lies.of_own ho5) ((HL.out.below H5.out).more H5.out.size) (by omega))
      clear hb5 h1 ho5 HAll
      go_wp2_with fail
      with_reducible refine Calls.mono HSe.out ?_
      rintro e w6 ⟨rfl, hb6⟩
      have H6 := Lib.hid (H5.out.trans (hb6.mono H5.out.size))
      have L6 := Lib.hid ((L5.out.below hb6).more hb6.size)
      obtain ⟨k, hk⟩ : ∃ k, cut % N = k := ⟨_, rfl⟩
      have hkN : k < N := by rw [← hk]; exact Nat.mod_lt _ (by omega)
      have hki : (cut : Int) % (N : Int) = (k : Int) := by rw [← hk]; rfl
      have hkt : (cut : Int).tmod (N : Int) = (k : Int) := by rw [← hk]; rfl
      have hN0 : ¬ ((N : Int) = 0) := by omega
      have hN0n : ¬ (N = 0) := by omega
      have hNpos : (0 : Int) < (N : Int) := by omega
      have hk0 : (0 : Int) ≤ (k : Int) := by omega
      have hkN2 : (k : Int) < (N : Int) := by omega
      have hN0b : ((N : Int) == 0) = false := by rw [beq_eq_false_iff_ne]; omega
      have hwk : IntKind.i64.wrap (k : Int) = (k : Int) := by rw [IntWalk.i64_in] <;> omega
      have hwc : IntKind.i64.wrap (cut : Int) = (cut : Int) := by rw [IntWalk.i64_in] <;> omega
      have hsl := fun W => run_headS W A3 N c3 k (by omega)
      have hN12 : ¬ ((N : Int) < 12) := by omega
      have HA2 := Lib.hid (sall_any A3 k c3 (F.take k) none w6 (HCut.out k hkN) (lies_take L6.out (by omega)) (by omega) (by unfold maxLen at hc3; omega) (by omega))
      clear hb6 HSe hk
      go_wp2_with fail
      with_reducible refine Calls.mono HA2.out ?_
      rintro e w7 ⟨hb7, _, h0⟩
      obtain rfl := h0 rfl
      have H7 := Lib.hid (H6.out.trans (hb7.mono H6.out.size))
      have L7 := Lib.hid ((L6.out.below hb7).more hb7.size)
      have HG := Lib.hid (fun W' (hb : Below w7.heap.size w7 W') => sget_any A3 k c3 (F.take k) none x.m.k x.m.s W' (HCut.out k hkN) (lies_take ((L7.out.below hb).more hb.size) (by omega)) (by omega) (by unfold maxLen at hc3; omega) (by omega))
      have B0 : Below w7.heap.size w7 w7.drew := below_drew (Below.refl _ _)
      have B1 : Below w7.heap.size w7 (w7.alloc zeroEn).drew := ((Below.refl _ _).alloc (Nat.le_refl _) _).drew
      have HZ := Lib.hid (fun W (hW : Below (w7.alloc zeroEn).drew.heap.size (w7.alloc zeroEn).drew W) => zero_en w7 W w7.heap.size rfl ⟨hW.os, hW.tape, hW.output, hW.size, hW.block⟩)
      have HS := Lib.hid (fun W' (hb : Below w7.heap.size w7 W') => HX0.out W' (H7.out.trans (hb.mono H7.out.size)))
      have hv : noE.v = .agg #[.string ⟨#[]⟩, .int .u64 0, .bool false, .string ⟨#[]⟩] := noE_v
      clear hb7 h0 HA2
      go_wp2_with fail
      go_region_held3 (fun W' => W'.cell? ⟨ab, ao, none⟩ = some (.string x.m.k) ∧ W'.cell? ⟨ab, ao + 1, none⟩ = some (.int .u64 (x.m.s : Int)))
        (first | exact HS.out _ B0 | exact HS.out _ B1 | exact HS.out _ hb8 | exact HS.out _ (hb8.alloc hb8.size _) | exact HS.out _ ((((hb8.setCell (p := ⟨w7.heap.size, 0, none⟩) (Nat.le_refl _) _).setCell (p := ⟨w7.heap.size, 1, none⟩) (Nat.le_refl _) _).setCell (p := ⟨w7.heap.size, 2, none⟩) (Nat.le_refl _) _).setCell (p := ⟨w7.heap.size, 3, none⟩) (Nat.le_refl _) _) | fail)
        (first
        | (go_at_call 16; (with_reducible refine Calls.mono (HG.out _ B0) ?_); rintro e w8 ⟨hb8', _, hg0⟩; obtain rfl := hg0 rfl; rw [hv]; have hb8 := B0.trans (hb8'.mono B0.size))
        | (go_at_call 16; (with_reducible refine Calls.mono (HG.out _ B1) ?_); rintro e w8 ⟨hb8', _, hg0⟩; obtain rfl := hg0 rfl; rw [hv]; have hb8 := B1.trans (hb8'.mono B1.size); obtain ⟨⟨z0, z1, z2, z3⟩, f0, f1, f2, f3⟩ := HZ.out _ hb8')
        | fail)
      all_goals
        refine at_worldS (P := fun W5 => Below w7.heap.size w7 W5) (by first | exact hb8.alloc hb8.size _ | exact ((((hb8.setCell (p := ⟨w7.heap.size, 0, none⟩) (Nat.le_refl _) _).setCell (p := ⟨w7.heap.size, 1, none⟩) (Nat.le_refl _) _).setCell (p := ⟨w7.heap.size, 2, none⟩) (Nat.le_refl _) _).setCell (p := ⟨w7.heap.size, 3, none⟩) (Nat.le_refl _) _)) ?_
        intro W9 hb9
        have HF := Lib.hid (H7.out.trans (hb9.mono H7.out.size))
        clear hb9 hb8
        go_wp2
        go_ret
        exact ⟨rfl, HF.out⟩
end Go.Proofs.Ytjikkdfiainjjaa
