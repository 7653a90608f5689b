/-
  Layer 12's alive.
-/
import Derived.Test.YtoljldokehfokaaAlAC
namespace Go.Proofs.Ytoljldokehfokaa
open Go.RowKit
set_option linter.unusedVariables false
set_option maxRecDepth 100000

theorem be_transM {a b c : World} (h : Below a.heap.size a b) (k : Below b.heap.size b c) : Below a.heap.size a c := h.trans (k.mono h.size)
set_option maxHeartbeats 8000000 in
theorem alive12_any (w : World) : Calls Try.prog 6 #[] w fun e w' => e = .returned (.bool true) ∧ Below w.heap.size w w' := by
  go_enter Try.func6, Try.ntmps6
  go_wp2_with fail
  with_reducible refine Calls.mono (en12_0 _) ?_
  rintro e w1 ⟨rfl, hb1⟩
  have H1 := Lib.hid hb1
  clear hb1
  go_wp2_with fail
  with_reducible refine Calls.mono (en12_1 _) ?_
  rintro e w2 ⟨rfl, hb2⟩
  have H2 := Lib.hid (H1.out.trans (hb2.mono H1.out.size))
  clear hb2
  go_wp2_with fail
  with_reducible refine Calls.mono (en12_2 _) ?_
  rintro e w3 ⟨rfl, hb3⟩
  have H3 := Lib.hid (H2.out.trans (hb3.mono H2.out.size))
  clear hb3
  go_wp2_with fail
  with_reducible refine Calls.mono (en12_3 _) ?_
  rintro e w4 ⟨rfl, hb4⟩
  have H4 := Lib.hid (H3.out.trans (hb4.mono H3.out.size))
  clear hb4
  have hrow := heap_alloc_new w4 (.cells #[.string ⟨#[97]⟩, .int .u64 9, .bool true, .string ⟨#[]⟩, .string ⟨#[97]⟩, .int .u64 5, .bool false, .string ⟨#[120]⟩, .string ⟨#[97]⟩, .int .u64 2, .bool false, .string ⟨#[121]⟩, .string ⟨#[98]⟩, .int .u64 7, .bool true, .string ⟨#[]⟩] 31)
  have hEL := lit_EL w4 S12 4 rfl (by omega) (fun e he => size12 e (by simp only [S12, List.mem_cons, List.not_mem_nil, or_false] at he ⊢; rcases he with h | h | h | h <;> simp [h]))
  have hb5 := al_belowM w4 (.cells #[.string ⟨#[97]⟩, .int .u64 9, .bool true, .string ⟨#[]⟩, .string ⟨#[97]⟩, .int .u64 5, .bool false, .string ⟨#[120]⟩, .string ⟨#[97]⟩, .int .u64 2, .bool false, .string ⟨#[121]⟩, .string ⟨#[98]⟩, .int .u64 7, .bool true, .string ⟨#[]⟩] 31)
  obtain ⟨W5, hW5⟩ : ∃ W5, w4.alloc (.cells #[.string ⟨#[97]⟩, .int .u64 9, .bool true, .string ⟨#[]⟩, .string ⟨#[97]⟩, .int .u64 5, .bool false, .string ⟨#[120]⟩, .string ⟨#[97]⟩, .int .u64 2, .bool false, .string ⟨#[121]⟩, .string ⟨#[98]⟩, .int .u64 7, .bool true, .string ⟨#[]⟩] 31) = W5 := ⟨_, rfl⟩
  have hEL : EL W5 (w4.heap.size + 1) (some ⟨w4.heap.size, 0, none⟩) 4 4 S12 := by rw [← hW5]; exact hEL
  have HW5 : Hid (w4.alloc (.cells #[.string ⟨#[97]⟩, .int .u64 9, .bool true, .string ⟨#[]⟩, .string ⟨#[97]⟩, .int .u64 5, .bool false, .string ⟨#[120]⟩, .string ⟨#[97]⟩, .int .u64 2, .bool false, .string ⟨#[121]⟩, .string ⟨#[98]⟩, .int .u64 7, .bool true, .string ⟨#[]⟩] 31) = W5) := hW5
  rw [hW5] at hrow hb5
  obtain ⟨g, hg⟩ : ∃ g, w4.heap.size = g := ⟨_, rfl⟩
  rw [hg] at hrow hEL
  have HS := Lib.hid (fun W (hb : Below W5.heap.size W5 W) => p12_of hrow hb)
  have H5 := Lib.hid (H4.out.trans (hb5.mono H4.out.size))
  have HE := Lib.hid hEL
  have HG := Lib.hid hg
  have P := HS.out W5 (Below.refl _ _)
  obtain ⟨p0, p1, p2, p3, p4, p5, p6, p7, p8, p9, p10, p11, p12, p13, p14, p15⟩ := P
  clear hrow hb5 hW5 hg hEL
  go_wp2_with fail
  rw [HW5.out, HG.out]
  go_region_held3 (fun W => P12 g W)
    (exact HS.out _ (by first | exact (Below.refl _ _).drew | exact ((Below.refl _ _).alloc (Nat.le_refl _) _).drew | exact (((Below.refl _ _).alloc (Nat.le_refl _) _).alloc (by simp) _).drew | exact ((((Below.refl _ _).alloc (Nat.le_refl _) _).alloc (by simp) _).alloc (by simp; omega) _).drew | exact hm6))
    (first
    | (go_at_call 9; (with_reducible refine Calls.mono (mrg12_a W5) ?_); rintro e w6 ⟨hm6, A6, c6, rfl, hl6⟩)
    | (go_at_call 9; (with_reducible refine Calls.mono (mrg12_b W5) ?_); rintro e w6 ⟨hm6, A6, c6, rfl, hl6⟩)
    | fail)
  all_goals (
    have H6 := Lib.hid (be_transM H5.out hm6)
    have HM6 := Lib.hid hl6
    have HE6 := Lib.hid (HE.out.below hm6)
    clear hm6 hl6 p0 p1 p2 p3 p4 p5 p6 p7 p8 p9 p10 p11 p12 p13 p14 p15 HS HE HW5
    go_wp2_with fail
    with_reducible refine Calls.mono (en12_4 _) ?_
    rintro e w7 ⟨rfl, hb7⟩
    have H7 := Lib.hid hb7
    clear hb7
    go_wp2_with fail
    with_reducible refine Calls.mono (en12_5 _) ?_
    rintro e w9 ⟨rfl, hb9⟩
    have HD := Lib.hid (dup12 w7 w9 hb9)
    have H9 := Lib.hid (be_transM H7.out (be_transM (al_belowM w7 _) hb9))
    clear hb9
    go_wp2_with fail
    with_reducible refine Calls.mono HD.out ?_
    rintro e w10 ⟨rfl, hb10⟩
    have H10 := Lib.hid (be_transM H6.out (be_transM H9.out hb10))
    have HE10 := Lib.hid (HE6.out.below (be_transM H9.out hb10))
    have HM10 := Lib.hid ((HM6.out.below (be_transM H9.out hb10)).more (be_transM H9.out hb10).size)
    clear hb10 H6 H7 H9 HE6 HM6 HD
    have qa := see12 9 0 [] see12_9 rfl HE10.out
    rw [show ((9 : Nat) : Int) = 9 from rfl] at qa
    have HQa := Lib.hid qa
    clear qa
    go_wp2_with fail
    with_reducible refine Calls.mono HQa.out ?_
    rintro e w11 ⟨A11, c11, rfl, hl11, hb11⟩
    have H11 := Lib.hid (be_transM H10.out hb11)
    have HE11 := Lib.hid (HE10.out.below hb11)
    have HM11 := Lib.hid ((HM10.out.below hb11).more hb11.size)
    clear hb11 hl11 HQa H10 HE10 HM10
    have qb := see12 5 1 [(⟨#[97]⟩, ⟨#[120]⟩)] see12_5 rfl HE11.out
    rw [show ((5 : Nat) : Int) = 5 from rfl] at qb
    have HQb := Lib.hid qb
    clear qb
    go_wp2_with fail
    with_reducible refine Calls.mono HQb.out ?_
    rintro e w12 ⟨A12, c12, rfl, hl12, hb12⟩
    have H12 := Lib.hid (be_transM H11.out hb12)
    have HE12 := Lib.hid (HE11.out.below hb12)
    have HM12 := Lib.hid ((HM11.out.below hb12).more hb12.size)
    have HX12 := Lib.hid hl12
    clear hb12 hl12 HQb H11 HE11 HM11
    have qc := see12 4 1 [(⟨#[97]⟩, ⟨#[121]⟩)] see12_4 rfl HE12.out
    rw [show ((4 : Nat) : Int) = 4 from rfl] at qc
    have HQc := Lib.hid qc
    clear qc
    go_wp2_with fail
    with_reducible refine Calls.mono HQc.out ?_
    rintro e w13 ⟨A13, c13, rfl, hl13, hb13⟩
    have H13 := Lib.hid (be_transM H12.out hb13)
    have HE13 := Lib.hid (HE12.out.below hb13)
    have HM13 := Lib.hid ((HM12.out.below hb13).more hb13.size)
    have HX13 := Lib.hid ((HX12.out.below hb13).more hb13.size)
    have HY13 := Lib.hid hl13
    clear hb13 hl13 HQc H12 HE12 HM12 HX12
    go_wp2_with fail
    with_reducible refine Calls.mono (en12_6 _) ?_
    rintro e w14 ⟨rfl, hb14⟩
    have H14 := Lib.hid hb14
    clear hb14
    go_wp2_with fail
    with_reducible refine Calls.mono (en12_4 _) ?_
    rintro e w15 ⟨rfl, hb15⟩
    have H15 := Lib.hid (be_transM H14.out hb15)
    clear hb15 H14
    go_wp2_with fail
    with_reducible refine Calls.mono (see12_no _) ?_
    rintro e w16 ⟨rfl, hb16⟩
    have hb1316 := be_transM H15.out hb16
    have H16 := Lib.hid (be_transM H13.out hb1316)
    have HE16 := Lib.hid (HE13.out.below hb1316)
    have HM16 := Lib.hid ((HM13.out.below hb1316).more hb1316.size)
    have HX16 := Lib.hid ((HX13.out.below hb1316).more hb1316.size)
    have HY16 := Lib.hid ((HY13.out.below hb1316).more hb1316.size)
    clear hb16 hb1316 H15 H13 HE13 HM13 HX13 HY13
    have HSm := Lib.hid (sameE_yes (c := c6) (c2 := 4) HM16.out ((HE16.out.lies.more (HE16.out.B))) (by omega))
    go_wp2_with fail
    with_reducible refine Calls.mono HSm.out ?_
    rintro e w17 ⟨rfl, hb17⟩
    have H17 := Lib.hid (be_transM H16.out hb17)
    have HE17 := Lib.hid (HE16.out.below hb17)
    have HX17 := Lib.hid ((HX16.out.below hb17).more hb17.size)
    have HY17 := Lib.hid ((HY16.out.below hb17).more hb17.size)
    clear hb17 HSm H16 HE16 HM16 HX16 HY16
    have HRx := Lib.hid (rowlit12 (c := c12) ⟨#[97]⟩ ⟨#[120]⟩ HX17.out)
    go_wp2_with fail
    with_reducible refine Calls.mono HRx.out ?_
    rintro e w18 ⟨rfl, hb18⟩
    have H18 := Lib.hid (be_transM H17.out hb18)
    have HE18 := Lib.hid (HE17.out.below hb18)
    have HY18 := Lib.hid ((HY17.out.below hb18).more hb18.size)
    clear hb18 HRx H17 HE17 HX17 HY17
    have HRy := Lib.hid (rowlit12 (c := c13) ⟨#[97]⟩ ⟨#[121]⟩ HY18.out)
    go_wp2_with fail
    with_reducible refine Calls.mono HRy.out ?_
    rintro e w19 ⟨rfl, hb19⟩
    have H19 := Lib.hid (be_transM H18.out hb19)
    have HE19 := Lib.hid (HE18.out.below hb19)
    clear hb19 HRy H18 HE18 HY18
    go_wp2_with fail
    have HP := Lib.hid (fun W (hb : Below w19.heap.size w19 W) => HE19.out.below hb)
    have B0 : Below w19.heap.size w19 w19.drew := (Below.refl _ _).drew
    have BE0 : Below w19.heap.size w19 (w19.alloc (.cells #[.string ⟨#[97]⟩, .int .u64 9, .bool true, .string ⟨#[]⟩, .string ⟨#[98]⟩, .int .u64 7, .bool true, .string ⟨#[]⟩] 31)).drew := (al_belowM w19 _).drew
    have LE0 : Lies (w19.alloc (.cells #[.string ⟨#[97]⟩, .int .u64 9, .bool true, .string ⟨#[]⟩, .string ⟨#[98]⟩, .int .u64 7, .bool true, .string ⟨#[]⟩] 31)).drew (w19.alloc (.cells #[.string ⟨#[97]⟩, .int .u64 9, .bool true, .string ⟨#[]⟩, .string ⟨#[98]⟩, .int .u64 7, .bool true, .string ⟨#[]⟩] 31)).drew.heap.size 4 (some ⟨w19.heap.size, 0, none⟩) 2 (ecs [G0, G3]) := ((e03_lie w19).below (Below.refl _ _).drew).more (alw12 _ _)
    have hsl : ∀ W, (Instr.slice 22 (.slice (some ⟨g, 0, none⟩) 4 4) none (some (.int .i64 2)) none).run Try.prog W = .ok (.slice (some ⟨g, 0, none⟩) 2 4) W := fun W => run_headE W (some ⟨g, 0, none⟩) 4 4 2 (by omega)
    have PP := p12_el (HP.out w19 (Below.refl _ _))
    obtain ⟨p0, p1, p2, p3, p4, p5, p6, p7, p8, p9, p10, p11, p12, p13, p14, p15⟩ := PP
    go_region_held3 (fun W => P12 g W)
      (first | exact p12_el (HP.out _ B0) | exact p12_el (HP.out _ BE0) | exact p12_el (HP.out _ B1) | exact p12_el (HP.out _ (B1.alloc B1.size _)) | exact p12_el (HP.out _ B2) | exact p12_el (HP.out _ B3) | exact p12_el (HP.out _ (B3.alloc B3.size _)) | exact p12_el (HP.out _ B4) | exact p12_el (HP.out _ B5) | exact p12_el (HP.out _ (B5.alloc B5.size _)) | exact p12_el (HP.out _ ((B5.alloc B5.size _).alloc (B5.alloc B5.size _).size _)) | exact p12_el (HP.out _ B6) | exact p12_el (HP.out _ (B6.alloc B6.size _)) | exact p12_el (HP.out _ B7))
      (first
      | (go_at_call 14; (with_reducible refine Calls.mono (la12 (HP.out _ B0)) ?_); rintro e v1 ⟨A1, k1, rfl, hl1, hb1⟩; have B1 := B0.trans (hb1.mono B0.size))
      | (go_at_call 14; (with_reducible refine Calls.mono (la12 (HP.out _ BE0)) ?_); rintro e v1 ⟨A1, k1, rfl, hl1, hb1⟩; have B1 := BE0.trans (hb1.mono BE0.size); have hE1 := (LE0.below hb1).more hb1.size)
      | (go_at_call 10; (with_reducible refine Calls.mono (sameE_yes (c := k1) (c2 := 2) hl1 hE1 (by omega)) ?_); rintro e v2 ⟨rfl, hb2⟩; have B2 := B1.trans (hb2.mono B1.size))
      | (go_at_call 10; (with_reducible refine Calls.mono (same03 (c := k1) hl1) ?_); rintro e v2 ⟨rfl, hb2⟩; have B2 := B1.trans (hb2.mono B1.size))
      | (go_at_call 14; (with_reducible refine Calls.mono (lb12 (HP.out _ B2)) ?_); rintro e v3 ⟨A3, k3, rfl, hl3, hb3⟩; have B3 := B2.trans (hb3.mono B2.size))
      | (go_at_call 14; (with_reducible refine Calls.mono (lc12 (HP.out _ B3)) ?_); rintro e v4 ⟨A4, k4, rfl, hl4, hb4⟩; have B4 := B3.trans (hb4.mono B3.size))
      | (go_at_call 10; (with_reducible refine Calls.mono (sameE_yes (c := k4) (c2 := 4) hl4 (take12 (HP.out _ B4)) (by omega)) ?_); rintro e v5 ⟨rfl, hb5⟩; have B5 := B4.trans (hb5.mono B4.size))
      | (go_at_call 14; (with_reducible refine Calls.mono (ld12 (HP.out _ (B5.alloc B5.size _)) ((u31_lie v5).more (by simp))) ?_); rintro e v6 ⟨A6, k6, rfl, hl6, hb6⟩; have B6 := (B5.alloc B5.size _).trans (hb6.mono (B5.alloc B5.size _).size))
      | (go_at_call 14; (with_reducible refine Calls.mono (ld12 (HP.out _ ((B5.alloc B5.size (.cells #[.int .u64 3, .int .u64 1] 27)).alloc (B5.alloc B5.size _).size (.cells #[.string ⟨#[97]⟩, .int .u64 9, .bool true, .string ⟨#[]⟩, .string ⟨#[97]⟩, .int .u64 2, .bool false, .string ⟨#[121]⟩, .string ⟨#[98]⟩, .int .u64 7, .bool true, .string ⟨#[]⟩] 31))) (((u31_lie v5).below ((al_belowM _ _).mono (by simp))).more (by simp))) ?_); rintro e v6 ⟨A6, k6, rfl, hl6, hb6⟩; have B6 := ((B5.alloc B5.size _).alloc (B5.alloc B5.size _).size _).trans (hb6.mono ((B5.alloc B5.size _).alloc (B5.alloc B5.size _).size _).size); have hE6 := (((e023_lie (v5.alloc (.cells #[.int .u64 3, .int .u64 1] 27))).more (by simp)).below hb6).more hb6.size; have hsz6 : (v5.alloc (.cells #[.int .u64 3, .int .u64 1] 27)).heap.size = v5.heap.size + 1 := (by simp); rw [hsz6] at hE6)
      | (go_at_call 14; (with_reducible refine Calls.mono (ld12 (HP.out _ ((B5.alloc B5.size (.cells #[.string ⟨#[97]⟩, .int .u64 9, .bool true, .string ⟨#[]⟩, .string ⟨#[97]⟩, .int .u64 2, .bool false, .string ⟨#[121]⟩, .string ⟨#[98]⟩, .int .u64 7, .bool true, .string ⟨#[]⟩] 31)).alloc (B5.alloc B5.size _).size (.cells #[.int .u64 3, .int .u64 1] 27))) ((u31_lie2 v5 _).more (by simp))) ?_); rintro e v6 ⟨A6, k6, rfl, hl6, hb6⟩; have B6 := ((B5.alloc B5.size _).alloc (B5.alloc B5.size _).size _).trans (hb6.mono ((B5.alloc B5.size _).alloc (B5.alloc B5.size _).size _).size); have hE6 := (((e023_lie v5).below ((al_belowM _ (.cells #[.int .u64 3, .int .u64 1] 27)).mono (by simp))).more (by simp)).below hb6 |>.more hb6.size)
      | (go_at_call 10; (with_reducible refine Calls.mono (sameE_yes (c := k6) (c2 := 3) hl6 hE6 (by omega)) ?_); rintro e v7 ⟨rfl, hb7⟩; have B7 := B6.trans (hb7.mono B6.size))
      | (go_at_call 10; (with_reducible refine Calls.mono (same023 (c := k6) hl6) ?_); rintro e v7 ⟨rfl, hb7⟩; have B7 := B6.trans (hb7.mono B6.size))
      | fail)
    all_goals (
      have HF := Lib.hid (be_transM H19.out B7)
      go_wp2
      go_ret
      exact ⟨rfl, HF.out⟩))
end Go.Proofs.Ytoljldokehfokaa
