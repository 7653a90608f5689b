/-
  The laws' Book: texts: lookText.
-/
import Derived.Test.YtjnmckchicmmgaaGreatDoorBkT3
namespace Go.Proofs.YtjnmckchicmmgaaGreatDoor
open Go.RowKit
set_option linter.unusedVariables false
set_option maxRecDepth 100000

/-- the cells of element k of a row of marks -/
theorem rep_cellsT {w : World} {B n k : Nat} {A : Option Addr} {m : List Value} {a : Value} (h : Lies w B 1 A n (rep m n)) (hm : m = [a]) (hk : k < n) :
    ∃ g o, A = some ⟨g, o, none⟩ ∧ g < B ∧ w.cell? ⟨g, o + k, none⟩ = some a := by
  obtain ⟨g, o, hA, hg, hc⟩ := h.elem (by decide) hk
  have hl : m.length = 1 := by rw [hm]; rfl
  have hr : ∀ j, j < 1 → (rep m n)[k * 1 + j]? = m[j]? := fun j hj => by
    have := rep_get m hk (j := j) (by omega)
    rw [hl] at this; exact this
  refine ⟨g, o, hA, hg, ?_⟩
  · rw [show o + k = o + (k * 1 + 0) from by omega, hc 0 (by decide), hr 0 (by decide), hm]; rfl
/-- what the region of a round reads -/
abbrev LookST (p gl o1 gb o2 : Nat) (bA lA : Option Addr) (bn bc lc bnum : Nat) (s : ByteArray) (w : World) : Prop :=
  w.cell? ⟨p, 0, none⟩ = some (.slice bA bn bc) ∧ w.cell? ⟨p, 1, none⟩ = some (.slice lA (bn + 40) lc) ∧ w.cell? ⟨p, 2, none⟩ = some (.int .i64 (bnum : Int)) ∧
  w.cell? ⟨gl, o1, none⟩ = some (.string s) ∧
  w.cell? ⟨gb, o2, none⟩ = some (.string s)
abbrev LookTT (p gl o1 : Nat) (bA lA : Option Addr) (bn bc lc bnum : Nat) (s : ByteArray) (w : World) : Prop :=
  w.cell? ⟨p, 0, none⟩ = some (.slice bA bn bc) ∧ w.cell? ⟨p, 1, none⟩ = some (.slice lA (bn + 40) lc) ∧ w.cell? ⟨p, 2, none⟩ = some (.int .i64 (bnum : Int)) ∧
  w.cell? ⟨gl, o1, none⟩ = some (.string s)
theorem LookTT.below {p gl o1 : Nat} {bA lA : Option Addr} {bn bc lc bnum : Nat} {s : ByteArray} {w w' : World} (h : LookTT p gl o1 bA lA bn bc lc bnum s w) (hb : Below w.heap.size w w') : LookTT p gl o1 bA lA bn bc lc bnum s w' := by
  have t : ∀ {a : Addr} {v : Value}, w.cell? a = some v → w'.cell? a = some v := fun {a v} hv => (hb.cell (World.block_lt_of_cell? w _ hv)).trans hv
  obtain ⟨h0, h1, h2, h3⟩ := h
  exact ⟨t h0, t h1, t h2, t h3⟩
theorem LookST.below {p gl o1 gb o2 : Nat} {bA lA : Option Addr} {bn bc lc bnum : Nat} {s : ByteArray} {w w' : World} (h : LookST p gl o1 gb o2 bA lA bn bc lc bnum s w) (hb : Below w.heap.size w w') : LookST p gl o1 gb o2 bA lA bn bc lc bnum s w' := by
  have t : ∀ {a : Addr} {v : Value}, w.cell? a = some v → w'.cell? a = some v := fun {a v} hv => (hb.cell (World.block_lt_of_cell? w _ hv)).trans hv
  obtain ⟨h0, h1, h2, h3, h4⟩ := h
  exact ⟨t h0, t h1, t h2, t h3, t h4⟩

set_option maxRecDepth 100000 in
set_option maxHeartbeats 4000000 in
theorem lookText_any (g base : Nat) (cs : Array Value) (vb : Value) (gs : List (BL × Value)) (w : World) (hB : BkIs w g cs) (hcs1 : cs[5]? = some vb) (hbase : base ≤ w.heap.size) (hown : w.ownsRow base 67 3 vb gs.length (heldG gs)) (hG : Grw textK w base gs gs.length) (hl : gs.length ≤ 1000)
    (hb : ∀ p ∈ gs, p.1.n ≤ 1099511627776 ∧ p.1.num ≤ 1000000) (ht : TabB base w) :
    Calls Tryz.prog 50 #[.pointer (some ⟨g, 0, none⟩)] w fun e w' => e = .returned (.bool true) ∧ w.grownBy w' none := by
  have HB := Lib.hid hB; have HOWN := Lib.hid hown; have HG := Lib.hid hG; have HBD := Lib.hid hb; have HT := Lib.hid ht; have HC1 := Lib.hid hcs1
  clear hB hown hG hb ht hcs1
  go_enter Tryz.func50, Tryz.ntmps50
  go_wp2
  go_loopw [3] (fun i wr => ∃ m : Nat, m ≤ gs.length ∧ i = .int .i64 (m : Int) ∧ w.grownBy wr none) (fun i _ => gs.length - (intOf i).toNat)
  case atStart => exact ⟨0, Nat.zero_le _, rfl, World.grownBy.refl _ _⟩
  case round =>
    obtain ⟨m, hm, rfl, hgr⟩ := hrel
    have hBr := HB.out.grown hgr (by simp)
    have hOr := own_none HOWN.out hgr
    have hc1 : wr.cell? ⟨g, 5, none⟩ = some vb := (hBr.cell 5).trans HC1.out
    obtain ⟨Av, cv, hvb, hncv, hcmv, _⟩ := own_shape hOr
    subst hvb
    have HGR := Lib.hid hgr
    clear hgr hBr
    by_cases hlt : m < gs.length
    · obtain ⟨⟨⟨bA, bn, bc, bnum⟩, lv⟩, hbm⟩ : ∃ p, gs[m]? = some p := ⟨gs[m], List.getElem?_eq_getElem hlt⟩
      obtain ⟨hMk, hLg, _⟩ := HG.out m _ _ hbm
      have hLg := own_none (hLg hlt) HGR.out
      have hMk : wr.ownsRow base 9 1 (.slice bA bn bc) bn (rep (textK.mark bnum) bn) := own_none hMk HGR.out
      obtain ⟨lA, lc, hlv, hlnc, hlcm, _⟩ := own_shape hLg
      subst hlv
      have hLg : wr.ownsRow base 9 1 (.slice lA (bn + 40) lc) (bn + 40) (rep (textK.mark bnum) (bn + 40)) := hLg
      obtain ⟨gv, hgv⟩ : ∃ gv, Av = some ⟨gv, 0, none⟩ := by
        rcases hOr.2 with ⟨_, h0⟩ | ⟨g', cap, cur, hv, _⟩
        · omega
        · injection hv with h1 _ _; exact ⟨g', h1⟩
      subst hgv
      have k0 : wr.cell? ⟨gv, m * 3, none⟩ = some (.slice bA bn bc) := by rw [hOr.cellAt (m * 3) (by omega), Nat.mul_comm]; exact heldG_at gs m 0 _ hbm (by decide)
      have k1 : wr.cell? ⟨gv, m * 3 + 1, none⟩ = some (.slice lA (bn + 40) lc) := by rw [hOr.cellAt (m * 3 + 1) (by omega), Nat.mul_comm]; exact heldG_at gs m 1 _ hbm (by decide)
      have k2 : wr.cell? ⟨gv, m * 3 + 2, none⟩ = some (.int .i64 (bnum : Int)) := by rw [hOr.cellAt (m * 3 + 2) (by omega), Nat.mul_comm]; exact heldG_at gs m 2 _ hbm (by decide)
      have hbd := HBD.out _ (List.mem_of_getElem? hbm)
      have hbn : bn ≤ 1099511627776 := hbd.1
      have hbnum : bnum ≤ 1000000 := hbd.2
      have hcmv2 : cv ≤ 9223372036854775807 := hcmv
      have HMk := Lib.hid hMk; have HLg := Lib.hid hLg
      have hlen : ((bn : Int) + 40 != (bn : Int) + 40) = false := by simp
      clear hbm hcmv hbd hMk hLg hOr hlcm
      obtain ⟨wo, rfl⟩ : ∃ wo : World, wo = wr := ⟨_, rfl⟩
      obtain ⟨s, hs⟩ : ∃ s, wd bnum = s := ⟨_, rfl⟩
      have hmk : textK.mark bnum = [.string s] := by rw [← hs]; rfl
      have HMK := Lib.hid hmk
      have HLW : Hid (Below base w wo) := (⟨HGR.out.os, HGR.out.tape, HGR.out.output, HGR.out.size, fun j hj => HGR.out.block j hj (by simp)⟩ : Below w.heap.size w wo).mono hbase
      have HIS : Hid (∀ W, Below base w W → Calls Tryz.prog 81 #[.string s, .int .i64 (bnum : Int)] W fun e w' => e = .returned (.bool true) ∧ Below W.heap.size W w') := fun W hW => by
        have := isText_any bnum W hbnum fun W' hW' => HT.out W' (hW.trans (hW'.mono (Nat.le_trans hbase hW.size)))
        rw [← hs]
        exact this
      clear hs hmk
      have hbox : (wo.alloc (.cells #[.slice bA bn bc, .slice lA (bn + 40) lc, .int .i64 (bnum : Int)] 67)).heap[wo.heap.size]? = some (.cells #[.slice bA bn bc, .slice lA (bn + 40) lc, .int .i64 (bnum : Int)] 67 (0, 0)) := heap_alloc_new wo _
      have hg0 : wo.grownBy (wo.alloc (.cells #[.slice bA bn bc, .slice lA (bn + 40) lc, .int .i64 (bnum : Int)] 67)) none := World.grownBy_alloc wo _ none
      obtain ⟨w0, hw0⟩ : ∃ w0, w0 = wo.alloc (.cells #[.slice bA bn bc, .slice lA (bn + 40) lc, .int .i64 (bnum : Int)] 67) := ⟨_, rfl⟩
      rw [← hw0] at hbox hg0
      have HW0 := Lib.hid hw0; have HG0 := Lib.hid hg0
      have c0 : w0.cell? ⟨wo.heap.size, 0, none⟩ = some (.slice bA bn bc) := cell_of_row w0 wo.heap.size 0 _ _ (0, 0) hbox
      have c1 : w0.cell? ⟨wo.heap.size, 1, none⟩ = some (.slice lA (bn + 40) lc) := cell_of_row w0 wo.heap.size 1 _ _ (0, 0) hbox
      have c2 : w0.cell? ⟨wo.heap.size, 2, none⟩ = some (.int .i64 (bnum : Int)) := cell_of_row w0 wo.heap.size 2 _ _ (0, 0) hbox
      have LM := Lib.hid (Lies.of_own (own_none HMk.out hg0)); have LL := Lib.hid (Lies.of_own (own_none HLg.out hg0))
      clear hw0 hbox hg0
      have HB0 : Hid (Below base w w0) := HLW.out.trans ((⟨HG0.out.os, HG0.out.tape, HG0.out.output, HG0.out.size, fun j hj => HG0.out.block j hj (by simp)⟩ : Below wo.heap.size wo w0).mono (Nat.le_trans hbase HLW.out.size))
      have C012 := Lib.hid (And.intro c0 (And.intro c1 c2))
      clear c0 c1 c2
      go_wp2
      rw [← HW0.out]
      go_loopw [5] (fun i w2 => ∃ k : Nat, k ≤ bn + 40 ∧ i = .int .i64 (k : Int) ∧ Below w0.heap.size w0 w2) (fun i _ => bn + 40 - (intOf i).toNat)
      case atStart => exact ⟨0, Nat.zero_le _, rfl, Below.refl _ _⟩
      case round =>
        clear k0 k1 k2 hc1
        obtain ⟨k, hk, rfl, hbr⟩ := hrel
        obtain ⟨c0', c1', c2'⟩ := C012.out
        have hbx : wo.heap.size < w0.heap.size := World.block_lt_of_cell? w0 _ c0'
        have c0 := (hbr.cell (p := ⟨wo.heap.size, 0, none⟩) hbx).trans c0'
        have c1 := (hbr.cell (p := ⟨wo.heap.size, 1, none⟩) hbx).trans c1'
        have c2 := (hbr.cell (p := ⟨wo.heap.size, 2, none⟩) hbx).trans c2'
        have hBW : Below base w wr := HB0.out.trans (hbr.mono (Nat.le_trans hbase HB0.out.size))
        have HBR := Lib.hid hbr
        by_cases hkn : k < bn + 40
        · obtain ⟨gl, ol, hlA, hll, l0⟩ := rep_cellsT (LL.out.below hbr) HMK.out hkn
          subst hlA
          have i1 : (k : Int) < (bn : Int) + 40 := by omega
          have i2 : (0 : Int) ≤ (k : Int) := by omega
          have hbd : Below base w wr.drew := ⟨hBW.os, hBW.tape, hBW.output, hBW.size, hBW.block⟩
          have HI1 := Lib.hid (HIS.out _ hbd)
          have hbd2 : Below wr.heap.size wr wr.drew := below_drew1 wr
          clear c0' c1' c2' hbr
          by_cases hkb : k < bn
          · obtain ⟨gb, ob, hbA, hbb, m0⟩ := rep_cellsT (LM.out.below HBR.out) HMK.out hkb
            subst hbA
            have i3 : (k : Int) < (bn : Int) := by omega
            have d1 : decide (k < bn) = true := by simp; omega
            have d1' : decide ((k : Int) < (bn : Int)) = true := by simp; omega
            have S0 : LookST wo.heap.size gl (ol + k) gb (ob + k) (some ⟨gb, ob, none⟩) (some ⟨gl, ol, none⟩) bn bc lc bnum s wr := ⟨c0, c1, c2, l0, m0⟩
            have Sd := Lib.hid S0
            have Sd : LookST wo.heap.size gl (ol + k) gb (ob + k) (some ⟨gb, ob, none⟩) (some ⟨gl, ol, none⟩) bn bc lc bnum s wr.drew := S0.below hbd2
            have HSd := Lib.hid Sd
            clear Sd l0 m0 S0
            go_wp2
            have Sd := HSd.out
            clear c0 c1 c2
            go_region_held3 (fun w' => LookST wo.heap.size gl (ol + k) gb (ob + k) (some ⟨gb, ob, none⟩) (some ⟨gl, ol, none⟩) bn bc lc bnum s w') (first | exact Sd | exact S1 | exact S2)
              (first
                | (go_at_call 81; refine HI1.out.mono ?_; rintro e w1 ⟨rfl, hb1⟩; have S1 := Sd.below hb1; have hbw1 := hbd.trans (hb1.mono (Nat.le_trans hbase hbd.size)))
                | (go_at_call 81; refine (HIS.out _ hbw1).mono ?_; rintro e w2 ⟨rfl, hb2⟩; have S2 := S1.below hb2)
                | fail)
            have R : Hid (Below w0.heap.size w0 w2) := HBR.out.trans (((below_drew1 wr).trans (hb1.trans (hb2.mono hb1.size))).mono HBR.out.size)
            clear S1 S2 hb1 hb2 hbw1 Sd
            go_wp2
            go_roundw
            case rel => exact ⟨k + 1, hkn, by go_num, R.out⟩
            case measure => simp [intOf]; omega
          · have d1 : decide (k < bn) = false := by simp; omega
            have d1' : decide ((k : Int) < (bn : Int)) = false := by simp; omega
            have S0 : LookTT wo.heap.size gl (ol + k) bA (some ⟨gl, ol, none⟩) bn bc lc bnum s wr := ⟨c0, c1, c2, l0⟩
            have Sd : LookTT wo.heap.size gl (ol + k) bA (some ⟨gl, ol, none⟩) bn bc lc bnum s wr.drew := S0.below hbd2
            have HSd := Lib.hid Sd
            clear Sd l0 S0
            go_wp2
            have Sd := HSd.out
            clear c0 c1 c2
            refine wp_region_held_drew (S := (fun w' => LookTT wo.heap.size gl (ol + k) bA (some ⟨gl, ol, none⟩) bn bc lc bnum s w')) (by kernel_rfl) Sd (fun hHeld => ?_)
            refine wpAnyH_take (i := 0) (oi := _) (v := ?v0) rfl (by kernel_rfl) (by kernel_rfl) (by kernel_rfl) (fun _ _ _ h => h) (Or.inl ⟨by rfl, ?y0⟩) (by assumption) ?r0
            case y0 => (intro w' hSw; (try dsimp only at hSw); go_simp <;> with_reducible rfl)
            try simp only [Act.put, List.setIfInBounds_toArray, List.set_cons_zero, List.set_cons_succ, List.getElem_toArray, List.getElem_cons_zero]
            refine wpAnyH_take (i := 1) (oi := _) (v := ?v1) rfl (by kernel_rfl) (by kernel_rfl) (by kernel_rfl) (fun _ _ _ h => h) (Or.inl ⟨by rfl, ?y1⟩) (by assumption) ?r1
            case y1 => (intro w' hSw; (try dsimp only at hSw); go_simp <;> with_reducible rfl)
            try simp only [Act.put, List.setIfInBounds_toArray, List.set_cons_zero, List.set_cons_succ, List.getElem_toArray, List.getElem_cons_zero, List.getElem_cons_succ]
            refine wpAnyH_take (i := 2) (oi := _) (v := ?v2) rfl (by kernel_rfl) (by kernel_rfl) (by kernel_rfl) (fun _ _ _ h => h) (Or.inl ⟨by rfl, ?y2⟩) (by assumption) ?r2
            case y2 => (intro w' hSw; (try dsimp only at hSw); go_simp <;> with_reducible rfl)
            try simp only [Act.put, List.setIfInBounds_toArray, List.set_cons_zero, List.set_cons_succ, List.getElem_toArray, List.getElem_cons_zero, List.getElem_cons_succ]
            refine wpAnyH_take (i := 3) (oi := _) (v := ?v3) rfl (by kernel_rfl) (by kernel_rfl) (by kernel_rfl) (fun _ _ _ h => h) (Or.inl ⟨by rfl, ?y3⟩) (by assumption) ?r3
            case y3 => (intro w' hSw; (try dsimp only at hSw); go_simp <;> with_reducible rfl)
            try simp only [Act.put, List.setIfInBounds_toArray, List.set_cons_zero, List.set_cons_succ, List.getElem_toArray, List.getElem_cons_zero, List.getElem_cons_succ]
            refine wpAnyH_take (i := 4) (oi := _) (v := ?v4) rfl (by kernel_rfl) (by kernel_rfl) (by kernel_rfl) (fun _ _ _ h => h) (Or.inl ⟨by rfl, ?y4⟩) (by assumption) ?r4
            case y4 => (intro w' hSw; (try dsimp only at hSw); go_simp <;> with_reducible rfl)
            try simp only [Act.put, List.setIfInBounds_toArray, List.set_cons_zero, List.set_cons_succ, List.getElem_toArray, List.getElem_cons_zero, List.getElem_cons_succ]
            refine wpAnyH_take (i := 5) (oi := _) (v := ?v5) rfl (by kernel_rfl) (by kernel_rfl) (by kernel_rfl) (fun _ _ _ h => h) (Or.inl ⟨by rfl, ?y5⟩) (by assumption) ?r5
            case y5 => (intro w' hSw; (try dsimp only at hSw); go_simp <;> with_reducible rfl)
            try simp only [Act.put, List.setIfInBounds_toArray, List.set_cons_zero, List.set_cons_succ, List.getElem_toArray, List.getElem_cons_zero, List.getElem_cons_succ]
            refine wpAnyH_take (i := 6) (oi := _) (v := ?v6) rfl (by kernel_rfl) (by kernel_rfl) (by kernel_rfl) (fun _ _ _ h => h) (Or.inl ⟨by rfl, ?y6⟩) (by assumption) ?r6
            case y6 => (intro w' hSw; (try dsimp only at hSw); go_simp <;> with_reducible rfl)
            try simp only [Act.put, List.setIfInBounds_toArray, List.set_cons_zero, List.set_cons_succ, List.getElem_toArray, List.getElem_cons_zero, List.getElem_cons_succ]
            refine wpAnyH_ready (rs := [7]) (by kernel_rfl) (by simp) ?_
            refine AllReadyH.cons (o := _) rfl (fun K hK => ?_) AllReadyH.nil
            go_simp
            go_at_call 81
            refine HI1.out.mono ?_
            rintro e w1 ⟨rfl, hb1⟩
            have S1 := Sd.below hb1
            refine hK.out _ _ S1 (fun hHeld => ?_)
            clear hK K
            try simp only [Act.put, List.setIfInBounds_toArray, List.set_cons_zero, List.set_cons_succ, List.getElem_toArray, List.getElem_cons_zero, List.getElem_cons_succ]
            refine wpAnyH_take (i := 8) (oi := _) (v := ?v8) rfl (by kernel_rfl) (by kernel_rfl) (by kernel_rfl) (fun _ _ _ h => h) (Or.inl ⟨by rfl, ?y8⟩) (by assumption) ?r8
            case y8 => (intro w' hSw; (try dsimp only at hSw); go_simp <;> with_reducible rfl)
            try simp only [Act.put, List.setIfInBounds_toArray, List.set_cons_zero, List.set_cons_succ, List.getElem_toArray, List.getElem_cons_zero, List.getElem_cons_succ]
            refine wpAnyH_take (i := 9) (oi := _) (v := ?v9) rfl (by kernel_rfl) (by kernel_rfl) (by kernel_rfl) (fun _ _ _ h => h) (Or.inl ⟨by rfl, ?y9⟩) (by assumption) ?r9
            case y9 => (intro w' hSw; (try dsimp only at hSw); go_simp <;> with_reducible rfl)
            try simp only [Act.put, List.setIfInBounds_toArray, List.set_cons_zero, List.set_cons_succ, List.getElem_toArray, List.getElem_cons_zero, List.getElem_cons_succ]
            refine wpAnyH_take (i := 10) (oi := _) (v := ?v10) rfl (by kernel_rfl) (by kernel_rfl) (by kernel_rfl) (fun _ _ _ h => h) (Or.inl ⟨by rfl, ?y10⟩) (by assumption) ?r10
            case y10 => (intro w' hSw; (try dsimp only at hSw); go_simp <;> with_reducible rfl)
            try simp only [Act.put, List.setIfInBounds_toArray, List.set_cons_zero, List.set_cons_succ, List.getElem_toArray, List.getElem_cons_zero, List.getElem_cons_succ]
            refine wpAnyH_take (i := 11) (oi := _) (v := ?v11) rfl (by kernel_rfl) (by kernel_rfl) (by kernel_rfl) (fun _ _ _ h => h) (Or.inl ⟨by rfl, ?y11⟩) (by assumption) ?r11
            case y11 => (intro w' hSw; (try dsimp only at hSw); go_simp <;> with_reducible rfl)
            try simp only [Act.put, List.setIfInBounds_toArray, List.set_cons_zero, List.set_cons_succ, List.getElem_toArray, List.getElem_cons_zero, List.getElem_cons_succ]
            refine wpAnyH_take (i := 12) (oi := _) (v := ?v12) rfl (by kernel_rfl) (by kernel_rfl) (by kernel_rfl) (fun _ _ _ h => h) (Or.inl ⟨by rfl, ?y12⟩) (by assumption) ?r12
            case y12 => (intro w' hSw; (try dsimp only at hSw); go_simp <;> with_reducible rfl)
            try simp only [Act.put, List.setIfInBounds_toArray, List.set_cons_zero, List.set_cons_succ, List.getElem_toArray, List.getElem_cons_zero, List.getElem_cons_succ]
            refine wpAnyH_take (i := 13) (oi := _) (v := ?v13) rfl (by kernel_rfl) (by kernel_rfl) (by kernel_rfl) (fun _ _ _ h => h) (Or.inl ⟨by rfl, ?y13⟩) (by assumption) ?r13
            case y13 => (intro w' hSw; (try dsimp only at hSw); go_simp <;> with_reducible rfl)
            try simp only [Act.put, List.setIfInBounds_toArray, List.set_cons_zero, List.set_cons_succ, List.getElem_toArray, List.getElem_cons_zero, List.getElem_cons_succ]
            refine wpAnyH_take (i := 14) (oi := _) (v := ?v14) rfl (by kernel_rfl) (by kernel_rfl) (by kernel_rfl) (fun _ _ _ h => h) (Or.inl ⟨by rfl, ?y14⟩) (by assumption) ?r14
            case y14 => (intro w' hSw; (try dsimp only at hSw); go_simp <;> with_reducible rfl)
            try simp only [Act.put, List.setIfInBounds_toArray, List.set_cons_zero, List.set_cons_succ, List.getElem_toArray, List.getElem_cons_zero, List.getElem_cons_succ]
            refine wpAnyH_take (i := 15) (oi := _) (v := ?v15) rfl (by kernel_rfl) (by kernel_rfl) (by kernel_rfl) (fun _ _ _ h => h) (Or.inl ⟨by rfl, ?y15⟩) (by assumption) ?r15
            case y15 => (intro w' hSw; (try dsimp only at hSw); go_simp <;> with_reducible rfl)
            try simp only [Act.put, List.setIfInBounds_toArray, List.set_cons_zero, List.set_cons_succ, List.getElem_toArray, List.getElem_cons_zero, List.getElem_cons_succ]
            refine wpAnyH_take (i := 16) (oi := _) (v := undef) rfl (by kernel_rfl) (by kernel_rfl) (by kernel_rfl) (fun _ _ _ h => h) (Or.inr ⟨by rfl, rfl⟩) (by assumption) ?_
            try simp only [Act.put, List.setIfInBounds_toArray, List.set_cons_zero, List.set_cons_succ, List.getElem_toArray, List.getElem_cons_zero, List.getElem_cons_succ]
            refine wpAnyH_take (i := 17) (oi := _) (v := undef) rfl (by kernel_rfl) (by kernel_rfl) (by kernel_rfl) (fun _ _ _ h => h) (Or.inr ⟨by rfl, rfl⟩) (by assumption) ?_
            try simp only [Act.put, List.setIfInBounds_toArray, List.set_cons_zero, List.set_cons_succ, List.getElem_toArray, List.getElem_cons_zero, List.getElem_cons_succ]
            refine wpAnyH_take (i := 18) (oi := _) (v := undef) rfl (by kernel_rfl) (by kernel_rfl) (by kernel_rfl) (fun _ _ _ h => h) (Or.inr ⟨by rfl, rfl⟩) (by assumption) ?_
            try simp only [Act.put, List.setIfInBounds_toArray, List.set_cons_zero, List.set_cons_succ, List.getElem_toArray, List.getElem_cons_zero, List.getElem_cons_succ]
            refine wpAnyH_take (i := 19) (oi := _) (v := undef) rfl (by kernel_rfl) (by kernel_rfl) (by kernel_rfl) (fun _ _ _ h => h) (Or.inr ⟨by rfl, rfl⟩) (by assumption) ?_
            try simp only [Act.put, List.setIfInBounds_toArray, List.set_cons_zero, List.set_cons_succ, List.getElem_toArray, List.getElem_cons_zero, List.getElem_cons_succ]
            refine wpAnyH_take (i := 20) (oi := _) (v := undef) rfl (by kernel_rfl) (by kernel_rfl) (by kernel_rfl) (fun _ _ _ h => h) (Or.inr ⟨by rfl, rfl⟩) (by assumption) ?_
            try simp only [Act.put, List.setIfInBounds_toArray, List.set_cons_zero, List.set_cons_succ, List.getElem_toArray, List.getElem_cons_zero, List.getElem_cons_succ]
            refine wpAnyH_take (i := 21) (oi := _) (v := undef) rfl (by kernel_rfl) (by kernel_rfl) (by kernel_rfl) (fun _ _ _ h => h) (Or.inr ⟨by rfl, rfl⟩) (by assumption) ?_
            try simp only [Act.put, List.setIfInBounds_toArray, List.set_cons_zero, List.set_cons_succ, List.getElem_toArray, List.getElem_cons_zero, List.getElem_cons_succ]
            refine wpAnyH_take (i := 22) (oi := _) (v := undef) rfl (by kernel_rfl) (by kernel_rfl) (by kernel_rfl) (fun _ _ _ h => h) (Or.inr ⟨by rfl, rfl⟩) (by assumption) ?_
            try simp only [Act.put, List.setIfInBounds_toArray, List.set_cons_zero, List.set_cons_succ, List.getElem_toArray, List.getElem_cons_zero, List.getElem_cons_succ]
            refine wpAnyH_take (i := 23) (oi := _) (v := undef) rfl (by kernel_rfl) (by kernel_rfl) (by kernel_rfl) (fun _ _ _ h => h) (Or.inr ⟨by rfl, rfl⟩) (by assumption) ?_
            try simp only [Act.put, List.setIfInBounds_toArray, List.set_cons_zero, List.set_cons_succ, List.getElem_toArray, List.getElem_cons_zero, List.getElem_cons_succ]
            refine wpAnyH_take (i := 24) (oi := _) (v := undef) rfl (by kernel_rfl) (by kernel_rfl) (by kernel_rfl) (fun _ _ _ h => h) (Or.inr ⟨by rfl, rfl⟩) (by assumption) ?_
            try simp only [Act.put, List.setIfInBounds_toArray, List.set_cons_zero, List.set_cons_succ, List.getElem_toArray, List.getElem_cons_zero, List.getElem_cons_succ]
            refine wpAnyH_take (i := 25) (oi := _) (v := ?v25) rfl (by kernel_rfl) (by kernel_rfl) (by kernel_rfl) (fun _ _ _ h => h) (Or.inl ⟨by rfl, ?y25⟩) (by assumption) ?r25
            case y25 => (intro w' hSw; (try dsimp only at hSw); go_simp <;> with_reducible rfl)
            try simp only [Act.put, List.setIfInBounds_toArray, List.set_cons_zero, List.set_cons_succ, List.getElem_toArray, List.getElem_cons_zero, List.getElem_cons_succ]
            refine wpAnyH_take (i := 26) (oi := _) (v := ?v26) rfl (by kernel_rfl) (by kernel_rfl) (by kernel_rfl) (fun _ _ _ h => h) (Or.inl ⟨by rfl, ?y26⟩) (by assumption) ?r26
            case y26 => (intro w' hSw; (try dsimp only at hSw); go_simp <;> with_reducible rfl)
            try simp only [Act.put, List.setIfInBounds_toArray, List.set_cons_zero, List.set_cons_succ, List.getElem_toArray, List.getElem_cons_zero, List.getElem_cons_succ]
            refine wpAnyH_done (by kernel_rfl) ?_ _
            have R : Hid (Below w0.heap.size w0 w1) := HBR.out.trans (((below_drew1 wr).trans hb1).mono HBR.out.size)
            clear S1 hb1 Sd
            go_wp2
            go_roundw
            case rel => exact ⟨k + 1, hkn, by go_num, R.out⟩
            case measure => simp [intOf]; omega
        · have R : Hid (w.grownBy wr none) := (HGR.out.trans HG0.out).trans (grown_of_below HBR.out none)
          go_wp2
          go_roundw
          case rel => exact ⟨m + 1, hlt, by go_num, R.out⟩
          case measure => simp [intOf]; omega
    · obtain rfl : m = gs.length := by omega
      go_wp2
      go_ret
      exact ⟨rfl, HGR.out⟩
end Go.Proofs.YtjnmckchicmmgaaGreatDoor
