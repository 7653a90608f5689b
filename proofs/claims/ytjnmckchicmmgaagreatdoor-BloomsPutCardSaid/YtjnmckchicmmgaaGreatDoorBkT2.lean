/-
  The laws' Book: texts: fillText.
-/
import Derived.Test.YtjnmckchicmmgaaGreatDoorBkTK
import Derived.Deep.RegionHeld3
namespace Go.Proofs.YtjnmckchicmmgaaGreatDoor
open Go.RowKit
set_option linter.unusedVariables false
set_option maxRecDepth 100000

/-- the cells of one element of a row are there -/
theorem rowT {w : World} {base n c g q : Nat} {xs : List Value} (h : w.ownsRow base 9 1 (.slice (some ⟨g, 0, none⟩) n c) n xs) (hq : q < n) :
    (∃ v, w.cell? ⟨g, q, none⟩ = some v) := by
  have hl := h.1
  (rw [h.cellAt _ (by omega)]; exact ⟨_, List.getElem?_eq_getElem (by omega)⟩)
theorem setT (P R : List Value) (u0 : Value) (h : 1 ≤ R.length) : (P ++ R).set P.length u0 = P ++ [u0] ++ R.drop 1 := by
  match R, h with
  | a :: R, _ => simp [List.set_append_right]
/-- a mark, stored in a row -/
abbrev stTo (w : World) (g o : Nat) (s : ByteArray) : World := (w).setCell ⟨g, o, none⟩ (.string s)
theorem stT_cell (w : World) (g o : Nat) (s : ByteArray) {b : Nat} (hb : b ≠ g) (i : Nat) : (stTo w g o s).cell? ⟨b, i, none⟩ = w.cell? ⟨b, i, none⟩ := by
  have h : ∀ (W : World) (k : Nat) (u : Value), (W.setCell ⟨g, k, none⟩ u).cell? ⟨b, i, none⟩ = W.cell? ⟨b, i, none⟩ := fun W k u => World.cell?_setCell_other W _ _ _ (fun e => hb (congrArg Addr.block e).symm)
  unfold stTo
  rw [h]
theorem storedT {w : World} {base n c g q : Nat} {m xs : List Value} {s : ByteArray} (h : w.ownsRow base 9 1 (.slice (some ⟨g, 0, none⟩) n c) n (rep m q ++ xs.drop (q * 1))) (hm : m = [.string s]) (hl : xs.length = n * 1) (hq : q < n) :
    (stTo w g (q) s).ownsRow base 9 1 (.slice (some ⟨g, 0, none⟩) n c) n (rep m (q + 1) ++ xs.drop ((q + 1) * 1)) ∧ w.grownBy (stTo w g (q) s) (some g) := by
  rw [Nat.mul_one] at h
  have h1 := h.stored (q) (.string s)
  have hml : m.length = 1 := by rw [hm]; rfl
  have hp : (rep m q).length = q := by rw [rep_len, hml, Nat.mul_one]
  have e := setT (rep m q) (xs.drop (q)) (.string s) (by rw [List.length_drop]; omega)
  rw [hp, List.drop_drop] at e
  refine ⟨?_, h1.2⟩
  have h5 := h1.1
  rw [e, ← hm, ← rep_succ] at h5
  rw [Nat.mul_one]
  exact h5

set_option maxRecDepth 100000 in
set_option maxHeartbeats 4000000 in
theorem fillText_any (g base : Nat) (cs : Array Value) (vb : Value) (ls : List BL) (w : World) (hB : BkIs w g cs) (hcs1 : cs[5]? = some vb) (hown : w.ownsRow base 67 3 vb ls.length (held0 ls)) (hF : Filled textK w base ls 0) (hD : Dis ls) (hbase : base ≤ w.heap.size) (hl : ls.length ≤ 1000)
    (hb : ∀ b ∈ ls, b.n ≤ 1099511627776 ∧ b.num ≤ 1000000) (ht : TabB base w) :
    Calls Tryz.prog 24 #[.pointer (some ⟨g, 0, none⟩)] w fun e w' => e = .returned (.tuple #[]) ∧ FRel textK w base g cs vb ls (.int .i64 (ls.length : Int)) w' := by
  have H0 : Hid (FRel textK w base g cs vb ls (.int .i64 0) w) := ⟨0, Nat.zero_le _, rfl, hB, hown, hF, Wrote.refl _ _⟩
  have HD := Lib.hid hD; have HBD := Lib.hid hb; have HT := Lib.hid ht; have HC1 := Lib.hid hcs1
  have HLO : Hid (∀ i, Bks ls i → base ≤ i ∧ i < w.heap.size) := fun i ⟨b, hbm, hbi⟩ => by
    obtain ⟨j, hj⟩ := List.getElem?_of_mem hbm
    obtain ⟨xs, hx, _⟩ := hF j b hj
    exact hx.lt i hbi
  clear hB hown hF hD hb ht hcs1
  go_enter Tryz.func24, Tryz.ntmps24
  go_wp2
  go_loopw [2] (fun i wr => FRel textK w base g cs vb ls i wr) (fun i _ => ls.length - (intOf i).toNat)
  case atStart => exact H0.out
  case round =>
    clear H0
    obtain ⟨m, hm, rfl, hB, hown, hF, hbel⟩ := hrel
    have hc1 : wr.cell? ⟨g, 5, none⟩ = some vb := (hB.cell 5).trans HC1.out
    obtain ⟨Av, cv, rfl, hncv, hcmv, _⟩ := own_shape hown
    have HB := Lib.hid hB; have HOWN := Lib.hid hown; have HF := Lib.hid hF; have HBEL := Lib.hid hbel
    clear hB hown hF hbel
    by_cases hlt : m < ls.length
    · obtain ⟨⟨bA, bn, bc, bnum⟩, hbm⟩ : ∃ b, ls[m]? = some b := ⟨ls[m], List.getElem?_eq_getElem hlt⟩
      have HBM := Lib.hid hbm
      obtain ⟨gv, hgv⟩ : ∃ gv, Av = some ⟨gv, 0, none⟩ := by
        rcases HOWN.out.2 with ⟨_, h0⟩ | ⟨g', cap, cur, hv, _⟩
        · omega
        · injection hv with h1 _ _; exact ⟨g', h1⟩
      subst hgv
      have k0 : wr.cell? ⟨gv, m * 3, none⟩ = some (.slice bA bn bc) := by rw [HOWN.out.cellAt (m * 3) (by omega), Nat.mul_comm]; exact held0_at ls m 0 _ hbm (by decide)
      have k1 : wr.cell? ⟨gv, m * 3 + 1, none⟩ = some (.slice none 0 0) := by rw [HOWN.out.cellAt (m * 3 + 1) (by omega), Nat.mul_comm]; exact held0_at ls m 1 _ hbm (by decide)
      have k2 : wr.cell? ⟨gv, m * 3 + 2, none⟩ = some (.int .i64 (bnum : Int)) := by rw [HOWN.out.cellAt (m * 3 + 2) (by omega), Nat.mul_comm]; exact held0_at ls m 2 _ hbm (by decide)
      have hcmv2 : cv ≤ 9223372036854775807 := hcmv
      have hbd := HBD.out _ (List.mem_of_getElem? hbm)
      have hbn : bn ≤ 1099511627776 := hbd.1
      have hbnum : bnum ≤ 1000000 := hbd.2
      obtain ⟨xs, hxs, _⟩ := HF.out m _ hbm
      have HXS := Lib.hid hxs
      clear hbm hcmv hbd hxs
      obtain ⟨wo, rfl⟩ : ∃ wo : World, wo = wr := ⟨_, rfl⟩
      obtain ⟨s, hs⟩ : ∃ s, wd bnum = s := ⟨_, rfl⟩
      have hmk : textK.mark bnum = [.string s] := by rw [← hs]; rfl
      have HMK := Lib.hid hmk
      have HLW := Lib.hid (HBEL.out.below (fun i hi => (HLO.out i hi).1) hbase)
      have HM : Hid (∀ W, Below base w W → Calls Tryz.prog 68 #[.int .i64 (bnum : Int)] W fun e w' => e = .returned (.string s) ∧ Below W.heap.size W w') := fun W hW => by
        have := markText_any bnum W hbnum fun W' hW' => HT.out W' (hW.trans (hW'.mono (Nat.le_trans hbase hW.size)))
        rw [← hs]
        exact this
      clear hs hmk
      go_wp2
      have hbox : (wo.alloc (.cells #[.slice bA bn bc, .slice none 0 0, .int .i64 (bnum : Int)] 67)).heap[wo.heap.size]? = some (.cells #[.slice bA bn bc, .slice none 0 0, .int .i64 (bnum : Int)] 67 (0, 0)) := heap_alloc_new wo _
      have hxs0 := HXS.out.alloc (.cells #[.slice bA bn bc, .slice none 0 0, .int .i64 (bnum : Int)] 67)
      have hg0 : wo.grownBy (wo.alloc (.cells #[.slice bA bn bc, .slice none 0 0, .int .i64 (bnum : Int)] 67)) none := World.grownBy_alloc wo _ none
      obtain ⟨w0, hw0⟩ : ∃ w0, wo.alloc (.cells #[.slice bA bn bc, .slice none 0 0, .int .i64 (bnum : Int)] 67) = w0 := ⟨_, rfl⟩
      rw [hw0] at hbox hxs0 hg0 ⊢
      have HBOX := Lib.hid hbox; have HG0 := Lib.hid hg0
      have hgh : some wo.heap.size ≠ (Value.slice bA bn bc).ownBlock := by
        intro he
        have := (HXS.out.lt wo.heap.size he.symm).2
        omega
      have HGH := Lib.hid hgh
      have Q0 : Hid (QRel textK w0 base bA bn bc xs bnum (.int .i64 0) w0) := ⟨0, Nat.zero_le _, rfl, hxs0, World.grownBy.refl _ _⟩
      have HB0 : Hid (Below base w w0) := HLW.out.trans ((grown_of_below (Below.refl wo.heap.size wo) none |>.trans hg0 |> fun h => (⟨h.os, h.tape, h.output, h.size, fun j hj => h.block j hj (by simp)⟩ : Below wo.heap.size wo w0)).mono (Nat.le_trans hbase HLW.out.size))
      clear hw0 hbox hxs0 hg0 hgh k0 k1 k2
      go_loopw [4] (fun i w2 => QRel textK w0 base bA bn bc xs bnum i w2) (fun i _ => bn - (intOf i).toNat)
      case atStart => exact Q0.out
      case round =>
        clear Q0
        obtain ⟨q, hq, rfl, hownq, hgq⟩ := hrel
        have hboxq := (hgq.block wo.heap.size (by have := (Array.getElem?_eq_some_iff.1 HBOX.out).1; exact this) HGH.out).trans HBOX.out
        have c0 : wr.cell? ⟨wo.heap.size, 0, none⟩ = some (.slice bA bn bc) := cell_of_row wr wo.heap.size 0 _ _ (0, 0) hboxq
        have c2 : wr.cell? ⟨wo.heap.size, 2, none⟩ = some (.int .i64 (bnum : Int)) := cell_of_row wr wo.heap.size 2 _ _ (0, 0) hboxq
        have HOQ := Lib.hid hownq; have HGQ := Lib.hid hgq
        clear hboxq hownq hgq
        by_cases hqn : q < bn
        · obtain ⟨gl, hgl⟩ : ∃ gl, bA = some ⟨gl, 0, none⟩ := by
            rcases HOQ.out.2 with ⟨_, h0⟩ | ⟨g', cap, cur, hv, _⟩
            · omega
            · injection hv with h1 _ _; exact ⟨g', h1⟩
          subst hgl
          have hxl : xs.length = bn * 1 := HXS.out.1
          have hBwr : Below base w wr := by
            refine HB0.out.grown HGQ.out (Nat.le_trans hbase HB0.out.size) fun j hj => (HXS.out.lt j hj).1
          have hne : wo.heap.size ≠ gl := fun e => HGH.out (by rw [e]; rfl)
          have hne2 : gl ≠ wo.heap.size := fun e => hne e.symm
          have i1 : (q : Int) < (bn : Int) := by omega
          have i2 : (0 : Int) ≤ (q : Int) := by omega
          have hbd : Below base w wr.drew := ⟨hBwr.os, hBwr.tape, hBwr.output, hBwr.size, hBwr.block⟩
          have HMc := Lib.hid (HM.out _ hbd)
          have c0d : wr.drew.cell? ⟨wo.heap.size, 0, none⟩ = some (.slice (some ⟨gl, 0, none⟩) bn bc) := c0
          have c2d : wr.drew.cell? ⟨wo.heap.size, 2, none⟩ = some (.int .i64 (bnum : Int)) := c2
          have c02 := And.intro c0d c2d
          have HC0 := Lib.hid c02
          have hbl : wo.heap.size < wr.drew.heap.size := World.block_lt_of_cell? wr.drew _ c0d
          clear c0d c2d
          go_wp2
          go_region_held3 (fun w' => w'.cell? ⟨wo.heap.size, 0, none⟩ = some (.slice (some ⟨gl, 0, none⟩) bn bc) ∧ w'.cell? ⟨wo.heap.size, 2, none⟩ = some (.int .i64 (bnum : Int))) (first | exact c02 | exact c12 | exact c22)
            (first | (go_at_call 68; refine HMc.out.mono ?_; rintro e w1 ⟨rfl, hb1⟩; have c12 := And.intro ((hb1.cell hbl).trans c02.1) ((hb1.cell hbl).trans c02.2); have HO1 := Lib.hid (own_below (HOQ.out.drew) hb1); obtain ⟨v0, d0⟩ := rowT HO1.out hqn; have f0 := HO1.out.frozenAt (q); have c22 := And.intro ((stT_cell w1 gl (q) s hne 0).trans c12.1) ((stT_cell w1 gl (q) s hne 2).trans c12.2)) | fail)
          have hst := storedT HO1.out (HMK.out : textK.mark bnum = _) hxl hqn
          have hgw1 : w0.grownBy w1 (Value.slice (some ⟨gl, 0, none⟩) bn bc).ownBlock := HGQ.out.trans ⟨hb1.os, hb1.tape, hb1.output, hb1.size, fun j hj _ => hb1.block j hj⟩
          have R : Hid (QRel textK w0 base (some ⟨gl, 0, none⟩) bn bc xs bnum (.int .i64 ((q : Int) + 1)) (stTo w1 gl (q) s)) :=
            ⟨q + 1, hqn, by simp, hst.1, hgw1.trans hst.2⟩
          clear hst hgw1 c02 c12 c22 hb1 HO1 d0 f0 c0 c2
          go_wp2
          go_roundw
          case rel => exact R.out
          case measure => simp [intOf]; omega
        · obtain rfl : q = bn := by omega
          have hxl : xs.length = q * 1 := HXS.out.1
          have hfin := HOQ.out
          rw [List.drop_eq_nil_of_le (by rw [hxl]; exact Nat.le_refl _), List.append_nil] at hfin
          have hrow : ∀ j, (Value.slice bA q bc).ownBlock = some j → base ≤ j ∧ j < wo.heap.size := HXS.out.lt
          have hgw : wo.grownBy wr (Value.slice bA q bc).ownBlock := by
            refine ⟨HGQ.out.os.trans HG0.out.os, HGQ.out.tape.trans HG0.out.tape, HGQ.out.output.trans HG0.out.output, Nat.le_trans HG0.out.size HGQ.out.size, fun j hj hne => ?_⟩
            rw [HGQ.out.block j (Nat.lt_of_lt_of_le hj HG0.out.size) hne]
            exact HG0.out.block j hj (by simp)
          have R : Hid (FRel textK w base g cs (.slice (some ⟨gv, 0, none⟩) ls.length cv) ls (.int .i64 ((m : Int) + 1)) wr) := by
            have hgb : some g ≠ (Value.slice bA q bc).ownBlock := HB.out.not_own HXS.out (by decide)
            have hov : (Value.slice (some ⟨gv, 0, none⟩) ls.length cv).ownBlock = none ∨ (Value.slice (some ⟨gv, 0, none⟩) ls.length cv).ownBlock ≠ (Value.slice bA q bc).ownBlock :=
              own_neB HOWN.out HXS.out (by decide)
            refine ⟨m + 1, hlt, by simp, HB.out.grown hgw hgb, HOWN.out.kept hgw hov, ?_, wrote_grown HBEL.out hgw (fun j hj => .inl ⟨_, List.mem_of_getElem? HBM.out, hj⟩)⟩
            intro i b hi
            by_cases him : i = m
            · subst him
              rw [HBM.out] at hi
              injection hi with hi
              subst hi
              exact ⟨_, hfin, fun _ => rfl⟩
            · obtain ⟨ys, hys, hys2⟩ := HF.out i b hi
              refine ⟨ys, hys.kept hgw (HD.out i m b _ him hi HBM.out), fun h => hys2 (by omega)⟩
          clear hfin hgw hrow hxl
          go_wp2
          go_roundw
          case rel => exact R.out
          case measure => simp [intOf]; omega
    · obtain rfl : m = ls.length := by omega
      have R : Hid (FRel textK w base g cs (.slice Av ls.length cv) ls (.int .i64 (ls.length : Int)) wr) := ⟨ls.length, Nat.le_refl _, rfl, HB.out, HOWN.out, HF.out, HBEL.out⟩
      go_wp2
      go_end0
      exact ⟨rfl, R.out⟩
end Go.Proofs.YtjnmckchicmmgaaGreatDoor
