/-
  The laws' Book: entries: fillEntry.
  The laws' Book: entries: growEntry.
  The laws' Book: entries: lookEntry.
-/
import Derived.Test.YtbbimfbkllellaaGreatDoorBookQ
import Derived.Deep.RegionHeld3
import Derived.ArgAppend
namespace Go.Proofs.YtbbimfbkllellaaGreatDoor
open Go.RowKit
set_option linter.unusedVariables false
set_option maxRecDepth 100000

/-- four cells of a row are there -/
theorem row4 {w : World} {base n c g q : Nat} {xs : List Value} (h : w.ownsRow base 59 4 (.slice (some ⟨g, 0, none⟩) n c) n xs) (hq : q < n) :
    (∃ v, w.cell? ⟨g, q * 4, none⟩ = some v) ∧ (∃ v, w.cell? ⟨g, q * 4 + 1, none⟩ = some v) ∧ (∃ v, w.cell? ⟨g, q * 4 + 2, none⟩ = some v) ∧ (∃ v, w.cell? ⟨g, q * 4 + 3, none⟩ = some v) := by
  have hl := h.1
  refine ⟨?_, ?_, ?_, ?_⟩ <;> (rw [h.cellAt _ (by omega)]; exact ⟨_, List.getElem?_eq_getElem (by omega)⟩)
theorem set4 (P R : List Value) (u0 u1 u2 u3 : Value) (h : 4 ≤ R.length) : ((((P ++ R).set P.length u0).set (P.length + 1) u1).set (P.length + 2) u2).set (P.length + 3) u3 = P ++ [u0, u1, u2, u3] ++ R.drop 4 := by
  match R, h with
  | a :: b :: c :: d :: R, _ => simp [List.set_append_right]
/-- an entry of a key alone, stored in a row -/
abbrev st4o (w : World) (g o : Nat) (s : ByteArray) : World := (((w.setCell ⟨g, o, none⟩ (.string s)).setCell ⟨g, o + 1, none⟩ (.int .u64 0)).setCell ⟨g, o + 2, none⟩ (.bool false)).setCell ⟨g, o + 3, none⟩ (.string ⟨#[]⟩)
theorem st4_cell (w : World) (g o : Nat) (s : ByteArray) {b : Nat} (hb : b ≠ g) (i : Nat) : (st4o w g o s).cell? ⟨b, i, none⟩ = w.cell? ⟨b, i, none⟩ := by
  have h : ∀ (W : World) (k : Nat) (u : Value), (W.setCell ⟨g, k, none⟩ u).cell? ⟨b, i, none⟩ = W.cell? ⟨b, i, none⟩ := fun W k u => World.cell?_setCell_other W _ _ _ (fun e => hb (congrArg Addr.block e).symm)
  unfold st4o
  rw [h, h, h, h]
theorem four_stored {w : World} {base n c g q : Nat} {m xs : List Value} {s : ByteArray} (h : w.ownsRow base 59 4 (.slice (some ⟨g, 0, none⟩) n c) n (rep m q ++ xs.drop (q * 4))) (hm : m = [.string s, .int .u64 0, .bool false, .string ⟨#[]⟩]) (hl : xs.length = n * 4) (hq : q < n) :
    (st4o w g (q * 4) s).ownsRow base 59 4 (.slice (some ⟨g, 0, none⟩) n c) n (rep m (q + 1) ++ xs.drop ((q + 1) * 4)) ∧ w.grownBy (st4o w g (q * 4) s) (some g) := by
  have h1 := h.stored (q * 4) (.string s)
  have h2 := h1.1.stored (q * 4 + 1) (.int .u64 0)
  have h3 := h2.1.stored (q * 4 + 2) (.bool false)
  have h4 := h3.1.stored (q * 4 + 3) (.string ⟨#[]⟩)
  have hml : m.length = 4 := by rw [hm]; rfl
  have hp : (rep m q).length = q * 4 := by rw [rep_len, hml]
  have e := set4 (rep m q) (xs.drop (q * 4)) (.string s) (.int .u64 0) (.bool false) (.string ⟨#[]⟩) (by rw [List.length_drop]; omega)
  rw [hp, List.drop_drop] at e
  refine ⟨?_, h1.2.trans (h2.2.trans (h3.2.trans h4.2))⟩
  have h5 := h4.1
  rw [e, ← hm, ← rep_succ, show q * 4 + 4 = (q + 1) * 4 from by omega] at h5
  exact h5

set_option maxRecDepth 100000 in
set_option maxHeartbeats 4000000 in
theorem fillEntry_any (g base : Nat) (cs : Array Value) (vb : Value) (ls : List BL) (w : World) (hB : BkIs w g cs) (hcs1 : cs[8]? = some vb) (hown : w.ownsRow base 90 3 vb ls.length (held0 ls)) (hF : Filled entryK w base ls 0) (hD : Dis ls) (hbase : base ≤ w.heap.size) (hl : ls.length ≤ 1000)
    (hb : ∀ b ∈ ls, b.n ≤ 1099511627776 ∧ b.num ≤ 1000000) (ht : TabB base w) :
    Calls Tryz.prog 34 #[.pointer (some ⟨g, 0, none⟩)] w fun e w' => e = .returned (.tuple #[]) ∧ FRel entryK w base g cs vb ls (.int .i64 (ls.length : Int)) w' := by
  have H0 : Hid (FRel entryK w base g cs vb ls (.int .i64 0) w) := ⟨0, Nat.zero_le _, rfl, hB, hown, hF, Wrote.refl _ _⟩
  have HD := Lib.hid hD; have HBD := Lib.hid hb; have HT := Lib.hid ht; have HC1 := Lib.hid hcs1
  have HLO : Hid (∀ i, Bks ls i → base ≤ i ∧ i < w.heap.size) := fun i ⟨b, hbm, hbi⟩ => by
    obtain ⟨j, hj⟩ := List.getElem?_of_mem hbm
    obtain ⟨xs, hx, _⟩ := hF j b hj
    exact hx.lt i hbi
  clear hB hown hF hD hb ht hcs1
  go_enter Tryz.func34, Tryz.ntmps34
  go_wp2
  go_loopw [2] (fun i wr => FRel entryK w base g cs vb ls i wr) (fun i _ => ls.length - (intOf i).toNat)
  case atStart => exact H0.out
  case round =>
    clear H0
    obtain ⟨m, hm, rfl, hB, hown, hF, hbel⟩ := hrel
    have hc1 : wr.cell? ⟨g, 8, none⟩ = some vb := (hB.cell 8).trans HC1.out
    obtain ⟨Av, cv, rfl, hncv, hcmv, _⟩ := own_shape hown
    have HB := Lib.hid hB; have HOWN := Lib.hid hown; have HF := Lib.hid hF; have HBEL := Lib.hid hbel
    clear hB hown hF hbel
    by_cases hlt : m < ls.length
    · obtain ⟨⟨bA, bn, bc, bnum⟩, hbm⟩ : ∃ b, ls[m]? = some b := ⟨ls[m], List.getElem?_eq_getElem hlt⟩
      have HBM := Lib.hid hbm
      obtain ⟨gv, hgv⟩ : ∃ gv, Av = some ⟨gv, 0, none⟩ := by
        rcases HOWN.out.2 with ⟨_, h0⟩ | ⟨g', cap, cur, hv, _⟩
        · omega
        · injection hv with h1 _ _; exact ⟨g', h1⟩
      subst hgv
      have k0 : wr.cell? ⟨gv, m * 3, none⟩ = some (.slice bA bn bc) := by rw [HOWN.out.cellAt (m * 3) (by omega), Nat.mul_comm]; exact held0_at ls m 0 _ hbm (by decide)
      have k1 : wr.cell? ⟨gv, m * 3 + 1, none⟩ = some (.slice none 0 0) := by rw [HOWN.out.cellAt (m * 3 + 1) (by omega), Nat.mul_comm]; exact held0_at ls m 1 _ hbm (by decide)
      have k2 : wr.cell? ⟨gv, m * 3 + 2, none⟩ = some (.int .i64 (bnum : Int)) := by rw [HOWN.out.cellAt (m * 3 + 2) (by omega), Nat.mul_comm]; exact held0_at ls m 2 _ hbm (by decide)
      have hcmv2 : cv ≤ 9223372036854775807 := hcmv
      have hbd := HBD.out _ (List.mem_of_getElem? hbm)
      have hbn : bn ≤ 1099511627776 := hbd.1
      have hbnum : bnum ≤ 1000000 := hbd.2
      obtain ⟨xs, hxs, _⟩ := HF.out m _ hbm
      have HXS := Lib.hid hxs
      clear hbm hcmv hbd hxs
      obtain ⟨wo, rfl⟩ : ∃ wo : World, wo = wr := ⟨_, rfl⟩
      obtain ⟨s, hs⟩ : ∃ s, wd bnum = s := ⟨_, rfl⟩
      have hmk : (bkE bnum).cs = [.string s, .int .u64 0, .bool false, .string ⟨#[]⟩] := by rw [← hs]; rfl
      have HMK := Lib.hid hmk
      have HLW := Lib.hid (HBEL.out.below (fun i hi => (HLO.out i hi).1) hbase)
      have HM : Hid (∀ W, Below base w W → Calls Tryz.prog 92 #[.int .i64 (bnum : Int)] W fun e w' => e = .returned (.agg #[.string s, .int .u64 0, .bool false, .string ⟨#[]⟩]) ∧ Below W.heap.size W w') := fun W hW => by
        have := markEntry_any bnum W hbnum fun W' hW' => HT.out W' (hW.trans (hW'.mono (Nat.le_trans hbase hW.size)))
        rw [← hs]
        exact this
      clear hs hmk
      go_wp2
      have hbox : (wo.alloc (.cells #[.slice bA bn bc, .slice none 0 0, .int .i64 (bnum : Int)] 90)).heap[wo.heap.size]? = some (.cells #[.slice bA bn bc, .slice none 0 0, .int .i64 (bnum : Int)] 90 (0, 0)) := heap_alloc_new wo _
      have hxs0 := HXS.out.alloc (.cells #[.slice bA bn bc, .slice none 0 0, .int .i64 (bnum : Int)] 90)
      have hg0 : wo.grownBy (wo.alloc (.cells #[.slice bA bn bc, .slice none 0 0, .int .i64 (bnum : Int)] 90)) none := World.grownBy_alloc wo _ none
      obtain ⟨w0, hw0⟩ : ∃ w0, wo.alloc (.cells #[.slice bA bn bc, .slice none 0 0, .int .i64 (bnum : Int)] 90) = w0 := ⟨_, rfl⟩
      rw [hw0] at hbox hxs0 hg0 ⊢
      have HBOX := Lib.hid hbox; have HG0 := Lib.hid hg0
      have hgh : some wo.heap.size ≠ (Value.slice bA bn bc).ownBlock := by
        intro he
        have := (HXS.out.lt wo.heap.size he.symm).2
        omega
      have HGH := Lib.hid hgh
      have Q0 : Hid (QRel entryK w0 base bA bn bc xs bnum (.int .i64 0) w0) := ⟨0, Nat.zero_le _, rfl, hxs0, World.grownBy.refl _ _⟩
      have HB0 : Hid (Below base w w0) := HLW.out.trans ((grown_of_below (Below.refl wo.heap.size wo) none |>.trans hg0 |> fun h => (⟨h.os, h.tape, h.output, h.size, fun j hj => h.block j hj (by simp)⟩ : Below wo.heap.size wo w0)).mono (Nat.le_trans hbase HLW.out.size))
      clear hw0 hbox hxs0 hg0 hgh k0 k1 k2
      go_loopw [4] (fun i w2 => QRel entryK w0 base bA bn bc xs bnum i w2) (fun i _ => bn - (intOf i).toNat)
      case atStart => exact Q0.out
      case round =>
        clear Q0
        obtain ⟨q, hq, rfl, hownq, hgq⟩ := hrel
        have hboxq := (hgq.block wo.heap.size (by have := (Array.getElem?_eq_some_iff.1 HBOX.out).1; exact this) HGH.out).trans HBOX.out
        have c0 : wr.cell? ⟨wo.heap.size, 0, none⟩ = some (.slice bA bn bc) := cell_of_row wr wo.heap.size 0 _ _ (0, 0) hboxq
        have c2 : wr.cell? ⟨wo.heap.size, 2, none⟩ = some (.int .i64 (bnum : Int)) := cell_of_row wr wo.heap.size 2 _ _ (0, 0) hboxq
        have HOQ := Lib.hid hownq; have HGQ := Lib.hid hgq
        clear hboxq hownq hgq
        by_cases hqn : q < bn
        · obtain ⟨gl, hgl⟩ : ∃ gl, bA = some ⟨gl, 0, none⟩ := by
            rcases HOQ.out.2 with ⟨_, h0⟩ | ⟨g', cap, cur, hv, _⟩
            · omega
            · injection hv with h1 _ _; exact ⟨g', h1⟩
          subst hgl
          have hxl : xs.length = bn * 4 := HXS.out.1
          have hBwr : Below base w wr := by
            refine HB0.out.grown HGQ.out (Nat.le_trans hbase HB0.out.size) fun j hj => (HXS.out.lt j hj).1
          have hne : wo.heap.size ≠ gl := fun e => HGH.out (by rw [e]; rfl)
          have hne2 : gl ≠ wo.heap.size := fun e => hne e.symm
          have i1 : (q : Int) < (bn : Int) := by omega
          have i2 : (0 : Int) ≤ (q : Int) := by omega
          have hbd : Below base w wr.drew := ⟨hBwr.os, hBwr.tape, hBwr.output, hBwr.size, hBwr.block⟩
          have HMc := Lib.hid (HM.out _ hbd)
          have c0d : wr.drew.cell? ⟨wo.heap.size, 0, none⟩ = some (.slice (some ⟨gl, 0, none⟩) bn bc) := c0
          have c2d : wr.drew.cell? ⟨wo.heap.size, 2, none⟩ = some (.int .i64 (bnum : Int)) := c2
          have c02 := And.intro c0d c2d
          have HC0 := Lib.hid c02
          have hbl : wo.heap.size < wr.drew.heap.size := World.block_lt_of_cell? wr.drew _ c0d
          clear c0d c2d
          go_wp2
          go_region_held3 (fun w' => w'.cell? ⟨wo.heap.size, 0, none⟩ = some (.slice (some ⟨gl, 0, none⟩) bn bc) ∧ w'.cell? ⟨wo.heap.size, 2, none⟩ = some (.int .i64 (bnum : Int))) (first | exact c02 | exact c12 | exact c22)
            (first | (go_at_call 92; refine HMc.out.mono ?_; rintro e w1 ⟨rfl, hb1⟩; have c12 := And.intro ((hb1.cell hbl).trans c02.1) ((hb1.cell hbl).trans c02.2); have HO1 := Lib.hid (own_below (HOQ.out.drew) hb1); obtain ⟨⟨v0, d0⟩, ⟨v1, d1⟩, ⟨v2, d2⟩, ⟨v3, d3⟩⟩ := row4 HO1.out hqn; have f0 := HO1.out.frozenAt (q * 4); have f1 := HO1.out.frozenAt (q * 4 + 1); have f2 := HO1.out.frozenAt (q * 4 + 2); have f3 := HO1.out.frozenAt (q * 4 + 3); have c22 := And.intro ((st4_cell w1 gl (q * 4) s hne 0).trans c12.1) ((st4_cell w1 gl (q * 4) s hne 2).trans c12.2)) | fail)
          have hst := four_stored HO1.out (HMK.out : entryK.mark bnum = _) hxl hqn
          have hgw1 : w0.grownBy w1 (Value.slice (some ⟨gl, 0, none⟩) bn bc).ownBlock := HGQ.out.trans ⟨hb1.os, hb1.tape, hb1.output, hb1.size, fun j hj _ => hb1.block j hj⟩
          have R : Hid (QRel entryK w0 base (some ⟨gl, 0, none⟩) bn bc xs bnum (.int .i64 ((q : Int) + 1)) (st4o w1 gl (q * 4) s)) :=
            ⟨q + 1, hqn, by simp, hst.1, hgw1.trans hst.2⟩
          clear hst hgw1 c02 c12 c22 hb1 HO1 d0 d1 d2 d3 f0 f1 f2 f3 c0 c2
          go_wp2
          go_roundw
          case rel => exact R.out
          case measure => simp [intOf]; omega
        · obtain rfl : q = bn := by omega
          have hxl : xs.length = q * 4 := HXS.out.1
          have hfin := HOQ.out
          rw [List.drop_eq_nil_of_le (by rw [hxl]; exact Nat.le_refl _), List.append_nil] at hfin
          have hrow : ∀ j, (Value.slice bA q bc).ownBlock = some j → base ≤ j ∧ j < wo.heap.size := HXS.out.lt
          have hgw : wo.grownBy wr (Value.slice bA q bc).ownBlock := by
            refine ⟨HGQ.out.os.trans HG0.out.os, HGQ.out.tape.trans HG0.out.tape, HGQ.out.output.trans HG0.out.output, Nat.le_trans HG0.out.size HGQ.out.size, fun j hj hne => ?_⟩
            rw [HGQ.out.block j (Nat.lt_of_lt_of_le hj HG0.out.size) hne]
            exact HG0.out.block j hj (by simp)
          have R : Hid (FRel entryK w base g cs (.slice (some ⟨gv, 0, none⟩) ls.length cv) ls (.int .i64 ((m : Int) + 1)) wr) := by
            have hgb : some g ≠ (Value.slice bA q bc).ownBlock := HB.out.not_own HXS.out (by decide)
            have hov : (Value.slice (some ⟨gv, 0, none⟩) ls.length cv).ownBlock = none ∨ (Value.slice (some ⟨gv, 0, none⟩) ls.length cv).ownBlock ≠ (Value.slice bA q bc).ownBlock :=
              own_neB HOWN.out HXS.out (by decide)
            refine ⟨m + 1, hlt, by simp, HB.out.grown hgw hgb, HOWN.out.kept hgw hov, ?_, wrote_grown HBEL.out hgw (fun j hj => .inl ⟨_, List.mem_of_getElem? HBM.out, hj⟩)⟩
            intro i b hi
            by_cases him : i = m
            · subst him
              rw [HBM.out] at hi
              injection hi with hi
              subst hi
              exact ⟨_, hfin, fun _ => rfl⟩
            · obtain ⟨ys, hys, hys2⟩ := HF.out i b hi
              refine ⟨ys, hys.kept hgw (HD.out i m b _ him hi HBM.out), fun h => hys2 (by omega)⟩
          clear hfin hgw hrow hxl
          go_wp2
          go_roundw
          case rel => exact R.out
          case measure => simp [intOf]; omega
    · obtain rfl : m = ls.length := by omega
      have R : Hid (FRel entryK w base g cs (.slice Av ls.length cv) ls (.int .i64 (ls.length : Int)) wr) := ⟨ls.length, Nat.le_refl _, rfl, HB.out, HOWN.out, HF.out, HBEL.out⟩
      go_wp2
      go_end0
      exact ⟨rfl, R.out⟩
end Go.Proofs.YtbbimfbkllellaaGreatDoor

namespace Go.Proofs.YtbbimfbkllellaaGreatDoor
open Go.RowKit
set_option linter.unusedVariables false
set_option maxRecDepth 100000

theorem entry_infoK : (Tryz.prog.info? 59).map (fun i => (i.zero, i.size, i.bytes)) = some (some (.agg #[.string ByteArray.empty, .int .u64 0, .bool false, .string ByteArray.empty]), 4, 48) := by kernel_rfl
theorem four_one (s : ByteArray) : ∀ u ∈ [Value.string s, .int .u64 0, .bool false, .string ⟨#[]⟩], u.oneCell' = true := by
  intro u hu
  simp only [List.mem_cons, List.not_mem_nil, or_false] at hu
  rcases hu with rfl | rfl | rfl | rfl <;> rfl
theorem lit4 (w : World) (a b c d : Value) (t : TypeId) (j : Nat) (u : Value) (hu : [a, b, c, d][j]? = some u) : (w.alloc (.cells #[a, b, c, d] t)).cell? ((⟨w.heap.size, 0, none⟩ : Addr).add j) = some u := by
  rw [add_lit, Nat.zero_add, cell_of_row _ w.heap.size j #[a, b, c, d] t (0, 0) (heap_alloc_new w _), ← hu]
  simp

set_option maxRecDepth 100000 in
set_option maxHeartbeats 4000000 in
theorem growEntry_any (g base : Nat) (cs : Array Value) (vb : Value) (ls : List BL) (gs0 : List (BL × Value)) (w : World) (hB : BkIs w g cs) (hcs1 : cs[8]? = some vb) (hgs0 : gs0.map Prod.fst = ls) (hown : w.ownsRow base 90 3 vb ls.length (heldG gs0)) (hG : Grw entryK w base gs0 0) (hD : DisG w gs0) (hbase : base ≤ w.heap.size) (hl : ls.length ≤ 1000)
    (hb : ∀ b ∈ ls, b.n ≤ 1099511627776 ∧ b.num ≤ 1000000) (ht : TabB base w) :
    Calls Tryz.prog 47 #[.pointer (some ⟨g, 0, none⟩)] w fun e w' => e = .returned (.tuple #[]) ∧ GRelB entryK w base g cs vb ls (.int .i64 (ls.length : Int)) w' := by
  obtain ⟨i0, hi, hz0, hz1, hz2⟩ := info_parts entry_infoK
  have H0 : Hid (GRelB entryK w base g cs vb ls (.int .i64 0) w) := ⟨0, gs0, Nat.zero_le _, rfl, hgs0, hB, hown, hG, hD, Wrote.refl _ _⟩
  have HBD := Lib.hid hb; have HT := Lib.hid ht; have HC1 := Lib.hid hcs1
  have HLO : Hid (∀ i, (Bks ls i ∨ vb.ownBlock = some i) → base ≤ i) := fun i hi => by
    rcases hi with ⟨b, hbm, hbi⟩ | hi
    · rw [← hgs0] at hbm
      obtain ⟨⟨b', lv⟩, hp, rfl⟩ := List.mem_map.1 hbm
      obtain ⟨j, hj⟩ := List.getElem?_of_mem hp
      exact (World.ownsRow.lt (hG j _ _ hj).1 i hbi).1
    · exact (hown.lt i hi).1
  clear hB hown hG hD hb hgs0 ht hcs1
  go_enter Tryz.func47, Tryz.ntmps47
  go_wp2
  go_loopw [2] (fun i wr => GRelB entryK w base g cs vb ls i wr) (fun i _ => ls.length - (intOf i).toNat)
  case atStart => exact H0.out
  case round =>
    clear H0
    obtain ⟨m, gs, hm, rfl, hgs, hB, hown, hG, hD, hbel⟩ := hrel
    have hc1 : wr.cell? ⟨g, 8, none⟩ = some vb := (hB.cell 8).trans HC1.out
    obtain ⟨Av, cv, rfl, hncv, hcmv, _⟩ := own_shape hown
    have HGS := Lib.hid hgs; have HB := Lib.hid hB; have HOWN := Lib.hid hown; have HG := Lib.hid hG; have HD := Lib.hid hD; have HBEL := Lib.hid hbel
    clear hgs hB hown hG hD hbel
    by_cases hlt : m < ls.length
    · have hgl : gs.length = ls.length := by rw [← HGS.out]; simp
      obtain ⟨⟨⟨bA, bn, bc, bnum⟩, lv⟩, hbm⟩ : ∃ p, gs[m]? = some p := ⟨gs[m]'(by omega), List.getElem?_eq_getElem (by omega)⟩
      obtain ⟨hMk, _, hnil⟩ := HG.out m _ _ hbm
      have hlv := hnil (Nat.le_refl _)
      subst hlv
      have HBM := Lib.hid hbm
      obtain ⟨gv, hgv⟩ : ∃ gv, Av = some ⟨gv, 0, none⟩ := by
        rcases HOWN.out.2 with ⟨_, h0⟩ | ⟨g', cap, cur, hv, _⟩
        · omega
        · injection hv with h1 _ _; exact ⟨g', h1⟩
      subst hgv
      have k0 : wr.cell? ⟨gv, m * 3, none⟩ = some (.slice bA bn bc) := by rw [HOWN.out.cellAt (m * 3) (by omega), Nat.mul_comm]; exact heldG_at gs m 0 _ hbm (by decide)
      have k1 : wr.cell? ⟨gv, m * 3 + 1, none⟩ = some (.slice none 0 0) := by rw [HOWN.out.cellAt (m * 3 + 1) (by omega), Nat.mul_comm]; exact heldG_at gs m 1 _ hbm (by decide)
      have k2 : wr.cell? ⟨gv, m * 3 + 2, none⟩ = some (.int .i64 (bnum : Int)) := by rw [HOWN.out.cellAt (m * 3 + 2) (by omega), Nat.mul_comm]; exact heldG_at gs m 2 _ hbm (by decide)
      have hcmv2 : cv ≤ 9223372036854775807 := hcmv
      have hmem : (⟨bA, bn, bc, bnum⟩ : BL) ∈ ls := by rw [← HGS.out]; exact List.mem_map_of_mem (f := Prod.fst) (List.mem_of_getElem? hbm)
      have hbd := HBD.out _ hmem
      have hbn : bn ≤ 1099511627776 := hbd.1
      have hbnum : bnum ≤ 1000000 := hbd.2
      have HMARK := Lib.hid hMk
      clear hbm hcmv hbd hMk hnil hmem hgl
      obtain ⟨wo, rfl⟩ : ∃ wo : World, wo = wr := ⟨_, rfl⟩
      obtain ⟨s, hs⟩ : ∃ s, wd bnum = s := ⟨_, rfl⟩
      have hmk : (bkE bnum).cs = [.string s, .int .u64 0, .bool false, .string ⟨#[]⟩] := by rw [← hs]; rfl
      have HMK := Lib.hid hmk
      have HLW := Lib.hid (HBEL.out.below HLO.out hbase)
      have HM : Hid (∀ W, Below base w W → Calls Tryz.prog 92 #[.int .i64 (bnum : Int)] W fun e w' => e = .returned (.agg #[.string s, .int .u64 0, .bool false, .string ⟨#[]⟩]) ∧ Below W.heap.size W w') := fun W hW => by
        have := markEntry_any bnum W hbnum fun W' hW' => HT.out W' (hW.trans (hW'.mono (Nat.le_trans hbase hW.size)))
        rw [← hs]
        exact this
      clear hs hmk
      have hbox : (wo.alloc (.cells #[.slice bA bn bc, .slice none 0 0, .int .i64 (bnum : Int)] 90)).heap[wo.heap.size]? = some (.cells #[.slice bA bn bc, .slice none 0 0, .int .i64 (bnum : Int)] 90 (0, 0)) := heap_alloc_new wo _
      have hMk0 : Marked entryK (wo.alloc (.cells #[.slice bA bn bc, .slice none 0 0, .int .i64 (bnum : Int)] 90)) base ⟨bA, bn, bc, bnum⟩ := World.ownsRow.alloc HMARK.out _
      have hg0 : wo.grownBy (wo.alloc (.cells #[.slice bA bn bc, .slice none 0 0, .int .i64 (bnum : Int)] 90)) none := World.grownBy_alloc wo _ none
      obtain ⟨w0, hw0⟩ : ∃ w0, w0 = wo.alloc (.cells #[.slice bA bn bc, .slice none 0 0, .int .i64 (bnum : Int)] 90) := ⟨_, rfl⟩
      rw [← hw0] at hbox hMk0 hg0
      have HBOX := Lib.hid hbox; have HG0 := Lib.hid hg0; have HMK0 := Lib.hid hMk0
      have HW0 := Lib.hid hw0
      have hgh : some wo.heap.size ≠ (Value.slice bA bn bc).ownBlock := by
        intro he
        have := (World.ownsRow.lt HMARK.out wo.heap.size he.symm).2
        omega
      have HGH := Lib.hid hgh
      have HB0 : Hid (Below base w w0) := HLW.out.trans ((⟨HG0.out.os, HG0.out.tape, HG0.out.output, HG0.out.size, fun j hj => HG0.out.block j hj (by simp)⟩ : Below wo.heap.size wo w0).mono (Nat.le_trans hbase HLW.out.size))
      have Q0 : Hid (GQ entryK w0 base ⟨bA, bn, bc, bnum⟩ (.slice bA bn bc) (.int .i64 0) w0) := ⟨0, bA, bc, Nat.zero_le _, rfl, rfl, hMk0, hMk0, World.grownBy.refl _ _, .inl ⟨rfl, rfl⟩⟩
      clear hbox hMk0 hg0 hgh hw0
      go_wp2
      rw [← HW0.out]
      go_loopw [4, 5] (fun v i w2 => GQ entryK w0 base ⟨bA, bn, bc, bnum⟩ v i w2) (fun _ i _ => 40 - (intOf i).toNat)
      case atStart => exact Q0.out
      case round =>
        clear Q0 k0 k1 k2 hc1
        obtain ⟨q, A, c, hq, rfl, rfl, hownq, hMq, hgq, hFq⟩ := hrel
        have hownq' : wr.ownsRow base 59 4 (.slice A (bn + q) c) (bn + q) (rep (entryK.mark bnum) (bn + q)) := hownq
        have hboxq := (hgq.block wo.heap.size (by have := (Array.getElem?_eq_some_iff.1 HBOX.out).1; exact this) HGH.out).trans HBOX.out
        have c2 : wr.cell? ⟨wo.heap.size, 2, none⟩ = some (.int .i64 (bnum : Int)) := cell_of_row wr wo.heap.size 2 _ _ (0, 0) hboxq
        have hbs : base ≤ wr.heap.size := by
          have h1 := HBEL.out.size
          have h2 := HG0.out.size
          have h3 := hgq.size
          omega
        have HOQ := Lib.hid hownq'; have HMQ := Lib.hid hMq; have HGQ := Lib.hid hgq; have HFQ := Lib.hid hFq
        have hltb : Hid (∀ j, (BL.v ⟨bA, bn, bc, bnum⟩).ownBlock = some j → j < w0.heap.size) := fun j hj => (World.ownsRow.lt HMK0.out j hj).2
        have HBW : Hid (Below base w wr) := HB0.out.grown hgq (Nat.le_trans hbase HB0.out.size) fun j hj => (World.ownsRow.lt HMARK.out j hj).1
        clear hownq hownq' hMq hgq hFq hboxq
        by_cases hqn : q < 40
        · by_cases hfit : bn + q + 1 ≤ c
          · obtain ⟨gl, hgl⟩ : ∃ gl, A = some ⟨gl, 0, none⟩ := by
              rcases HOQ.out.2 with ⟨h0, _⟩ | ⟨g', cap, cur, hv, _⟩
              · injection h0 with _ _ h2; omega
              · injection hv with h1 _ _; exact ⟨g', h1⟩
            subst hgl
            go_wp2_with (first
              | (go_at_call 92; refine (HM.out _ HBW.out).mono ?_; rintro e w1 ⟨rfl, hb1⟩; have ho1 := (own_below HOQ.out hb1).alloc (.cells #[.string s, .int .u64 0, .bool false, .string ⟨#[]⟩] 59); have c2' := (hb1.cell (World.block_lt_of_cell? wr _ c2)).trans c2)
              | (at_builtin; refine wpList_append_fits _ rfl (.tmp 28) (.tmp 32) 27 rfl base 59 i0 4 Tryz.underlying27 hi hz1 gl (bn + q) c _ rfl ho1 ⟨w1.heap.size, 0, none⟩ 1 1 [.string s, .int .u64 0, .bool false, .string ⟨#[]⟩] rfl rfl ?c1 ?c2 hfit ?_))
            case c1 => exact fun j u hu => lit4 w1 _ _ _ _ _ j u hu
            case c2 => exact four_one s
            intro w3 hown3 hg3
            rw [← HMK.out] at hown3
            have R := Lib.hid (GQ.fits (K := entryK) (b := ⟨bA, bn, bc, bnum⟩) hqn hltb.out HMQ.out HGQ.out HFQ.out (ga hb1 _) hown3 hg3)
            clear hown3 hg3 ho1 c2 hb1 c2'
            go_wp2
            go_roundw
            case rel => exact R.out
            case measure => simp [intOf]; omega
          · have hcn : c < bn + q + 1 := by omega
            have hnone : A = none → bn + q = 0 ∧ c = 0 := by
              intro hA
              rcases HOQ.out.2 with ⟨h0, h1⟩ | ⟨g', cap, cur, hv, _⟩
              · injection h0 with _ _ h2; exact ⟨h1, h2⟩
              · injection hv with h1 _ _; rw [hA] at h1; cases h1
            have HNONE := Lib.hid hnone
            clear hnone
            go_wp2_with (first
              | (go_at_call 92; refine (HM.out _ HBW.out).mono ?_; rintro e w1 ⟨rfl, hb1⟩; have c2' := (hb1.cell (World.block_lt_of_cell? wr _ c2)).trans c2)
              | (at_builtin; refine wpList_append_grows _ rfl (.tmp 28) (.tmp 32) 27 rfl 59 i0 _ 4 48 Tryz.underlying27 hi hz0 hz1 hz2 rfl (by decide) A (bn + q) c (rep (entryK.mark bnum) (bn + q)) rfl HNONE.out (HOQ.out.1) (cells_at (own_below HOQ.out hb1)) ⟨w1.heap.size, 0, none⟩ 1 1 [.string s, .int .u64 0, .bool false, .string ⟨#[]⟩] rfl rfl ?d1 ?d2 hcn (by unfold maxLen; omega) (by omega) ?_))
            case d1 => exact fun j u hu => lit4 w1 _ _ _ _ _ j u hu
            case d2 => exact four_one s
            intro v3 w3 hown3 hg3
            rw [← HMK.out] at hown3
            have hown4 : w3.ownsRow (w1.alloc (.cells #[.string s, .int .u64 0, .bool false, .string ⟨#[]⟩] 59)).heap.size 59 4 v3 (bn + q + 1) (rep (entryK.mark bnum) (bn + q) ++ entryK.mark bnum) := by rw [World.size_alloc]; exact hown3
            have hb1s := hb1.size
            have R := Lib.hid (GQ.moves (K := entryK) (b := ⟨bA, bn, bc, bnum⟩) hqn (by simp; omega) HMQ.out HGQ.out (ga hb1 _) hown4 hg3)
            clear hown4
            clear hown3 hg3 c2 hb1 c2'
            go_wp2
            go_roundw
            case rel => exact R.out
            case measure => simp [intOf]; omega
        · obtain rfl : q = 40 := by omega
          have hgw : wo.grownBy wr (Value.slice bA bn bc).ownBlock := by
            refine ⟨HGQ.out.os.trans HG0.out.os, HGQ.out.tape.trans HG0.out.tape, HGQ.out.output.trans HG0.out.output, Nat.le_trans HG0.out.size HGQ.out.size, fun j hj hne => ?_⟩
            rw [HGQ.out.block j (Nat.lt_of_lt_of_le hj HG0.out.size) hne]
            exact HG0.out.block j hj (by simp)
          have hBw : BkIs wr g cs := HB.out.grown hgw (HB.out.not_own HMARK.out (by decide))
          have hOw := HOWN.out.kept hgw (own_neB HOWN.out HMARK.out (by decide))
          have hFw : A = bA ∧ c = bc ∨ ∀ j, (Value.slice A (bn + 40) c).ownBlock = some j → wo.heap.size ≤ j := by
            rcases HFQ.out with h | h
            · exact .inl h
            · exact .inr fun j hj => Nat.le_trans HG0.out.size (h j hj)
          have hst := grow_step (K := entryK) (b := ⟨bA, bn, bc, bnum⟩) (Nat.le_trans hbase HBEL.out.size) HG.out HD.out HBM.out HOQ.out HMQ.out hgw hFw hOw
          have hsto := hOw.stored (3 * m + 1) (.slice A (bn + 40) c)
          rw [heldG_set gs m _ _ _ HBM.out] at hsto
          have R : Hid (GRelB entryK w base g cs (.slice (some ⟨gv, 0, none⟩) ls.length cv) ls (.int .i64 ((m : Int) + 1)) (wr.setCell ⟨gv, m * 3 + 1, none⟩ (.slice A (bn + 40) c))) := by
            rw [Nat.mul_comm m 3]
            refine ⟨m + 1, gs.set m (⟨bA, bn, bc, bnum⟩, .slice A (bn + 40) c), hlt, by simp, ?_, hBw.grown hsto.2 (hBw.not_own hOw (by decide)), hsto.1, hst.1, hst.2, ?_⟩
            · rw [List.map_set, HGS.out]
              apply List.ext_getElem?
              intro i
              by_cases him : i = m
              · subst him
                rw [List.getElem?_set_self hlt, ← HGS.out, List.getElem?_map, HBM.out]; rfl
              · rw [List.getElem?_set_ne (fun e => him e.symm)]
            · exact (wrote_grown HBEL.out hgw (fun j hj => .inl (.inl ⟨(⟨bA, bn, bc, bnum⟩ : BL), by rw [← HGS.out]; exact List.mem_map_of_mem (f := Prod.fst) (List.mem_of_getElem? HBM.out), hj⟩))).set (p := ⟨gv, 3 * m + 1, none⟩) (.inr rfl) _
          have hcb : wr.cell? ⟨g, 8, none⟩ = some (.slice (some ⟨gv, 0, none⟩) ls.length cv) := (hBw.cell 8).trans HC1.out
          obtain ⟨uo, huo⟩ : ∃ u, wr.cell? ⟨gv, m * 3 + 1, none⟩ = some u := by
            rw [hOw.cellAt (m * 3 + 1) (by omega)]
            exact ⟨_, List.getElem?_eq_getElem (by have := hOw.1; omega)⟩
          have hfo := hOw.frozenAt (m * 3 + 1)
          clear hst hsto hgw hBw hOw hFw c2
          go_wp2
          go_roundw
          case rel => exact R.out
          case measure => simp [intOf]; omega
    · obtain rfl : m = ls.length := by omega
      have R : Hid (GRelB entryK w base g cs (.slice Av ls.length cv) ls (.int .i64 (ls.length : Int)) wr) := ⟨ls.length, gs, Nat.le_refl _, rfl, HGS.out, HB.out, HOWN.out, HG.out, HD.out, HBEL.out⟩
      go_wp2
      go_end0
      exact ⟨rfl, R.out⟩
end Go.Proofs.YtbbimfbkllellaaGreatDoor

namespace Go.Proofs.YtbbimfbkllellaaGreatDoor
open Go.RowKit
set_option linter.unusedVariables false
set_option maxRecDepth 100000

/-- the cells of element k of a row of marks -/
theorem rep_cells {w : World} {B n k : Nat} {A : Option Addr} {m : List Value} {a b c d : Value} (h : Lies w B 4 A n (rep m n)) (hm : m = [a, b, c, d]) (hk : k < n) :
    ∃ g o, A = some ⟨g, o, none⟩ ∧ g < B ∧ w.cell? ⟨g, o + k * 4, none⟩ = some a ∧ w.cell? ⟨g, o + k * 4 + 1, none⟩ = some b ∧ w.cell? ⟨g, o + k * 4 + 2, none⟩ = some c ∧ w.cell? ⟨g, o + k * 4 + 3, none⟩ = some d := by
  obtain ⟨g, o, hA, hg, hc⟩ := h.elem (by decide) hk
  have hl : m.length = 4 := by rw [hm]; rfl
  have hr : ∀ j, j < 4 → (rep m n)[k * 4 + j]? = m[j]? := fun j hj => by
    have := rep_get m hk (j := j) (by omega)
    rw [hl] at this; exact this
  refine ⟨g, o, hA, hg, ?_, ?_, ?_, ?_⟩
  · rw [show o + k * 4 = o + (k * 4 + 0) from rfl, hc 0 (by decide), hr 0 (by decide), hm]; rfl
  · rw [Nat.add_assoc, hc 1 (by decide), hr 1 (by decide), hm]; rfl
  · rw [Nat.add_assoc, hc 2 (by decide), hr 2 (by decide), hm]; rfl
  · rw [Nat.add_assoc, hc 3 (by decide), hr 3 (by decide), hm]; rfl
/-- what the region of a round reads -/
abbrev LookS (p gl o1 gb o2 : Nat) (bA lA : Option Addr) (bn bc lc bnum : Nat) (s : ByteArray) (w : World) : Prop :=
  w.cell? ⟨p, 0, none⟩ = some (.slice bA bn bc) ∧ w.cell? ⟨p, 1, none⟩ = some (.slice lA (bn + 40) lc) ∧ w.cell? ⟨p, 2, none⟩ = some (.int .i64 (bnum : Int)) ∧
  w.cell? ⟨gl, o1, none⟩ = some (.string s) ∧ w.cell? ⟨gl, o1 + 1, none⟩ = some (.int .u64 0) ∧ w.cell? ⟨gl, o1 + 2, none⟩ = some (.bool false) ∧ w.cell? ⟨gl, o1 + 3, none⟩ = some (.string ⟨#[]⟩) ∧
  w.cell? ⟨gb, o2, none⟩ = some (.string s) ∧ w.cell? ⟨gb, o2 + 1, none⟩ = some (.int .u64 0) ∧ w.cell? ⟨gb, o2 + 2, none⟩ = some (.bool false) ∧ w.cell? ⟨gb, o2 + 3, none⟩ = some (.string ⟨#[]⟩)
abbrev LookT (p gl o1 : Nat) (bA lA : Option Addr) (bn bc lc bnum : Nat) (s : ByteArray) (w : World) : Prop :=
  w.cell? ⟨p, 0, none⟩ = some (.slice bA bn bc) ∧ w.cell? ⟨p, 1, none⟩ = some (.slice lA (bn + 40) lc) ∧ w.cell? ⟨p, 2, none⟩ = some (.int .i64 (bnum : Int)) ∧
  w.cell? ⟨gl, o1, none⟩ = some (.string s) ∧ w.cell? ⟨gl, o1 + 1, none⟩ = some (.int .u64 0) ∧ w.cell? ⟨gl, o1 + 2, none⟩ = some (.bool false) ∧ w.cell? ⟨gl, o1 + 3, none⟩ = some (.string ⟨#[]⟩)
theorem LookT.below {p gl o1 : Nat} {bA lA : Option Addr} {bn bc lc bnum : Nat} {s : ByteArray} {w w' : World} (h : LookT p gl o1 bA lA bn bc lc bnum s w) (hb : Below w.heap.size w w') : LookT p gl o1 bA lA bn bc lc bnum s w' := by
  have t : ∀ {a : Addr} {v : Value}, w.cell? a = some v → w'.cell? a = some v := fun {a v} hv => (hb.cell (World.block_lt_of_cell? w _ hv)).trans hv
  obtain ⟨h0, h1, h2, h3, h4, h5, h6⟩ := h
  exact ⟨t h0, t h1, t h2, t h3, t h4, t h5, t h6⟩
theorem LookS.below {p gl o1 gb o2 : Nat} {bA lA : Option Addr} {bn bc lc bnum : Nat} {s : ByteArray} {w w' : World} (h : LookS p gl o1 gb o2 bA lA bn bc lc bnum s w) (hb : Below w.heap.size w w') : LookS p gl o1 gb o2 bA lA bn bc lc bnum s w' := by
  have t : ∀ {a : Addr} {v : Value}, w.cell? a = some v → w'.cell? a = some v := fun {a v} hv => (hb.cell (World.block_lt_of_cell? w _ hv)).trans hv
  obtain ⟨h0, h1, h2, h3, h4, h5, h6, h7, h8, h9, h10⟩ := h
  exact ⟨t h0, t h1, t h2, t h3, t h4, t h5, t h6, t h7, t h8, t h9, t h10⟩

set_option maxRecDepth 100000 in
set_option maxHeartbeats 4000000 in
theorem lookEntry_any (g base : Nat) (cs : Array Value) (vb : Value) (gs : List (BL × Value)) (w : World) (hB : BkIs w g cs) (hcs1 : cs[8]? = some vb) (hbase : base ≤ w.heap.size) (hown : w.ownsRow base 90 3 vb gs.length (heldG gs)) (hG : Grw entryK w base gs gs.length) (hl : gs.length ≤ 1000)
    (hb : ∀ p ∈ gs, p.1.n ≤ 1099511627776 ∧ p.1.num ≤ 1000000) (ht : TabB base w) :
    Calls Tryz.prog 60 #[.pointer (some ⟨g, 0, none⟩)] w fun e w' => e = .returned (.bool true) ∧ w.grownBy w' none := by
  have HB := Lib.hid hB; have HOWN := Lib.hid hown; have HG := Lib.hid hG; have HBD := Lib.hid hb; have HT := Lib.hid ht; have HC1 := Lib.hid hcs1
  clear hB hown hG hb ht hcs1
  go_enter Tryz.func60, Tryz.ntmps60
  go_wp2
  go_loopw [3] (fun i wr => ∃ m : Nat, m ≤ gs.length ∧ i = .int .i64 (m : Int) ∧ w.grownBy wr none) (fun i _ => gs.length - (intOf i).toNat)
  case atStart => exact ⟨0, Nat.zero_le _, rfl, World.grownBy.refl _ _⟩
  case round =>
    obtain ⟨m, hm, rfl, hgr⟩ := hrel
    have hBr := HB.out.grown hgr (by simp)
    have hOr := own_none HOWN.out hgr
    have hc1 : wr.cell? ⟨g, 8, none⟩ = some vb := (hBr.cell 8).trans HC1.out
    obtain ⟨Av, cv, hvb, hncv, hcmv, _⟩ := own_shape hOr
    subst hvb
    have HGR := Lib.hid hgr
    clear hgr hBr
    by_cases hlt : m < gs.length
    · obtain ⟨⟨⟨bA, bn, bc, bnum⟩, lv⟩, hbm⟩ : ∃ p, gs[m]? = some p := ⟨gs[m], List.getElem?_eq_getElem hlt⟩
      obtain ⟨hMk, hLg, _⟩ := HG.out m _ _ hbm
      have hLg := own_none (hLg hlt) HGR.out
      have hMk : wr.ownsRow base 59 4 (.slice bA bn bc) bn (rep (entryK.mark bnum) bn) := own_none hMk HGR.out
      obtain ⟨lA, lc, hlv, hlnc, hlcm, _⟩ := own_shape hLg
      subst hlv
      have hLg : wr.ownsRow base 59 4 (.slice lA (bn + 40) lc) (bn + 40) (rep (entryK.mark bnum) (bn + 40)) := hLg
      obtain ⟨gv, hgv⟩ : ∃ gv, Av = some ⟨gv, 0, none⟩ := by
        rcases hOr.2 with ⟨_, h0⟩ | ⟨g', cap, cur, hv, _⟩
        · omega
        · injection hv with h1 _ _; exact ⟨g', h1⟩
      subst hgv
      have k0 : wr.cell? ⟨gv, m * 3, none⟩ = some (.slice bA bn bc) := by rw [hOr.cellAt (m * 3) (by omega), Nat.mul_comm]; exact heldG_at gs m 0 _ hbm (by decide)
      have k1 : wr.cell? ⟨gv, m * 3 + 1, none⟩ = some (.slice lA (bn + 40) lc) := by rw [hOr.cellAt (m * 3 + 1) (by omega), Nat.mul_comm]; exact heldG_at gs m 1 _ hbm (by decide)
      have k2 : wr.cell? ⟨gv, m * 3 + 2, none⟩ = some (.int .i64 (bnum : Int)) := by rw [hOr.cellAt (m * 3 + 2) (by omega), Nat.mul_comm]; exact heldG_at gs m 2 _ hbm (by decide)
      have hbd := HBD.out _ (List.mem_of_getElem? hbm)
      have hbn : bn ≤ 1099511627776 := hbd.1
      have hbnum : bnum ≤ 1000000 := hbd.2
      have hcmv2 : cv ≤ 9223372036854775807 := hcmv
      have HMk := Lib.hid hMk; have HLg := Lib.hid hLg
      have hlen : ((bn : Int) + 40 != (bn : Int) + 40) = false := by simp
      clear hbm hcmv hbd hMk hLg hOr hlcm
      obtain ⟨wo, rfl⟩ : ∃ wo : World, wo = wr := ⟨_, rfl⟩
      obtain ⟨s, hs⟩ : ∃ s, wd bnum = s := ⟨_, rfl⟩
      have hmk : entryK.mark bnum = [.string s, .int .u64 0, .bool false, .string ⟨#[]⟩] := by rw [← hs]; rfl
      have HMK := Lib.hid hmk
      have HLW : Hid (Below base w wo) := (⟨HGR.out.os, HGR.out.tape, HGR.out.output, HGR.out.size, fun j hj => HGR.out.block j hj (by simp)⟩ : Below w.heap.size w wo).mono hbase
      have HIS : Hid (∀ W, Below base w W → Calls Tryz.prog 105 #[.agg #[.string s, .int .u64 0, .bool false, .string ⟨#[]⟩], .int .i64 (bnum : Int)] W fun e w' => e = .returned (.bool true) ∧ Below W.heap.size W w') := fun W hW => by
        have := isEntry_any bnum _ W hbnum rfl fun W' hW' => HT.out W' (hW.trans (hW'.mono (Nat.le_trans hbase hW.size)))
        rw [← hs]
        exact this
      clear hs hmk
      have hbox : (wo.alloc (.cells #[.slice bA bn bc, .slice lA (bn + 40) lc, .int .i64 (bnum : Int)] 90)).heap[wo.heap.size]? = some (.cells #[.slice bA bn bc, .slice lA (bn + 40) lc, .int .i64 (bnum : Int)] 90 (0, 0)) := heap_alloc_new wo _
      have hg0 : wo.grownBy (wo.alloc (.cells #[.slice bA bn bc, .slice lA (bn + 40) lc, .int .i64 (bnum : Int)] 90)) none := World.grownBy_alloc wo _ none
      obtain ⟨w0, hw0⟩ : ∃ w0, w0 = wo.alloc (.cells #[.slice bA bn bc, .slice lA (bn + 40) lc, .int .i64 (bnum : Int)] 90) := ⟨_, rfl⟩
      rw [← hw0] at hbox hg0
      have HW0 := Lib.hid hw0; have HG0 := Lib.hid hg0
      have c0 : w0.cell? ⟨wo.heap.size, 0, none⟩ = some (.slice bA bn bc) := cell_of_row w0 wo.heap.size 0 _ _ (0, 0) hbox
      have c1 : w0.cell? ⟨wo.heap.size, 1, none⟩ = some (.slice lA (bn + 40) lc) := cell_of_row w0 wo.heap.size 1 _ _ (0, 0) hbox
      have c2 : w0.cell? ⟨wo.heap.size, 2, none⟩ = some (.int .i64 (bnum : Int)) := cell_of_row w0 wo.heap.size 2 _ _ (0, 0) hbox
      have LM := Lib.hid (Lies.of_own (own_none HMk.out hg0)); have LL := Lib.hid (Lies.of_own (own_none HLg.out hg0))
      clear hw0 hbox hg0
      have HB0 : Hid (Below base w w0) := HLW.out.trans ((⟨HG0.out.os, HG0.out.tape, HG0.out.output, HG0.out.size, fun j hj => HG0.out.block j hj (by simp)⟩ : Below wo.heap.size wo w0).mono (Nat.le_trans hbase HLW.out.size))
      have C012 := Lib.hid (And.intro c0 (And.intro c1 c2))
      clear c0 c1 c2
      go_wp2
      rw [← HW0.out]
      go_loopw [5] (fun i w2 => ∃ k : Nat, k ≤ bn + 40 ∧ i = .int .i64 (k : Int) ∧ Below w0.heap.size w0 w2) (fun i _ => bn + 40 - (intOf i).toNat)
      case atStart => exact ⟨0, Nat.zero_le _, rfl, Below.refl _ _⟩
      case round =>
        clear k0 k1 k2 hc1
        obtain ⟨k, hk, rfl, hbr⟩ := hrel
        obtain ⟨c0', c1', c2'⟩ := C012.out
        have hbx : wo.heap.size < w0.heap.size := World.block_lt_of_cell? w0 _ c0'
        have c0 := (hbr.cell (p := ⟨wo.heap.size, 0, none⟩) hbx).trans c0'
        have c1 := (hbr.cell (p := ⟨wo.heap.size, 1, none⟩) hbx).trans c1'
        have c2 := (hbr.cell (p := ⟨wo.heap.size, 2, none⟩) hbx).trans c2'
        have hBW : Below base w wr := HB0.out.trans (hbr.mono (Nat.le_trans hbase HB0.out.size))
        have HBR := Lib.hid hbr
        by_cases hkn : k < bn + 40
        · obtain ⟨gl, ol, hlA, hll, l0, l1, l2, l3⟩ := rep_cells (LL.out.below hbr) HMK.out hkn
          subst hlA
          have i1 : (k : Int) < (bn : Int) + 40 := by omega
          have i2 : (0 : Int) ≤ (k : Int) := by omega
          have hbd : Below base w wr.drew := ⟨hBW.os, hBW.tape, hBW.output, hBW.size, hBW.block⟩
          have HI1 := Lib.hid (HIS.out _ hbd)
          have hbd2 : Below wr.heap.size wr wr.drew := below_drew1 wr
          clear c0' c1' c2' hbr
          by_cases hkb : k < bn
          · obtain ⟨gb, ob, hbA, hbb, m0, m1, m2, m3⟩ := rep_cells (LM.out.below HBR.out) HMK.out hkb
            subst hbA
            have i3 : (k : Int) < (bn : Int) := by omega
            have d1 : decide (k < bn) = true := by simp; omega
            have d1' : decide ((k : Int) < (bn : Int)) = true := by simp; omega
            have S0 : LookS wo.heap.size gl (ol + k * 4) gb (ob + k * 4) (some ⟨gb, ob, none⟩) (some ⟨gl, ol, none⟩) bn bc lc bnum s wr := ⟨c0, c1, c2, l0, l1, l2, l3, m0, m1, m2, m3⟩
            have Sd := Lib.hid S0
            have Sd : LookS wo.heap.size gl (ol + k * 4) gb (ob + k * 4) (some ⟨gb, ob, none⟩) (some ⟨gl, ol, none⟩) bn bc lc bnum s wr.drew := S0.below hbd2
            have HSd := Lib.hid Sd
            clear Sd l0 l1 l2 l3 m0 m1 m2 m3 S0
            go_wp2
            have Sd := HSd.out
            clear c0 c1 c2
            go_region_held3 (fun w' => LookS wo.heap.size gl (ol + k * 4) gb (ob + k * 4) (some ⟨gb, ob, none⟩) (some ⟨gl, ol, none⟩) bn bc lc bnum s w') (first | exact Sd | exact S1 | exact S2)
              (first
                | (go_at_call 105; refine HI1.out.mono ?_; rintro e w1 ⟨rfl, hb1⟩; have S1 := Sd.below hb1; have hbw1 := hbd.trans (hb1.mono (Nat.le_trans hbase hbd.size)))
                | (go_at_call 105; refine (HIS.out _ hbw1).mono ?_; rintro e w2 ⟨rfl, hb2⟩; have S2 := S1.below hb2)
                | fail)
            have R : Hid (Below w0.heap.size w0 w2) := HBR.out.trans (((below_drew1 wr).trans (hb1.trans (hb2.mono hb1.size))).mono HBR.out.size)
            clear S1 S2 hb1 hb2 hbw1 Sd
            go_wp2
            go_roundw
            case rel => exact ⟨k + 1, hkn, by go_num, R.out⟩
            case measure => simp [intOf]; omega
          · have d1 : decide (k < bn) = false := by simp; omega
            have d1' : decide ((k : Int) < (bn : Int)) = false := by simp; omega
            have S0 : LookT wo.heap.size gl (ol + k * 4) bA (some ⟨gl, ol, none⟩) bn bc lc bnum s wr := ⟨c0, c1, c2, l0, l1, l2, l3⟩
            have Sd : LookT wo.heap.size gl (ol + k * 4) bA (some ⟨gl, ol, none⟩) bn bc lc bnum s wr.drew := S0.below hbd2
            have HSd := Lib.hid Sd
            clear Sd l0 l1 l2 l3 S0
            go_wp2
            have Sd := HSd.out
            clear c0 c1 c2
            refine wp_region_held_drew (S := (fun w' => LookT wo.heap.size gl (ol + k * 4) bA (some ⟨gl, ol, none⟩) bn bc lc bnum s w')) (by kernel_rfl) Sd (fun hHeld => ?_)
            refine wpAnyH_take (i := 0) (oi := _) (v := ?v0) rfl (by kernel_rfl) (by kernel_rfl) (by kernel_rfl) (fun _ _ _ h => h) (Or.inl ⟨by rfl, ?y0⟩) (by assumption) ?r0
            case y0 => (intro w' hSw; (try dsimp only at hSw); go_simp <;> with_reducible rfl)
            try simp only [Act.put, List.setIfInBounds_toArray, List.set_cons_zero, List.set_cons_succ, List.getElem_toArray, List.getElem_cons_zero]
            refine wpAnyH_take (i := 1) (oi := _) (v := ?v1) rfl (by kernel_rfl) (by kernel_rfl) (by kernel_rfl) (fun _ _ _ h => h) (Or.inl ⟨by rfl, ?y1⟩) (by assumption) ?r1
            case y1 => (intro w' hSw; (try dsimp only at hSw); go_simp <;> with_reducible rfl)
            try simp only [Act.put, List.setIfInBounds_toArray, List.set_cons_zero, List.set_cons_succ, List.getElem_toArray, List.getElem_cons_zero, List.getElem_cons_succ]
            refine wpAnyH_take (i := 2) (oi := _) (v := ?v2) rfl (by kernel_rfl) (by kernel_rfl) (by kernel_rfl) (fun _ _ _ h => h) (Or.inl ⟨by rfl, ?y2⟩) (by assumption) ?r2
            case y2 => (intro w' hSw; (try dsimp only at hSw); go_simp <;> with_reducible rfl)
            try simp only [Act.put, List.setIfInBounds_toArray, List.set_cons_zero, List.set_cons_succ, List.getElem_toArray, List.getElem_cons_zero, List.getElem_cons_succ]
            refine wpAnyH_take (i := 3) (oi := _) (v := ?v3) rfl (by kernel_rfl) (by kernel_rfl) (by kernel_rfl) (fun _ _ _ h => h) (Or.inl ⟨by rfl, ?y3⟩) (by assumption) ?r3
            case y3 => (intro w' hSw; (try dsimp only at hSw); go_simp <;> with_reducible rfl)
            try simp only [Act.put, List.setIfInBounds_toArray, List.set_cons_zero, List.set_cons_succ, List.getElem_toArray, List.getElem_cons_zero, List.getElem_cons_succ]
            refine wpAnyH_take (i := 4) (oi := _) (v := ?v4) rfl (by kernel_rfl) (by kernel_rfl) (by kernel_rfl) (fun _ _ _ h => h) (Or.inl ⟨by rfl, ?y4⟩) (by assumption) ?r4
            case y4 => (intro w' hSw; (try dsimp only at hSw); go_simp <;> with_reducible rfl)
            try simp only [Act.put, List.setIfInBounds_toArray, List.set_cons_zero, List.set_cons_succ, List.getElem_toArray, List.getElem_cons_zero, List.getElem_cons_succ]
            refine wpAnyH_take (i := 5) (oi := _) (v := ?v5) rfl (by kernel_rfl) (by kernel_rfl) (by kernel_rfl) (fun _ _ _ h => h) (Or.inl ⟨by rfl, ?y5⟩) (by assumption) ?r5
            case y5 => (intro w' hSw; (try dsimp only at hSw); go_simp <;> with_reducible rfl)
            try simp only [Act.put, List.setIfInBounds_toArray, List.set_cons_zero, List.set_cons_succ, List.getElem_toArray, List.getElem_cons_zero, List.getElem_cons_succ]
            refine wpAnyH_take (i := 6) (oi := _) (v := ?v6) rfl (by kernel_rfl) (by kernel_rfl) (by kernel_rfl) (fun _ _ _ h => h) (Or.inl ⟨by rfl, ?y6⟩) (by assumption) ?r6
            case y6 => (intro w' hSw; (try dsimp only at hSw); go_simp <;> with_reducible rfl)
            try simp only [Act.put, List.setIfInBounds_toArray, List.set_cons_zero, List.set_cons_succ, List.getElem_toArray, List.getElem_cons_zero, List.getElem_cons_succ]
            refine wpAnyH_ready (rs := [7]) (by kernel_rfl) (by simp) ?_
            refine AllReadyH.cons (o := _) rfl (fun K hK => ?_) AllReadyH.nil
            go_simp
            go_at_call 105
            refine HI1.out.mono ?_
            rintro e w1 ⟨rfl, hb1⟩
            have S1 := Sd.below hb1
            refine hK.out _ _ S1 (fun hHeld => ?_)
            clear hK K
            try simp only [Act.put, List.setIfInBounds_toArray, List.set_cons_zero, List.set_cons_succ, List.getElem_toArray, List.getElem_cons_zero, List.getElem_cons_succ]
            refine wpAnyH_take (i := 8) (oi := _) (v := ?v8) rfl (by kernel_rfl) (by kernel_rfl) (by kernel_rfl) (fun _ _ _ h => h) (Or.inl ⟨by rfl, ?y8⟩) (by assumption) ?r8
            case y8 => (intro w' hSw; (try dsimp only at hSw); go_simp <;> with_reducible rfl)
            try simp only [Act.put, List.setIfInBounds_toArray, List.set_cons_zero, List.set_cons_succ, List.getElem_toArray, List.getElem_cons_zero, List.getElem_cons_succ]
            refine wpAnyH_take (i := 9) (oi := _) (v := ?v9) rfl (by kernel_rfl) (by kernel_rfl) (by kernel_rfl) (fun _ _ _ h => h) (Or.inl ⟨by rfl, ?y9⟩) (by assumption) ?r9
            case y9 => (intro w' hSw; (try dsimp only at hSw); go_simp <;> with_reducible rfl)
            try simp only [Act.put, List.setIfInBounds_toArray, List.set_cons_zero, List.set_cons_succ, List.getElem_toArray, List.getElem_cons_zero, List.getElem_cons_succ]
            refine wpAnyH_take (i := 10) (oi := _) (v := ?v10) rfl (by kernel_rfl) (by kernel_rfl) (by kernel_rfl) (fun _ _ _ h => h) (Or.inl ⟨by rfl, ?y10⟩) (by assumption) ?r10
            case y10 => (intro w' hSw; (try dsimp only at hSw); go_simp <;> with_reducible rfl)
            try simp only [Act.put, List.setIfInBounds_toArray, List.set_cons_zero, List.set_cons_succ, List.getElem_toArray, List.getElem_cons_zero, List.getElem_cons_succ]
            refine wpAnyH_take (i := 11) (oi := _) (v := ?v11) rfl (by kernel_rfl) (by kernel_rfl) (by kernel_rfl) (fun _ _ _ h => h) (Or.inl ⟨by rfl, ?y11⟩) (by assumption) ?r11
            case y11 => (intro w' hSw; (try dsimp only at hSw); go_simp <;> with_reducible rfl)
            try simp only [Act.put, List.setIfInBounds_toArray, List.set_cons_zero, List.set_cons_succ, List.getElem_toArray, List.getElem_cons_zero, List.getElem_cons_succ]
            refine wpAnyH_take (i := 12) (oi := _) (v := ?v12) rfl (by kernel_rfl) (by kernel_rfl) (by kernel_rfl) (fun _ _ _ h => h) (Or.inl ⟨by rfl, ?y12⟩) (by assumption) ?r12
            case y12 => (intro w' hSw; (try dsimp only at hSw); go_simp <;> with_reducible rfl)
            try simp only [Act.put, List.setIfInBounds_toArray, List.set_cons_zero, List.set_cons_succ, List.getElem_toArray, List.getElem_cons_zero, List.getElem_cons_succ]
            refine wpAnyH_take (i := 13) (oi := _) (v := ?v13) rfl (by kernel_rfl) (by kernel_rfl) (by kernel_rfl) (fun _ _ _ h => h) (Or.inl ⟨by rfl, ?y13⟩) (by assumption) ?r13
            case y13 => (intro w' hSw; (try dsimp only at hSw); go_simp <;> with_reducible rfl)
            try simp only [Act.put, List.setIfInBounds_toArray, List.set_cons_zero, List.set_cons_succ, List.getElem_toArray, List.getElem_cons_zero, List.getElem_cons_succ]
            refine wpAnyH_take (i := 14) (oi := _) (v := ?v14) rfl (by kernel_rfl) (by kernel_rfl) (by kernel_rfl) (fun _ _ _ h => h) (Or.inl ⟨by rfl, ?y14⟩) (by assumption) ?r14
            case y14 => (intro w' hSw; (try dsimp only at hSw); go_simp <;> with_reducible rfl)
            try simp only [Act.put, List.setIfInBounds_toArray, List.set_cons_zero, List.set_cons_succ, List.getElem_toArray, List.getElem_cons_zero, List.getElem_cons_succ]
            refine wpAnyH_take (i := 15) (oi := _) (v := ?v15) rfl (by kernel_rfl) (by kernel_rfl) (by kernel_rfl) (fun _ _ _ h => h) (Or.inl ⟨by rfl, ?y15⟩) (by assumption) ?r15
            case y15 => (intro w' hSw; (try dsimp only at hSw); go_simp <;> with_reducible rfl)
            try simp only [Act.put, List.setIfInBounds_toArray, List.set_cons_zero, List.set_cons_succ, List.getElem_toArray, List.getElem_cons_zero, List.getElem_cons_succ]
            refine wpAnyH_take (i := 16) (oi := _) (v := undef) rfl (by kernel_rfl) (by kernel_rfl) (by kernel_rfl) (fun _ _ _ h => h) (Or.inr ⟨by rfl, rfl⟩) (by assumption) ?_
            try simp only [Act.put, List.setIfInBounds_toArray, List.set_cons_zero, List.set_cons_succ, List.getElem_toArray, List.getElem_cons_zero, List.getElem_cons_succ]
            refine wpAnyH_take (i := 17) (oi := _) (v := undef) rfl (by kernel_rfl) (by kernel_rfl) (by kernel_rfl) (fun _ _ _ h => h) (Or.inr ⟨by rfl, rfl⟩) (by assumption) ?_
            try simp only [Act.put, List.setIfInBounds_toArray, List.set_cons_zero, List.set_cons_succ, List.getElem_toArray, List.getElem_cons_zero, List.getElem_cons_succ]
            refine wpAnyH_take (i := 18) (oi := _) (v := undef) rfl (by kernel_rfl) (by kernel_rfl) (by kernel_rfl) (fun _ _ _ h => h) (Or.inr ⟨by rfl, rfl⟩) (by assumption) ?_
            try simp only [Act.put, List.setIfInBounds_toArray, List.set_cons_zero, List.set_cons_succ, List.getElem_toArray, List.getElem_cons_zero, List.getElem_cons_succ]
            refine wpAnyH_take (i := 19) (oi := _) (v := undef) rfl (by kernel_rfl) (by kernel_rfl) (by kernel_rfl) (fun _ _ _ h => h) (Or.inr ⟨by rfl, rfl⟩) (by assumption) ?_
            try simp only [Act.put, List.setIfInBounds_toArray, List.set_cons_zero, List.set_cons_succ, List.getElem_toArray, List.getElem_cons_zero, List.getElem_cons_succ]
            refine wpAnyH_take (i := 20) (oi := _) (v := undef) rfl (by kernel_rfl) (by kernel_rfl) (by kernel_rfl) (fun _ _ _ h => h) (Or.inr ⟨by rfl, rfl⟩) (by assumption) ?_
            try simp only [Act.put, List.setIfInBounds_toArray, List.set_cons_zero, List.set_cons_succ, List.getElem_toArray, List.getElem_cons_zero, List.getElem_cons_succ]
            refine wpAnyH_take (i := 21) (oi := _) (v := undef) rfl (by kernel_rfl) (by kernel_rfl) (by kernel_rfl) (fun _ _ _ h => h) (Or.inr ⟨by rfl, rfl⟩) (by assumption) ?_
            try simp only [Act.put, List.setIfInBounds_toArray, List.set_cons_zero, List.set_cons_succ, List.getElem_toArray, List.getElem_cons_zero, List.getElem_cons_succ]
            refine wpAnyH_take (i := 22) (oi := _) (v := undef) rfl (by kernel_rfl) (by kernel_rfl) (by kernel_rfl) (fun _ _ _ h => h) (Or.inr ⟨by rfl, rfl⟩) (by assumption) ?_
            try simp only [Act.put, List.setIfInBounds_toArray, List.set_cons_zero, List.set_cons_succ, List.getElem_toArray, List.getElem_cons_zero, List.getElem_cons_succ]
            refine wpAnyH_take (i := 23) (oi := _) (v := undef) rfl (by kernel_rfl) (by kernel_rfl) (by kernel_rfl) (fun _ _ _ h => h) (Or.inr ⟨by rfl, rfl⟩) (by assumption) ?_
            try simp only [Act.put, List.setIfInBounds_toArray, List.set_cons_zero, List.set_cons_succ, List.getElem_toArray, List.getElem_cons_zero, List.getElem_cons_succ]
            refine wpAnyH_take (i := 24) (oi := _) (v := undef) rfl (by kernel_rfl) (by kernel_rfl) (by kernel_rfl) (fun _ _ _ h => h) (Or.inr ⟨by rfl, rfl⟩) (by assumption) ?_
            try simp only [Act.put, List.setIfInBounds_toArray, List.set_cons_zero, List.set_cons_succ, List.getElem_toArray, List.getElem_cons_zero, List.getElem_cons_succ]
            refine wpAnyH_take (i := 25) (oi := _) (v := ?v25) rfl (by kernel_rfl) (by kernel_rfl) (by kernel_rfl) (fun _ _ _ h => h) (Or.inl ⟨by rfl, ?y25⟩) (by assumption) ?r25
            case y25 => (intro w' hSw; (try dsimp only at hSw); go_simp <;> with_reducible rfl)
            try simp only [Act.put, List.setIfInBounds_toArray, List.set_cons_zero, List.set_cons_succ, List.getElem_toArray, List.getElem_cons_zero, List.getElem_cons_succ]
            refine wpAnyH_take (i := 26) (oi := _) (v := ?v26) rfl (by kernel_rfl) (by kernel_rfl) (by kernel_rfl) (fun _ _ _ h => h) (Or.inl ⟨by rfl, ?y26⟩) (by assumption) ?r26
            case y26 => (intro w' hSw; (try dsimp only at hSw); go_simp <;> with_reducible rfl)
            try simp only [Act.put, List.setIfInBounds_toArray, List.set_cons_zero, List.set_cons_succ, List.getElem_toArray, List.getElem_cons_zero, List.getElem_cons_succ]
            refine wpAnyH_done (by kernel_rfl) ?_ _
            have R : Hid (Below w0.heap.size w0 w1) := HBR.out.trans (((below_drew1 wr).trans hb1).mono HBR.out.size)
            clear S1 hb1 Sd
            go_wp2
            go_roundw
            case rel => exact ⟨k + 1, hkn, by go_num, R.out⟩
            case measure => simp [intOf]; omega
        · have R : Hid (w.grownBy wr none) := (HGR.out.trans HG0.out).trans (grown_of_below HBR.out none)
          go_wp2
          go_roundw
          case rel => exact ⟨m + 1, hlt, by go_num, R.out⟩
          case measure => simp [intOf]; omega
    · obtain rfl : m = gs.length := by omega
      go_wp2
      go_ret
      exact ⟨rfl, HGR.out⟩
end Go.Proofs.YtbbimfbkllellaaGreatDoor

