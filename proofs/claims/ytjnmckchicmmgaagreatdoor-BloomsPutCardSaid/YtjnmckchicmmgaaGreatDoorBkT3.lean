/-
  The laws' Book: texts: growText.
-/
import Derived.Test.YtjnmckchicmmgaaGreatDoorBkT2
import Derived.ArgAppend
namespace Go.Proofs.YtjnmckchicmmgaaGreatDoor
open Go.RowKit
set_option linter.unusedVariables false
set_option maxRecDepth 100000

theorem text_infoK : (Tryz.prog.info? 9).map (fun i => (i.zero, i.size, i.bytes)) = some (some (.string ByteArray.empty), 1, 16) := by kernel_rfl
theorem oneT (s : ByteArray) : ∀ u ∈ ([.string s] : List Value), u.oneCell' = true := by
  intro u hu
  simp only [List.mem_cons, List.not_mem_nil, or_false] at hu
  rcases hu with rfl <;> rfl
theorem litT (w : World) (a : Value) (t : TypeId) (j : Nat) (u : Value) (hu : [a][j]? = some u) : (w.alloc (.cells #[a] t)).cell? ((⟨w.heap.size, 0, none⟩ : Addr).add j) = some u := by
  rw [add_lit, Nat.zero_add, cell_of_row _ w.heap.size j #[a] t (0, 0) (heap_alloc_new w _), ← hu]
  simp

set_option maxRecDepth 100000 in
set_option maxHeartbeats 4000000 in
theorem growText_any (g base : Nat) (cs : Array Value) (vb : Value) (ls : List BL) (gs0 : List (BL × Value)) (w : World) (hB : BkIs w g cs) (hcs1 : cs[5]? = some vb) (hgs0 : gs0.map Prod.fst = ls) (hown : w.ownsRow base 67 3 vb ls.length (heldG gs0)) (hG : Grw textK w base gs0 0) (hD : DisG w gs0) (hbase : base ≤ w.heap.size) (hl : ls.length ≤ 1000)
    (hb : ∀ b ∈ ls, b.n ≤ 1099511627776 ∧ b.num ≤ 1000000) (ht : TabB base w) :
    Calls Tryz.prog 37 #[.pointer (some ⟨g, 0, none⟩)] w fun e w' => e = .returned (.tuple #[]) ∧ GRelB textK w base g cs vb ls (.int .i64 (ls.length : Int)) w' := by
  obtain ⟨i0, hi, hz0, hz1, hz2⟩ := info_parts text_infoK
  have H0 : Hid (GRelB textK w base g cs vb ls (.int .i64 0) w) := ⟨0, gs0, Nat.zero_le _, rfl, hgs0, hB, hown, hG, hD, Wrote.refl _ _⟩
  have HBD := Lib.hid hb; have HT := Lib.hid ht; have HC1 := Lib.hid hcs1
  have HLO : Hid (∀ i, (Bks ls i ∨ vb.ownBlock = some i) → base ≤ i) := fun i hi => by
    rcases hi with ⟨b, hbm, hbi⟩ | hi
    · rw [← hgs0] at hbm
      obtain ⟨⟨b', lv⟩, hp, rfl⟩ := List.mem_map.1 hbm
      obtain ⟨j, hj⟩ := List.getElem?_of_mem hp
      exact (World.ownsRow.lt (hG j _ _ hj).1 i hbi).1
    · exact (hown.lt i hi).1
  clear hB hown hG hD hb hgs0 ht hcs1
  go_enter Tryz.func37, Tryz.ntmps37
  go_wp2
  go_loopw [2] (fun i wr => GRelB textK w base g cs vb ls i wr) (fun i _ => ls.length - (intOf i).toNat)
  case atStart => exact H0.out
  case round =>
    clear H0
    obtain ⟨m, gs, hm, rfl, hgs, hB, hown, hG, hD, hbel⟩ := hrel
    have hc1 : wr.cell? ⟨g, 5, none⟩ = some vb := (hB.cell 5).trans HC1.out
    obtain ⟨Av, cv, rfl, hncv, hcmv, _⟩ := own_shape hown
    have HGS := Lib.hid hgs; have HB := Lib.hid hB; have HOWN := Lib.hid hown; have HG := Lib.hid hG; have HD := Lib.hid hD; have HBEL := Lib.hid hbel
    clear hgs hB hown hG hD hbel
    by_cases hlt : m < ls.length
    · have hgl : gs.length = ls.length := by rw [← HGS.out]; simp
      obtain ⟨⟨⟨bA, bn, bc, bnum⟩, lv⟩, hbm⟩ : ∃ p, gs[m]? = some p := ⟨gs[m]'(by omega), List.getElem?_eq_getElem (by omega)⟩
      obtain ⟨hMk, _, hnil⟩ := HG.out m _ _ hbm
      have hlv := hnil (Nat.le_refl _)
      subst hlv
      have HBM := Lib.hid hbm
      obtain ⟨gv, hgv⟩ : ∃ gv, Av = some ⟨gv, 0, none⟩ := by
        rcases HOWN.out.2 with ⟨_, h0⟩ | ⟨g', cap, cur, hv, _⟩
        · omega
        · injection hv with h1 _ _; exact ⟨g', h1⟩
      subst hgv
      have k0 : wr.cell? ⟨gv, m * 3, none⟩ = some (.slice bA bn bc) := by rw [HOWN.out.cellAt (m * 3) (by omega), Nat.mul_comm]; exact heldG_at gs m 0 _ hbm (by decide)
      have k1 : wr.cell? ⟨gv, m * 3 + 1, none⟩ = some (.slice none 0 0) := by rw [HOWN.out.cellAt (m * 3 + 1) (by omega), Nat.mul_comm]; exact heldG_at gs m 1 _ hbm (by decide)
      have k2 : wr.cell? ⟨gv, m * 3 + 2, none⟩ = some (.int .i64 (bnum : Int)) := by rw [HOWN.out.cellAt (m * 3 + 2) (by omega), Nat.mul_comm]; exact heldG_at gs m 2 _ hbm (by decide)
      have hcmv2 : cv ≤ 9223372036854775807 := hcmv
      have hmem : (⟨bA, bn, bc, bnum⟩ : BL) ∈ ls := by rw [← HGS.out]; exact List.mem_map_of_mem (f := Prod.fst) (List.mem_of_getElem? hbm)
      have hbd := HBD.out _ hmem
      have hbn : bn ≤ 1099511627776 := hbd.1
      have hbnum : bnum ≤ 1000000 := hbd.2
      have HMARK := Lib.hid hMk
      clear hbm hcmv hbd hMk hnil hmem hgl
      obtain ⟨wo, rfl⟩ : ∃ wo : World, wo = wr := ⟨_, rfl⟩
      obtain ⟨s, hs⟩ : ∃ s, wd bnum = s := ⟨_, rfl⟩
      have hmk : textK.mark bnum = [.string s] := by rw [← hs]; rfl
      have HMK := Lib.hid hmk
      have HLW := Lib.hid (HBEL.out.below HLO.out hbase)
      have HM : Hid (∀ W, Below base w W → Calls Tryz.prog 68 #[.int .i64 (bnum : Int)] W fun e w' => e = .returned (.string s) ∧ Below W.heap.size W w') := fun W hW => by
        have := markText_any bnum W hbnum fun W' hW' => HT.out W' (hW.trans (hW'.mono (Nat.le_trans hbase hW.size)))
        rw [← hs]
        exact this
      clear hs hmk
      have hbox : (wo.alloc (.cells #[.slice bA bn bc, .slice none 0 0, .int .i64 (bnum : Int)] 67)).heap[wo.heap.size]? = some (.cells #[.slice bA bn bc, .slice none 0 0, .int .i64 (bnum : Int)] 67 (0, 0)) := heap_alloc_new wo _
      have hMk0 : Marked textK (wo.alloc (.cells #[.slice bA bn bc, .slice none 0 0, .int .i64 (bnum : Int)] 67)) base ⟨bA, bn, bc, bnum⟩ := World.ownsRow.alloc HMARK.out _
      have hg0 : wo.grownBy (wo.alloc (.cells #[.slice bA bn bc, .slice none 0 0, .int .i64 (bnum : Int)] 67)) none := World.grownBy_alloc wo _ none
      obtain ⟨w0, hw0⟩ : ∃ w0, w0 = wo.alloc (.cells #[.slice bA bn bc, .slice none 0 0, .int .i64 (bnum : Int)] 67) := ⟨_, rfl⟩
      rw [← hw0] at hbox hMk0 hg0
      have HBOX := Lib.hid hbox; have HG0 := Lib.hid hg0; have HMK0 := Lib.hid hMk0
      have HW0 := Lib.hid hw0
      have hgh : some wo.heap.size ≠ (Value.slice bA bn bc).ownBlock := by
        intro he
        have := (World.ownsRow.lt HMARK.out wo.heap.size he.symm).2
        omega
      have HGH := Lib.hid hgh
      have HB0 : Hid (Below base w w0) := HLW.out.trans ((⟨HG0.out.os, HG0.out.tape, HG0.out.output, HG0.out.size, fun j hj => HG0.out.block j hj (by simp)⟩ : Below wo.heap.size wo w0).mono (Nat.le_trans hbase HLW.out.size))
      have Q0 : Hid (GQ textK w0 base ⟨bA, bn, bc, bnum⟩ (.slice bA bn bc) (.int .i64 0) w0) := ⟨0, bA, bc, Nat.zero_le _, rfl, rfl, hMk0, hMk0, World.grownBy.refl _ _, .inl ⟨rfl, rfl⟩⟩
      clear hbox hMk0 hg0 hgh hw0
      go_wp2
      rw [← HW0.out]
      go_loopw [4, 5] (fun v i w2 => GQ textK w0 base ⟨bA, bn, bc, bnum⟩ v i w2) (fun _ i _ => 40 - (intOf i).toNat)
      case atStart => exact Q0.out
      case round =>
        clear Q0 k0 k1 k2 hc1
        obtain ⟨q, A, c, hq, rfl, rfl, hownq, hMq, hgq, hFq⟩ := hrel
        have hownq' : wr.ownsRow base 9 1 (.slice A (bn + q) c) (bn + q) (rep (textK.mark bnum) (bn + q)) := hownq
        have hboxq := (hgq.block wo.heap.size (by have := (Array.getElem?_eq_some_iff.1 HBOX.out).1; exact this) HGH.out).trans HBOX.out
        have c2 : wr.cell? ⟨wo.heap.size, 2, none⟩ = some (.int .i64 (bnum : Int)) := cell_of_row wr wo.heap.size 2 _ _ (0, 0) hboxq
        have hbs : base ≤ wr.heap.size := by
          have h1 := HBEL.out.size
          have h2 := HG0.out.size
          have h3 := hgq.size
          omega
        have HOQ := Lib.hid hownq'; have HMQ := Lib.hid hMq; have HGQ := Lib.hid hgq; have HFQ := Lib.hid hFq
        have hltb : Hid (∀ j, (BL.v ⟨bA, bn, bc, bnum⟩).ownBlock = some j → j < w0.heap.size) := fun j hj => (World.ownsRow.lt HMK0.out j hj).2
        have HBW : Hid (Below base w wr) := HB0.out.grown hgq (Nat.le_trans hbase HB0.out.size) fun j hj => (World.ownsRow.lt HMARK.out j hj).1
        clear hownq hownq' hMq hgq hFq hboxq
        by_cases hqn : q < 40
        · by_cases hfit : bn + q + 1 ≤ c
          · obtain ⟨gl, hgl⟩ : ∃ gl, A = some ⟨gl, 0, none⟩ := by
              rcases HOQ.out.2 with ⟨h0, _⟩ | ⟨g', cap, cur, hv, _⟩
              · injection h0 with _ _ h2; omega
              · injection hv with h1 _ _; exact ⟨g', h1⟩
            subst hgl
            go_wp2_with (first
              | (go_at_call 68; refine (HM.out _ HBW.out).mono ?_; rintro e w1 ⟨rfl, hb1⟩; have ho1 := (own_below HOQ.out hb1).alloc (.cells #[.string s] 9); have c2' := (hb1.cell (World.block_lt_of_cell? wr _ c2)).trans c2)
              | (at_builtin; refine wpList_append_fits _ rfl (.tmp 28) (.tmp 32) 22 rfl base 9 i0 1 Tryz.underlying22 hi hz1 gl (bn + q) c _ rfl ho1 ⟨w1.heap.size, 0, none⟩ 1 1 [.string s] rfl rfl ?c1 ?c2 hfit ?_))
            case c1 => exact fun j u hu => litT w1 _ _ j u hu
            case c2 => exact oneT s
            intro w3 hown3 hg3
            rw [← HMK.out] at hown3
            have R := Lib.hid (GQ.fits (K := textK) (b := ⟨bA, bn, bc, bnum⟩) hqn hltb.out HMQ.out HGQ.out HFQ.out (ga hb1 _) hown3 hg3)
            clear hown3 hg3 ho1 c2 hb1 c2'
            go_wp2
            go_roundw
            case rel => exact R.out
            case measure => simp [intOf]; omega
          · have hcn : c < bn + q + 1 := by omega
            have hnone : A = none → bn + q = 0 ∧ c = 0 := by
              intro hA
              rcases HOQ.out.2 with ⟨h0, h1⟩ | ⟨g', cap, cur, hv, _⟩
              · injection h0 with _ _ h2; exact ⟨h1, h2⟩
              · injection hv with h1 _ _; rw [hA] at h1; cases h1
            have HNONE := Lib.hid hnone
            clear hnone
            go_wp2_with (first
              | (go_at_call 68; refine (HM.out _ HBW.out).mono ?_; rintro e w1 ⟨rfl, hb1⟩; have c2' := (hb1.cell (World.block_lt_of_cell? wr _ c2)).trans c2)
              | (at_builtin; refine wpList_append_grows _ rfl (.tmp 28) (.tmp 32) 22 rfl 9 i0 _ 1 16 Tryz.underlying22 hi hz0 hz1 hz2 rfl (by decide) A (bn + q) c (rep (textK.mark bnum) (bn + q)) rfl HNONE.out (HOQ.out.1) (cells_at (own_below HOQ.out hb1)) ⟨w1.heap.size, 0, none⟩ 1 1 [.string s] rfl rfl ?d1 ?d2 hcn (by unfold maxLen; omega) (by omega) ?_))
            case d1 => exact fun j u hu => litT w1 _ _ j u hu
            case d2 => exact oneT s
            intro v3 w3 hown3 hg3
            rw [← HMK.out] at hown3
            have hown4 : w3.ownsRow (w1.alloc (.cells #[.string s] 9)).heap.size 9 1 v3 (bn + q + 1) (rep (textK.mark bnum) (bn + q) ++ textK.mark bnum) := by rw [World.size_alloc]; exact hown3
            have hb1s := hb1.size
            have R := Lib.hid (GQ.moves (K := textK) (b := ⟨bA, bn, bc, bnum⟩) hqn (by simp; omega) HMQ.out HGQ.out (ga hb1 _) hown4 hg3)
            clear hown4
            clear hown3 hg3 c2 hb1 c2'
            go_wp2
            go_roundw
            case rel => exact R.out
            case measure => simp [intOf]; omega
        · obtain rfl : q = 40 := by omega
          have hgw : wo.grownBy wr (Value.slice bA bn bc).ownBlock := by
            refine ⟨HGQ.out.os.trans HG0.out.os, HGQ.out.tape.trans HG0.out.tape, HGQ.out.output.trans HG0.out.output, Nat.le_trans HG0.out.size HGQ.out.size, fun j hj hne => ?_⟩
            rw [HGQ.out.block j (Nat.lt_of_lt_of_le hj HG0.out.size) hne]
            exact HG0.out.block j hj (by simp)
          have hBw : BkIs wr g cs := HB.out.grown hgw (HB.out.not_own HMARK.out (by decide))
          have hOw := HOWN.out.kept hgw (own_neB HOWN.out HMARK.out (by decide))
          have hFw : A = bA ∧ c = bc ∨ ∀ j, (Value.slice A (bn + 40) c).ownBlock = some j → wo.heap.size ≤ j := by
            rcases HFQ.out with h | h
            · exact .inl h
            · exact .inr fun j hj => Nat.le_trans HG0.out.size (h j hj)
          have hst := grow_step (K := textK) (b := ⟨bA, bn, bc, bnum⟩) (Nat.le_trans hbase HBEL.out.size) HG.out HD.out HBM.out HOQ.out HMQ.out hgw hFw hOw
          have hsto := hOw.stored (3 * m + 1) (.slice A (bn + 40) c)
          rw [heldG_set gs m _ _ _ HBM.out] at hsto
          have R : Hid (GRelB textK w base g cs (.slice (some ⟨gv, 0, none⟩) ls.length cv) ls (.int .i64 ((m : Int) + 1)) (wr.setCell ⟨gv, m * 3 + 1, none⟩ (.slice A (bn + 40) c))) := by
            rw [Nat.mul_comm m 3]
            refine ⟨m + 1, gs.set m (⟨bA, bn, bc, bnum⟩, .slice A (bn + 40) c), hlt, by simp, ?_, hBw.grown hsto.2 (hBw.not_own hOw (by decide)), hsto.1, hst.1, hst.2, ?_⟩
            · rw [List.map_set, HGS.out]
              apply List.ext_getElem?
              intro i
              by_cases him : i = m
              · subst him
                rw [List.getElem?_set_self hlt, ← HGS.out, List.getElem?_map, HBM.out]; rfl
              · rw [List.getElem?_set_ne (fun e => him e.symm)]
            · exact (wrote_grown HBEL.out hgw (fun j hj => .inl (.inl ⟨(⟨bA, bn, bc, bnum⟩ : BL), by rw [← HGS.out]; exact List.mem_map_of_mem (f := Prod.fst) (List.mem_of_getElem? HBM.out), hj⟩))).set (p := ⟨gv, 3 * m + 1, none⟩) (.inr rfl) _
          have hcb : wr.cell? ⟨g, 5, none⟩ = some (.slice (some ⟨gv, 0, none⟩) ls.length cv) := (hBw.cell 5).trans HC1.out
          obtain ⟨uo, huo⟩ : ∃ u, wr.cell? ⟨gv, m * 3 + 1, none⟩ = some u := by
            rw [hOw.cellAt (m * 3 + 1) (by omega)]
            exact ⟨_, List.getElem?_eq_getElem (by have := hOw.1; omega)⟩
          have hfo := hOw.frozenAt (m * 3 + 1)
          clear hst hsto hgw hBw hOw hFw c2
          go_wp2
          go_roundw
          case rel => exact R.out
          case measure => simp [intOf]; omega
    · obtain rfl : m = ls.length := by omega
      have R : Hid (GRelB textK w base g cs (.slice Av ls.length cv) ls (.int .i64 (ls.length : Int)) wr) := ⟨ls.length, gs, Nat.le_refl _, rfl, HGS.out, HB.out, HOWN.out, HG.out, HD.out, HBEL.out⟩
      go_wp2
      go_end0
      exact ⟨rfl, R.out⟩
end Go.Proofs.YtjnmckchicmmgaaGreatDoor
