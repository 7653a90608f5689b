/-
  The laws' Book: bytes: keepByte, Bytes, markByte, isByte.
  The laws' Book: bytes: fillByte.
  The laws' Book: bytes: growByte.
  The laws' Book: bytes: lookByte.
-/
import Derived.Test.YtbbimfbkllellaaGreatDoorBkANO
import Derived.LoopTactic
import Derived.Deep.RegionHeld3
import Derived.ArgAppend
import Derived.Test.YtbbimfbkllellaaGreatDoorBookE
namespace Go.Proofs.YtbbimfbkllellaaGreatDoor
open Go.RowKit
set_option linter.unusedVariables false
set_option maxRecDepth 100000

theorem heldB_info : (Tryz.prog.info? 88).map (fun i => (i.zero, i.size, i.bytes)) = some (some (.agg #[nilS, nilS, .int .i64 0]), 3, 56) := by kernel_rfl
/-- the mark of a list -/
def mk (num : Nat) : Value := .int .u8 ((1 + num % 250 : Nat) : Int)
def byteK : Kn where
  e := 5
  sz := 1
  h := 88
  mark := fun n => [mk n]
  pos := by decide
  len := fun _ => rfl
  one := fun n u hu => by
    rw [List.mem_singleton.1 hu]; rfl
  ne := by decide
  nb := by decide
  nh := by decide
theorem rep_one (u : Value) (q : Nat) : rep [u] q = List.replicate q u := by
  unfold rep
  induction q with
  | zero => rfl
  | succ q ih => rw [List.replicate_succ, List.flatten_cons, ih]; rfl
theorem byte_rep (num q : Nat) : rep (byteK.mark num) q = List.replicate q (mk num) := rep_one _ _
theorem byte_sz (q : Nat) : q * byteK.sz = q := Nat.mul_one q
theorem markByte_any (n : Nat) (w : World) (hn : n ≤ 1000000) : Calls Tryz.prog 85 #[.int .i64 (n : Int)] w fun e w' => e = .returned (mk n) ∧ w = w' := by
  obtain ⟨r, hr⟩ : ∃ r, n % 250 = r := ⟨_, rfl⟩
  have hm : (n : Int) % 250 = (r : Int) := by omega
  have hrl : r < 250 := by omega
  have e : mk n = .int .u8 ((1 + r : Nat) : Int) := by unfold mk; rw [hr]
  rw [e]
  clear e hr
  have hw : (1 + (r : Int)) % 256 = 1 + (r : Int) := by omega
  go_enter Tryz.func85, Tryz.ntmps85
  go_wp2
  go_ret
  exact ⟨rfl, rfl⟩
theorem isByte_any (x n : Nat) (w : World) (hn : n ≤ 1000000) (hx : x = 1 + n % 250) : Calls Tryz.prog 98 #[.int .u8 (x : Int), .int .i64 (n : Int)] w fun e w' => e = .returned (.bool true) ∧ w = w' := by
  obtain ⟨r, hr⟩ : ∃ r, n % 250 = r := ⟨_, rfl⟩
  have hm : (n : Int) % 250 = (r : Int) := by omega
  have hrl : r < 250 := by omega
  rw [hr] at hx
  subst hx
  clear hr
  have hw : (1 + (r : Int)) % 256 = 1 + (r : Int) := by omega
  go_enter Tryz.func98, Tryz.ntmps98
  go_wp2
  go_ret
  exact ⟨rfl, rfl⟩
set_option maxHeartbeats 2000000 in
theorem keepByte_any (g n k base : Nat) (cs : Array Value) (vb : Value) (hs : List Value) (A : Option Addr) (nl c : Nat) (w : World) (hB : BkIs w g cs) (hcs : cs.size = 14) (hcs0 : cs[0]? = some (.int .i64 (n : Int))) (hcs1 : cs[1]? = some vb) (hown : w.ownsRow base 88 3 vb k hs) (hbase : base ≤ w.heap.size) (hn : n ≤ 1000000) (hk : k ≤ 1000000) :
    Calls Tryz.prog 25 #[.pointer (some ⟨g, 0, none⟩), .slice A nl c] w fun e w' => e = .returned (.tuple #[]) ∧ ∃ vb', BkIs w' g ((cs.setIfInBounds 0 (.int .i64 ((n + 1 : Nat) : Int))).setIfInBounds 1 vb') ∧
      w'.ownsRow base 88 3 vb' (k + 1) (hs ++ [.slice A nl c, nilS, .int .i64 ((n + 1 : Nat) : Int)]) ∧ Wrote (fun i => i = g ∨ vb.ownBlock = some i) w w' ∧ (vb'.ownBlock = vb.ownBlock ∨ ∃ i, vb'.ownBlock = some i ∧ w.heap.size ≤ i) := by
  obtain ⟨i0, hi, hz0, hz1, hz2⟩ := info_parts heldB_info
  have hc0 : w.cell? ⟨g, 0, none⟩ = some (.int .i64 (n : Int)) := (hB.cell 0).trans hcs0
  have hc1 : w.cell? ⟨g, 1, none⟩ = some vb := (hB.cell 1).trans hcs1
  have hf0 := hB.frozen 0
  have hf1 := hB.frozen 1
  go_enter Tryz.func25, Tryz.ntmps25
  go_wp2
  have hB1 : BkIs (w.setCell ⟨g, 0, none⟩ (.int .i64 ((n : Int) + 1))) g (cs.setIfInBounds 0 (.int .i64 ((n : Int) + 1))) := hB.set 0 _
  have hown1 := own_setOther hown (p := ⟨g, 0, none⟩) (hB.not_own hown (by decide)) (.int .i64 ((n : Int) + 1))
  have honly1 : ∀ j, j < w.heap.size → some j ≠ some g → (w.setCell ⟨g, 0, none⟩ (.int .i64 ((n : Int) + 1))).heap[j]? = w.heap[j]? := fun j _ hj => Below.heap_setCell w _ _ j (fun e => hj (by rw [e]))
  have hsz1 : (w.setCell ⟨g, 0, none⟩ (.int .i64 ((n : Int) + 1))).heap.size = w.heap.size := by simp [World.setCell]
  have hos1 : (w.setCell ⟨g, 0, none⟩ (.int .i64 ((n : Int) + 1))).os = w.os ∧ (w.setCell ⟨g, 0, none⟩ (.int .i64 ((n : Int) + 1))).tape = w.tape ∧ (w.setCell ⟨g, 0, none⟩ (.int .i64 ((n : Int) + 1))).output = w.output := ⟨rfl, rfl, rfl⟩
  obtain ⟨w1, hw1⟩ : ∃ w1, w.setCell ⟨g, 0, none⟩ (.int .i64 ((n : Int) + 1)) = w1 := ⟨_, rfl⟩
  rw [hw1] at hB1 hown1 honly1 hsz1 hos1 ⊢
  clear hw1 hc0 hc1 hf0 hf1
  have hc0 : w1.cell? ⟨g, 0, none⟩ = some (.int .i64 ((n : Int) + 1)) := (hB1.cell 0).trans (by rw [Array.getElem?_setIfInBounds_self_of_lt (by omega)])
  have hc1 : w1.cell? ⟨g, 1, none⟩ = some vb := (hB1.cell 1).trans (by rw [Array.getElem?_setIfInBounds_ne (by decide)]; exact hcs1)
  have hf1 := hB1.frozen 1
  have hglt : g < w1.heap.size := hB1.lt
  have hgne : w1.heap.size ≠ g := by omega
  have hgne2 : g ≠ w1.heap.size := by omega
  have H1 := Lib.hid honly1; have HS1 := Lib.hid hsz1; have HO1 := Lib.hid hos1
  clear honly1 hsz1 hos1
  go_region_law (refine step_app _ rfl (.tmp 15) (.tmp 22) 34 rfl base 88 i0 _ 3 56 Tryz.underlying34 hi hz0 hz1 hz2 rfl (by decide) vb k hs rfl (World.ownsRow.alloc (w := w1.drew) hown1 _) (w1.heap.size + 1) (some ⟨w1.heap.size, 0, none⟩) 1 1 [.slice A nl c, nilS, .int .i64 ((n : Int) + 1)] rfl (lits3 (w := w1.drew) rfl _ _ _ _) (three_one _ _ _ _) (by unfold maxLen; omega) (by omega) (by have := HS1.out; simp; omega) ?_; intro v2 w2 hown2 hg2 hat2; have hB2 := BkIs.grown (BkIs.alloc (w := w1.drew) hB1 _) hg2 (hB1.not_own hown1 (by decide)); have hc2 : w2.cell? ⟨g, 1, none⟩ = some vb := (hB2.cell 1).trans (by rw [Array.getElem?_setIfInBounds_ne (by decide)]; exact hcs1); have hf2 := hB2.frozen 1; obtain ⟨A2, c2, rfl, _⟩ := own_shape hown2)
  all_goals (
    have hfin : BkIs (w2.setCell ⟨g, 1, none⟩ (.slice A2 (k + 1) c2)) g ((cs.setIfInBounds 0 (.int .i64 ((n + 1 : Nat) : Int))).setIfInBounds 1 (.slice A2 (k + 1) c2)) := hB2.set 1 _
    have hown3 := own_setOther hown2 (p := ⟨g, 1, none⟩) (hB2.not_own hown2 (by decide)) (.slice A2 (k + 1) c2)
    have honly : Wrote (fun i => i = g ∨ vb.ownBlock = some i) w (w2.setCell ⟨g, 1, none⟩ (.slice A2 (k + 1) c2)) := by
      have ho := HO1.out
      refine ⟨hg2.os.trans ho.1, hg2.tape.trans ho.2.1, hg2.output.trans ho.2.2, ?_, ?_⟩
      · have := hg2.size
        have h2 := HS1.out
        simp [World.setCell] at this ⊢
        omega
      · intro j hj hno
        have h1 : some j ≠ some g := fun e => hno (.inl (by injection e))
        have h2 : some j ≠ vb.ownBlock := fun e => hno (.inr e.symm)
        have hj1 : j < w1.heap.size := by rw [HS1.out]; exact hj
        rw [Below.heap_setCell _ _ _ _ (fun e => h1 (by rw [e]))]
        rw [hg2.block j (by simp; omega) h2]
        exact (Below.heap_alloc w1.drew _ j hj1).trans (H1.out j hj h1)
    have hat3 : (Value.slice A2 (k + 1) c2).ownBlock = vb.ownBlock ∨ ∃ i, (Value.slice A2 (k + 1) c2).ownBlock = some i ∧ w.heap.size ≤ i := by
      rcases hat2 with h | h
      · exact .inl h
      · refine .inr ⟨_, h, ?_⟩
        have := HS1.out
        simp
        omega
    have HAt := Lib.hid hat3
    have HF := Lib.hid hfin; have HO3 := Lib.hid hown3; have HON := Lib.hid honly
    clear hat3 hfin hown3 honly hown2 hg2 hat2 hB2 hc2 hf2 hown1 hB1 hc0 hc1 hf1
    go_wp2
    go_end0
    exact ⟨rfl, _, HF.out, HO3.out, HON.out, HAt.out⟩)

theorem bytes_bk (g n k base : Nat) (cs : Array Value) (vb : Value) (hs : List Value) (A : Option Addr) (nl c : Nat) (w : World) (hB : BkIs w g cs) (hcs : cs.size = 14) (hcs0 : cs[0]? = some (.int .i64 (n : Int))) (hcs1 : cs[1]? = some vb) (hown : w.ownsRow base 88 3 vb k hs) (hbase : base ≤ w.heap.size) (hn : n ≤ 1000000) (hk : k ≤ 1000000) :
    Calls Tryz.prog 11 #[.pointer (some ⟨g, 0, none⟩), .slice A nl c] w fun e w' => e = .returned (.tuple #[]) ∧ ∃ vb', BkIs w' g ((cs.setIfInBounds 0 (.int .i64 ((n + 1 : Nat) : Int))).setIfInBounds 1 vb') ∧
      w'.ownsRow base 88 3 vb' (k + 1) (hs ++ [.slice A nl c, nilS, .int .i64 ((n + 1 : Nat) : Int)]) ∧ Wrote (fun i => i = g ∨ vb.ownBlock = some i) w w' ∧ (vb'.ownBlock = vb.ownBlock ∨ ∃ i, vb'.ownBlock = some i ∧ w.heap.size ≤ i) := by
  have H := Lib.hid (keepByte_any g n k base cs vb hs A nl c w hB hcs hcs0 hcs1 hown hbase hn hk)
  clear hB hown
  go_enter Tryz.func11, Tryz.ntmps11
  go_wp2_with fail
  refine H.out.mono ?_
  rintro e w1 ⟨rfl, hr⟩
  have HR := Lib.hid hr; clear hr
  go_wp2
  go_end0
  exact ⟨rfl, HR.out⟩
end Go.Proofs.YtbbimfbkllellaaGreatDoor

namespace Go.Proofs.YtbbimfbkllellaaGreatDoor
open Go.RowKit
set_option linter.unusedVariables false
set_option maxRecDepth 100000

theorem mark_set (q : Nat) (mv : Value) (xs : List Value) (h : q < xs.length) : (List.replicate q mv ++ xs.drop q).set q mv = List.replicate (q + 1) mv ++ xs.drop (q + 1) := by
  rw [List.set_append_right _ _ (by simp), List.length_replicate, Nat.sub_self, List.drop_eq_getElem_cons h, List.set_cons_zero, List.replicate_succ', List.append_assoc]
  rfl
set_option maxRecDepth 100000 in
set_option maxHeartbeats 4000000 in
theorem fillByte_bk (g base : Nat) (cs : Array Value) (vb : Value) (ls : List BL) (w : World) (hB : BkIs w g cs) (hcs1 : cs[1]? = some vb) (hown : w.ownsRow base 88 3 vb ls.length (held0 ls)) (hF : Filled byteK w base ls 0) (hD : Dis ls) (hbase : base ≤ w.heap.size) (hl : ls.length ≤ 1000)
    (hb : ∀ b ∈ ls, b.n ≤ 1099511627776 ∧ b.num ≤ 1000000) :
    Calls Tryz.prog 27 #[.pointer (some ⟨g, 0, none⟩)] w fun e w' => e = .returned (.tuple #[]) ∧ FRel byteK w base g cs vb ls (.int .i64 (ls.length : Int)) w' := by
  have H0 : Hid (FRel byteK w base g cs vb ls (.int .i64 0) w) := ⟨0, Nat.zero_le _, rfl, hB, hown, hF, Wrote.refl _ _⟩
  have HD := Lib.hid hD; have HBD := Lib.hid hb; have HC1 := Lib.hid hcs1
  have HLO : Hid (∀ i, Bks ls i → base ≤ i ∧ i < w.heap.size) := fun i ⟨b, hbm, hbi⟩ => by
    obtain ⟨j, hj⟩ := List.getElem?_of_mem hbm
    obtain ⟨xs, hx, _⟩ := hF j b hj
    exact hx.lt i hbi
  clear hB hown hF hD hb hcs1
  go_enter Tryz.func27, Tryz.ntmps27
  go_wp2
  go_loopw [2] (fun i wr => FRel byteK w base g cs vb ls i wr) (fun i _ => ls.length - (intOf i).toNat)
  case atStart => exact H0.out
  case round =>
    clear H0
    obtain ⟨m, hm, rfl, hB, hown, hF, hbel⟩ := hrel
    have hc1 : wr.cell? ⟨g, 1, none⟩ = some vb := (hB.cell 1).trans HC1.out
    obtain ⟨Av, cv, rfl, hncv, hcmv, _⟩ := own_shape hown
    have HB := Lib.hid hB; have HOWN := Lib.hid hown; have HF := Lib.hid hF; have HBEL := Lib.hid hbel
    clear hB hown hF hbel
    by_cases hlt : m < ls.length
    · obtain ⟨⟨bA, bn, bc, bnum⟩, hbm⟩ : ∃ b, ls[m]? = some b := ⟨ls[m], List.getElem?_eq_getElem hlt⟩
      have HBM := Lib.hid hbm
      obtain ⟨gv, hgv⟩ : ∃ gv, Av = some ⟨gv, 0, none⟩ := by
        rcases HOWN.out.2 with ⟨_, h0⟩ | ⟨g', cap, cur, hv, _⟩
        · omega
        · injection hv with h1 _ _; exact ⟨g', h1⟩
      subst hgv
      have k0 : wr.cell? ⟨gv, m * 3, none⟩ = some (.slice bA bn bc) := by rw [HOWN.out.cellAt (m * 3) (by omega), Nat.mul_comm]; exact held0_at ls m 0 _ hbm (by decide)
      have k1 : wr.cell? ⟨gv, m * 3 + 1, none⟩ = some (.slice none 0 0) := by rw [HOWN.out.cellAt (m * 3 + 1) (by omega), Nat.mul_comm]; exact held0_at ls m 1 _ hbm (by decide)
      have k2 : wr.cell? ⟨gv, m * 3 + 2, none⟩ = some (.int .i64 (bnum : Int)) := by rw [HOWN.out.cellAt (m * 3 + 2) (by omega), Nat.mul_comm]; exact held0_at ls m 2 _ hbm (by decide)
      have hcmv2 : cv ≤ 9223372036854775807 := hcmv
      have hbd := HBD.out _ (List.mem_of_getElem? hbm)
      have hbn : bn ≤ 1099511627776 := hbd.1
      have hbnum : bnum ≤ 1000000 := hbd.2
      obtain ⟨xs, hxs, _⟩ := HF.out m _ hbm
      have HXS := Lib.hid hxs
      clear hbm hcmv hbd hxs
      obtain ⟨wo, rfl⟩ : ∃ wo : World, wo = wr := ⟨_, rfl⟩
      obtain ⟨y, hy⟩ : ∃ y, 1 + bnum % 250 = y := ⟨_, rfl⟩
      have hyl : y < 256 := by omega
      have hmk : mk bnum = .int .u8 (y : Int) := by unfold mk; rw [hy]
      have HMK := Lib.hid hmk
      have HM : Hid (∀ W, Calls Tryz.prog 85 #[.int .i64 (bnum : Int)] W fun e w' => e = .returned (.int .u8 (y : Int)) ∧ W = w') := fun W => by
        have := markByte_any bnum W hbnum
        rw [hmk] at this
        exact this
      clear hy hmk
      go_wp2
      have hbox : (wo.alloc (.cells #[.slice bA bn bc, .slice none 0 0, .int .i64 (bnum : Int)] 88)).heap[wo.heap.size]? = some (.cells #[.slice bA bn bc, .slice none 0 0, .int .i64 (bnum : Int)] 88 (0, 0)) := heap_alloc_new wo _
      have hxs0 := HXS.out.alloc (.cells #[.slice bA bn bc, .slice none 0 0, .int .i64 (bnum : Int)] 88)
      have hg0 : wo.grownBy (wo.alloc (.cells #[.slice bA bn bc, .slice none 0 0, .int .i64 (bnum : Int)] 88)) none := World.grownBy_alloc wo _ none
      obtain ⟨w0, hw0⟩ : ∃ w0, wo.alloc (.cells #[.slice bA bn bc, .slice none 0 0, .int .i64 (bnum : Int)] 88) = w0 := ⟨_, rfl⟩
      rw [hw0] at hbox hxs0 hg0 ⊢
      have HBOX := Lib.hid hbox; have HG0 := Lib.hid hg0
      have hgh : some wo.heap.size ≠ (Value.slice bA bn bc).ownBlock := by
        intro he
        have := (HXS.out.lt wo.heap.size he.symm).2
        omega
      have HGH := Lib.hid hgh
      have Q0 : Hid (QRel byteK w0 base bA bn bc xs bnum (.int .i64 0) w0) := ⟨0, Nat.zero_le _, rfl, hxs0, World.grownBy.refl _ _⟩
      clear hw0 hbox hxs0 hg0 hgh k0 k1 k2
      go_loopw [4] (fun i w2 => QRel byteK w0 base bA bn bc xs bnum i w2) (fun i _ => bn - (intOf i).toNat)
      case atStart => exact Q0.out
      case round =>
        clear Q0
        obtain ⟨q, hq, rfl, hownq, hgq⟩ := hrel
        rw [byte_rep, byte_sz] at hownq
        have hownq : wr.ownsRow base 5 1 (.slice bA bn bc) bn (List.replicate q (mk bnum) ++ xs.drop q) := hownq
        have hboxq := (hgq.block wo.heap.size (by have := (Array.getElem?_eq_some_iff.1 HBOX.out).1; exact this) HGH.out).trans HBOX.out
        have c0 : wr.cell? ⟨wo.heap.size, 0, none⟩ = some (.slice bA bn bc) := cell_of_row wr wo.heap.size 0 _ _ (0, 0) hboxq
        have c2 : wr.cell? ⟨wo.heap.size, 2, none⟩ = some (.int .i64 (bnum : Int)) := cell_of_row wr wo.heap.size 2 _ _ (0, 0) hboxq
        have HOQ := Lib.hid hownq; have HGQ := Lib.hid hgq
        clear hboxq hownq hgq
        by_cases hqn : q < bn
        · obtain ⟨gl, hgl⟩ : ∃ gl, bA = some ⟨gl, 0, none⟩ := by
            rcases HOQ.out.2 with ⟨_, h0⟩ | ⟨g', cap, cur, hv, _⟩
            · omega
            · injection hv with h1 _ _; exact ⟨g', h1⟩
          subst hgl
          have hxl : xs.length = bn := HXS.out.1.trans (byte_sz bn)
          obtain ⟨uq, huq⟩ : ∃ u, wr.cell? ⟨gl, q, none⟩ = some u := by
            rw [HOQ.out.cellAt q (by omega)]
            exact ⟨_, List.getElem?_eq_getElem (by simp; omega)⟩
          have hfq := HOQ.out.frozenAt q
          have hne : wo.heap.size ≠ gl := fun e => HGH.out (by rw [e]; rfl)
          have hne2 : gl ≠ wo.heap.size := fun e => hne e.symm
          have hst := HOQ.out.stored q (mk bnum)
          rw [mark_set q (mk bnum) xs (by omega)] at hst
          have R : Hid (∀ N : Nat, QRel byteK w0 base (some ⟨gl, 0, none⟩) bn bc xs bnum (.int .i64 ((q : Int) + 1)) ((wr.setCell ⟨gl, q, none⟩ (mk bnum)).drewN N)) := fun N =>
            ⟨q + 1, hqn, by simp, by rw [byte_rep, byte_sz]; exact hst.1, HGQ.out.trans ⟨hst.2.os, hst.2.tape, hst.2.output, hst.2.size, hst.2.block⟩⟩
          have i1 : (q : Int) < (bn : Int) := by omega
          have i2 : (0 : Int) ≤ (q : Int) := by omega
          have s0 : (wr.setCell ⟨gl, q, none⟩ (.int .u8 (y : Int))).cell? ⟨wo.heap.size, 0, none⟩ = some (.slice (some ⟨gl, 0, none⟩) bn bc) := (World.cell?_setCell_other wr _ _ _ (fun e => by have := congrArg Addr.block e; simp at this; omega)).trans c0
          have s2 : (wr.setCell ⟨gl, q, none⟩ (.int .u8 (y : Int))).cell? ⟨wo.heap.size, 2, none⟩ = some (.int .i64 (bnum : Int)) := (World.cell?_setCell_other wr _ _ _ (fun e => by have := congrArg Addr.block e; simp at this; omega)).trans c2
          have S02 := Lib.hid (And.intro s0 s2)
          clear hst hxl s0 s2
          go_wp2
          go_region_held3 (fun w' => w'.cell? ⟨wo.heap.size, 0, none⟩ = some (.slice (some ⟨gl, 0, none⟩) bn bc) ∧ w'.cell? ⟨wo.heap.size, 2, none⟩ = some (.int .i64 (bnum : Int))) (first | exact ⟨c0, c2⟩ | exact S02.out)
            (first | (go_at_call 85; refine (HM.out _).mono ?_; rintro e w' ⟨rfl, rfl⟩))
          go_wp2
          go_roundw
          case rel => have q := R.out 1; rw [HMK.out] at q; exact q
          case measure => simp [intOf]; omega
        · obtain rfl : q = bn := by omega
          have hxl : xs.length = q := HXS.out.1.trans (byte_sz q)
          have hfin := HOQ.out
          rw [List.drop_eq_nil_of_le (by omega), List.append_nil] at hfin
          have hrow : ∀ j, (Value.slice bA q bc).ownBlock = some j → base ≤ j ∧ j < wo.heap.size := HXS.out.lt
          have hgw : wo.grownBy wr (Value.slice bA q bc).ownBlock := by
            refine ⟨HGQ.out.os.trans HG0.out.os, HGQ.out.tape.trans HG0.out.tape, HGQ.out.output.trans HG0.out.output, Nat.le_trans HG0.out.size HGQ.out.size, fun j hj hne => ?_⟩
            rw [HGQ.out.block j (Nat.lt_of_lt_of_le hj HG0.out.size) hne]
            exact HG0.out.block j hj (by simp)
          have R : Hid (FRel byteK w base g cs (.slice (some ⟨gv, 0, none⟩) ls.length cv) ls (.int .i64 ((m : Int) + 1)) wr) := by
            have hgb : some g ≠ (Value.slice bA q bc).ownBlock := HB.out.not_own HXS.out (by decide)
            have hov : (Value.slice (some ⟨gv, 0, none⟩) ls.length cv).ownBlock = none ∨ (Value.slice (some ⟨gv, 0, none⟩) ls.length cv).ownBlock ≠ (Value.slice bA q bc).ownBlock :=
              own_neB HOWN.out HXS.out (by decide)
            refine ⟨m + 1, hlt, by simp, HB.out.grown hgw hgb, HOWN.out.kept hgw hov, ?_, wrote_grown HBEL.out hgw (fun j hj => .inl ⟨_, List.mem_of_getElem? HBM.out, hj⟩)⟩
            intro i b hi
            by_cases him : i = m
            · subst him
              rw [HBM.out] at hi
              injection hi with hi
              subst hi
              exact ⟨_, hfin, fun _ => (byte_rep _ _).symm⟩
            · obtain ⟨ys, hys, hys2⟩ := HF.out i b hi
              refine ⟨ys, hys.kept hgw (HD.out i m b _ him hi HBM.out), fun h => hys2 (by omega)⟩
          clear hfin hgw hrow hxl
          go_wp2
          go_roundw
          case rel => exact R.out
          case measure => simp [intOf]; omega
    · obtain rfl : m = ls.length := by omega
      have R : Hid (FRel byteK w base g cs (.slice Av ls.length cv) ls (.int .i64 (ls.length : Int)) wr) := ⟨ls.length, Nat.le_refl _, rfl, HB.out, HOWN.out, HF.out, HBEL.out⟩
      go_wp2
      go_end0
      exact ⟨rfl, R.out⟩
end Go.Proofs.YtbbimfbkllellaaGreatDoor

namespace Go.Proofs.YtbbimfbkllellaaGreatDoor
open Go.RowKit
set_option linter.unusedVariables false
set_option maxRecDepth 100000

theorem byte_infoK : (Tryz.prog.info? 5).map (fun i => (i.zero, i.size, i.bytes)) = some (some (.int .u8 0), 1, 1) := by kernel_rfl

set_option maxRecDepth 100000 in
set_option maxHeartbeats 4000000 in
theorem growByte_bk (g base : Nat) (cs : Array Value) (vb : Value) (ls : List BL) (gs0 : List (BL × Value)) (w : World) (hB : BkIs w g cs) (hcs1 : cs[1]? = some vb) (hgs0 : gs0.map Prod.fst = ls) (hown : w.ownsRow base 88 3 vb ls.length (heldG gs0)) (hG : Grw byteK w base gs0 0) (hD : DisG w gs0) (hbase : base ≤ w.heap.size) (hl : ls.length ≤ 1000)
    (hb : ∀ b ∈ ls, b.n ≤ 1099511627776 ∧ b.num ≤ 1000000) :
    Calls Tryz.prog 40 #[.pointer (some ⟨g, 0, none⟩)] w fun e w' => e = .returned (.tuple #[]) ∧ GRelB byteK w base g cs vb ls (.int .i64 (ls.length : Int)) w' := by
  obtain ⟨i0, hi, hz0, hz1, hz2⟩ := info_parts byte_infoK
  have H0 : Hid (GRelB byteK w base g cs vb ls (.int .i64 0) w) := ⟨0, gs0, Nat.zero_le _, rfl, hgs0, hB, hown, hG, hD, Wrote.refl _ _⟩
  have HBD := Lib.hid hb; have HC1 := Lib.hid hcs1
  have HLO : Hid (∀ i, (Bks ls i ∨ vb.ownBlock = some i) → base ≤ i) := fun i hi => by
    rcases hi with ⟨b, hbm, hbi⟩ | hi
    · rw [← hgs0] at hbm
      obtain ⟨⟨b', lv⟩, hp, rfl⟩ := List.mem_map.1 hbm
      obtain ⟨j, hj⟩ := List.getElem?_of_mem hp
      exact (World.ownsRow.lt (hG j _ _ hj).1 i hbi).1
    · exact (hown.lt i hi).1
  clear hB hown hG hD hb hgs0 hcs1
  go_enter Tryz.func40, Tryz.ntmps40
  go_wp2
  go_loopw [2] (fun i wr => GRelB byteK w base g cs vb ls i wr) (fun i _ => ls.length - (intOf i).toNat)
  case atStart => exact H0.out
  case round =>
    clear H0
    obtain ⟨m, gs, hm, rfl, hgs, hB, hown, hG, hD, hbel⟩ := hrel
    have hc1 : wr.cell? ⟨g, 1, none⟩ = some vb := (hB.cell 1).trans HC1.out
    obtain ⟨Av, cv, rfl, hncv, hcmv, _⟩ := own_shape hown
    have HGS := Lib.hid hgs; have HB := Lib.hid hB; have HOWN := Lib.hid hown; have HG := Lib.hid hG; have HD := Lib.hid hD; have HBEL := Lib.hid hbel
    clear hgs hB hown hG hD hbel
    by_cases hlt : m < ls.length
    · have hgl : gs.length = ls.length := by rw [← HGS.out]; simp
      obtain ⟨⟨⟨bA, bn, bc, bnum⟩, lv⟩, hbm⟩ : ∃ p, gs[m]? = some p := ⟨gs[m]'(by omega), List.getElem?_eq_getElem (by omega)⟩
      obtain ⟨hMk, _, hnil⟩ := HG.out m _ _ hbm
      have hlv := hnil (Nat.le_refl _)
      subst hlv
      have HBM := Lib.hid hbm
      obtain ⟨gv, hgv⟩ : ∃ gv, Av = some ⟨gv, 0, none⟩ := by
        rcases HOWN.out.2 with ⟨_, h0⟩ | ⟨g', cap, cur, hv, _⟩
        · omega
        · injection hv with h1 _ _; exact ⟨g', h1⟩
      subst hgv
      have k0 : wr.cell? ⟨gv, m * 3, none⟩ = some (.slice bA bn bc) := by rw [HOWN.out.cellAt (m * 3) (by omega), Nat.mul_comm]; exact heldG_at gs m 0 _ hbm (by decide)
      have k1 : wr.cell? ⟨gv, m * 3 + 1, none⟩ = some (.slice none 0 0) := by rw [HOWN.out.cellAt (m * 3 + 1) (by omega), Nat.mul_comm]; exact heldG_at gs m 1 _ hbm (by decide)
      have k2 : wr.cell? ⟨gv, m * 3 + 2, none⟩ = some (.int .i64 (bnum : Int)) := by rw [HOWN.out.cellAt (m * 3 + 2) (by omega), Nat.mul_comm]; exact heldG_at gs m 2 _ hbm (by decide)
      have hcmv2 : cv ≤ 9223372036854775807 := hcmv
      have hmem : (⟨bA, bn, bc, bnum⟩ : BL) ∈ ls := by rw [← HGS.out]; exact List.mem_map_of_mem (f := Prod.fst) (List.mem_of_getElem? hbm)
      have hbd := HBD.out _ hmem
      have hbn : bn ≤ 1099511627776 := hbd.1
      have hbnum : bnum ≤ 1000000 := hbd.2
      have HMARK := Lib.hid hMk
      clear hbm hcmv hbd hMk hnil hmem hgl
      obtain ⟨wo, rfl⟩ : ∃ wo : World, wo = wr := ⟨_, rfl⟩
      obtain ⟨y, hy⟩ : ∃ y, 1 + bnum % 250 = y := ⟨_, rfl⟩
      have hyl : y < 256 := by omega
      have hmk : mk bnum = .int .u8 (y : Int) := by unfold mk; rw [hy]
      have HMK := Lib.hid hmk
      have HM : Hid (∀ W, Calls Tryz.prog 85 #[.int .i64 (bnum : Int)] W fun e w' => e = .returned (.int .u8 (y : Int)) ∧ W = w') := fun W => by
        have := markByte_any bnum W hbnum
        rw [hmk] at this
        exact this
      have HLW := Lib.hid (HBEL.out.below HLO.out hbase)
      clear hy hmk
      have hbox : (wo.alloc (.cells #[.slice bA bn bc, .slice none 0 0, .int .i64 (bnum : Int)] 88)).heap[wo.heap.size]? = some (.cells #[.slice bA bn bc, .slice none 0 0, .int .i64 (bnum : Int)] 88 (0, 0)) := heap_alloc_new wo _
      have hMk0 : Marked byteK (wo.alloc (.cells #[.slice bA bn bc, .slice none 0 0, .int .i64 (bnum : Int)] 88)) base ⟨bA, bn, bc, bnum⟩ := World.ownsRow.alloc HMARK.out _
      have hg0 : wo.grownBy (wo.alloc (.cells #[.slice bA bn bc, .slice none 0 0, .int .i64 (bnum : Int)] 88)) none := World.grownBy_alloc wo _ none
      obtain ⟨w0, hw0⟩ : ∃ w0, w0 = wo.alloc (.cells #[.slice bA bn bc, .slice none 0 0, .int .i64 (bnum : Int)] 88) := ⟨_, rfl⟩
      rw [← hw0] at hbox hMk0 hg0
      have HBOX := Lib.hid hbox; have HG0 := Lib.hid hg0; have HMK0 := Lib.hid hMk0
      have HW0 := Lib.hid hw0
      have hgh : some wo.heap.size ≠ (Value.slice bA bn bc).ownBlock := by
        intro he
        have := (World.ownsRow.lt HMARK.out wo.heap.size he.symm).2
        omega
      have HGH := Lib.hid hgh
      have Q0 : Hid (GQ byteK w0 base ⟨bA, bn, bc, bnum⟩ (.slice bA bn bc) (.int .i64 0) w0) := ⟨0, bA, bc, Nat.zero_le _, rfl, rfl, hMk0, hMk0, World.grownBy.refl _ _, .inl ⟨rfl, rfl⟩⟩
      clear hbox hMk0 hg0 hgh hw0
      go_wp2
      rw [← HW0.out]
      go_loopw [4, 5] (fun v i w2 => GQ byteK w0 base ⟨bA, bn, bc, bnum⟩ v i w2) (fun _ i _ => 40 - (intOf i).toNat)
      case atStart => exact Q0.out
      case round =>
        clear Q0 k0 k1 k2 hc1
        obtain ⟨q, A, c, hq, rfl, rfl, hownq, hMq, hgq, hFq⟩ := hrel
        have hownq' : wr.ownsRow base 5 1 (.slice A (bn + q) c) (bn + q) (List.replicate (bn + q) (mk bnum)) := by rw [← byte_rep]; exact hownq
        have hboxq := (hgq.block wo.heap.size (by have := (Array.getElem?_eq_some_iff.1 HBOX.out).1; exact this) HGH.out).trans HBOX.out
        have c2 : wr.cell? ⟨wo.heap.size, 2, none⟩ = some (.int .i64 (bnum : Int)) := cell_of_row wr wo.heap.size 2 _ _ (0, 0) hboxq
        have hbs : base ≤ wr.heap.size := by
          have h1 := HBEL.out.size
          have h2 := HG0.out.size
          have h3 := hgq.size
          omega
        have HOQ := Lib.hid hownq'; have HMQ := Lib.hid hMq; have HGQ := Lib.hid hgq; have HFQ := Lib.hid hFq
        have hltb : Hid (∀ j, (BL.v ⟨bA, bn, bc, bnum⟩).ownBlock = some j → j < w0.heap.size) := fun j hj => (World.ownsRow.lt HMK0.out j hj).2
        clear hownq hownq' hMq hgq hFq hboxq
        by_cases hqn : q < 40
        · by_cases hfit : bn + q + 1 ≤ c
          · obtain ⟨gl, hgl⟩ : ∃ gl, A = some ⟨gl, 0, none⟩ := by
              rcases HOQ.out.2 with ⟨h0, _⟩ | ⟨g', cap, cur, hv, _⟩
              · injection h0 with _ _ h2; omega
              · injection hv with h1 _ _; exact ⟨g', h1⟩
            subst hgl
            have ho1 := HOQ.out.alloc (.cells #[.int .u8 (y : Int)] 5)
            go_wp2_with (first
              | (go_at_call 85; refine (HM.out _).mono ?_; rintro e w' ⟨rfl, rfl⟩)
              | (at_builtin; refine wpList_append_fits _ rfl (.tmp 28) (.tmp 32) 22 rfl base 5 i0 1 Tryz.underlying22 hi hz1 gl (bn + q) c _ rfl ho1 ⟨wr.heap.size, 0, none⟩ 1 1 [.int .u8 (y : Int)] rfl rfl ?c1 ?c2 hfit ?_))
            case c1 =>
              intro j u hu
              obtain ⟨ad, v, e1, _, hx, hcc⟩ := (one_lies (w := wr) rfl (.int .u8 (y : Int)) 5).spot j (by rcases List.getElem?_eq_some_iff.1 hu with ⟨h, _⟩; exact h)
              injection e1 with e1
              subst e1
              rw [hu] at hx
              injection hx with hx
              subst hx
              exact hcc
            case c2 => intro u hu; simp at hu; subst hu; rfl
            intro w3 hown3 hg3
            rw [← HMK.out] at hown3
            have hown3' : w3.ownsRow base byteK.e byteK.sz (.slice (some ⟨gl, 0, none⟩) (bn + q + 1) c) (bn + q + 1) (rep (byteK.mark bnum) (bn + q) ++ byteK.mark bnum) := by rw [byte_rep]; exact hown3
            have R := Lib.hid (GQ.fits (K := byteK) (b := ⟨bA, bn, bc, bnum⟩) hqn hltb.out HMQ.out HGQ.out HFQ.out (World.grownBy_alloc wr _ none) hown3' hg3)
            clear hown3 hown3' hg3 ho1 c2
            go_wp2
            go_roundw
            case rel => exact R.out
            case measure => simp [intOf]; omega
          · have hcn : c < bn + q + 1 := by omega
            have hnone : A = none → bn + q = 0 ∧ c = 0 := by
              intro hA
              rcases HOQ.out.2 with ⟨h0, h1⟩ | ⟨g', cap, cur, hv, _⟩
              · injection h0 with _ _ h2; exact ⟨h1, h2⟩
              · injection hv with h1 _ _; rw [hA] at h1; cases h1
            have hcells : ∀ b, A = some b → ∀ (j : Nat) (u : Value), (List.replicate (bn + q) (mk bnum))[j]? = some u → (wr.alloc (.cells #[.int .u8 (y : Int)] 5)).cell? (b.add j) = some u := by
              intro b hb j u hu
              obtain ⟨ad, v, e1, hbb, hx, hcc⟩ := (Lies.of_own HOQ.out).spot j (by rcases List.getElem?_eq_some_iff.1 hu with ⟨h, _⟩; exact h)
              rw [hb] at e1
              injection e1 with e1
              subst e1
              rw [hu] at hx
              injection hx with hx
              subst hx
              rw [World.cell?_alloc_lt _ _ _ (by rw [add_block]; exact hbb)]
              exact hcc
            have HCELLS := Lib.hid hcells; have HNONE := Lib.hid hnone
            clear hcells hnone
            go_wp2_with (first
              | (go_at_call 85; refine (HM.out _).mono ?_; rintro e w' ⟨rfl, rfl⟩)
              | (at_builtin; refine wpList_append_grows _ rfl (.tmp 28) (.tmp 32) 22 rfl 5 i0 _ 1 1 Tryz.underlying22 hi hz0 hz1 hz2 rfl (by decide) A (bn + q) c (List.replicate (bn + q) (mk bnum)) rfl HNONE.out (by simp) HCELLS.out ⟨wr.heap.size, 0, none⟩ 1 1 [.int .u8 (y : Int)] rfl rfl ?d1 ?d2 hcn (by unfold maxLen; omega) (by omega) ?_))
            case d1 =>
              intro j u hu
              obtain ⟨ad, v, e1, _, hx, hcc⟩ := (one_lies (w := wr) rfl (.int .u8 (y : Int)) 5).spot j (by rcases List.getElem?_eq_some_iff.1 hu with ⟨h, _⟩; exact h)
              injection e1 with e1
              subst e1
              rw [hu] at hx
              injection hx with hx
              subst hx
              exact hcc
            case d2 => intro u hu; simp at hu; subst hu; rfl
            intro v3 w3 hown3 hg3
            rw [← HMK.out] at hown3
            have hown4 : w3.ownsRow (wr.alloc (.cells #[.int .u8 (y : Int)] 5)).heap.size 5 1 v3 (bn + q + 1) (List.replicate (bn + q) (mk bnum) ++ [mk bnum]) := by rw [World.size_alloc]; exact hown3
            have hown5 : w3.ownsRow (wr.alloc (.cells #[.int .u8 (y : Int)] 5)).heap.size byteK.e byteK.sz v3 (bn + q + 1) (rep (byteK.mark bnum) (bn + q) ++ byteK.mark bnum) := by rw [byte_rep]; exact hown4
            have R := Lib.hid (GQ.moves (K := byteK) (b := ⟨bA, bn, bc, bnum⟩) hqn (by simp; omega) HMQ.out HGQ.out (World.grownBy_alloc wr _ none) hown5 hg3)
            clear hown4 hown5
            clear hown3 hg3 c2
            go_wp2
            go_roundw
            case rel => exact R.out
            case measure => simp [intOf]; omega
        · obtain rfl : q = 40 := by omega
          have hgw : wo.grownBy wr (Value.slice bA bn bc).ownBlock := by
            refine ⟨HGQ.out.os.trans HG0.out.os, HGQ.out.tape.trans HG0.out.tape, HGQ.out.output.trans HG0.out.output, Nat.le_trans HG0.out.size HGQ.out.size, fun j hj hne => ?_⟩
            rw [HGQ.out.block j (Nat.lt_of_lt_of_le hj HG0.out.size) hne]
            exact HG0.out.block j hj (by simp)
          have hBw : BkIs wr g cs := HB.out.grown hgw (HB.out.not_own HMARK.out (by decide))
          have hOw := HOWN.out.kept hgw (own_neB HOWN.out HMARK.out (by decide))
          have hFw : A = bA ∧ c = bc ∨ ∀ j, (Value.slice A (bn + 40) c).ownBlock = some j → wo.heap.size ≤ j := by
            rcases HFQ.out with h | h
            · exact .inl h
            · exact .inr fun j hj => Nat.le_trans HG0.out.size (h j hj)
          have hOQ2 : wr.ownsRow base byteK.e byteK.sz (.slice A (bn + 40) c) (bn + 40) (rep (byteK.mark bnum) (bn + 40)) := by rw [byte_rep]; exact HOQ.out
          have hst := grow_step (K := byteK) (b := ⟨bA, bn, bc, bnum⟩) (Nat.le_trans hbase HBEL.out.size) HG.out HD.out HBM.out hOQ2 HMQ.out hgw hFw hOw
          have hsto := hOw.stored (3 * m + 1) (.slice A (bn + 40) c)
          rw [heldG_set gs m _ _ _ HBM.out] at hsto
          have R : Hid (GRelB byteK w base g cs (.slice (some ⟨gv, 0, none⟩) ls.length cv) ls (.int .i64 ((m : Int) + 1)) (wr.setCell ⟨gv, m * 3 + 1, none⟩ (.slice A (bn + 40) c))) := by
            rw [Nat.mul_comm m 3]
            refine ⟨m + 1, gs.set m (⟨bA, bn, bc, bnum⟩, .slice A (bn + 40) c), hlt, by simp, ?_, hBw.grown hsto.2 (hBw.not_own hOw (by decide)), hsto.1, hst.1, hst.2, ?_⟩
            · rw [List.map_set, HGS.out]
              apply List.ext_getElem?
              intro i
              by_cases him : i = m
              · subst him
                rw [List.getElem?_set_self hlt, ← HGS.out, List.getElem?_map, HBM.out]; rfl
              · rw [List.getElem?_set_ne (fun e => him e.symm)]
            · exact (wrote_grown HBEL.out hgw (fun j hj => .inl (.inl ⟨(⟨bA, bn, bc, bnum⟩ : BL), by rw [← HGS.out]; exact List.mem_map_of_mem (f := Prod.fst) (List.mem_of_getElem? HBM.out), hj⟩))).set (p := ⟨gv, 3 * m + 1, none⟩) (.inr rfl) _
          have hcb : wr.cell? ⟨g, 1, none⟩ = some (.slice (some ⟨gv, 0, none⟩) ls.length cv) := (hBw.cell 1).trans HC1.out
          obtain ⟨uo, huo⟩ : ∃ u, wr.cell? ⟨gv, m * 3 + 1, none⟩ = some u := by
            rw [hOw.cellAt (m * 3 + 1) (by omega)]
            exact ⟨_, List.getElem?_eq_getElem (by have := hOw.1; omega)⟩
          have hfo := hOw.frozenAt (m * 3 + 1)
          clear hst hsto hgw hBw hOw hOQ2 hFw c2
          go_wp2
          go_roundw
          case rel => exact R.out
          case measure => simp [intOf]; omega
    · obtain rfl : m = ls.length := by omega
      have R : Hid (GRelB byteK w base g cs (.slice Av ls.length cv) ls (.int .i64 (ls.length : Int)) wr) := ⟨ls.length, gs, Nat.le_refl _, rfl, HGS.out, HB.out, HOWN.out, HG.out, HD.out, HBEL.out⟩
      go_wp2
      go_end0
      exact ⟨rfl, R.out⟩
end Go.Proofs.YtbbimfbkllellaaGreatDoor

namespace Go.Proofs.YtbbimfbkllellaaGreatDoor
open Go.RowKit
set_option linter.unusedVariables false
set_option maxRecDepth 100000

theorem quiet_l {P : Program} {f : FuncId} {args : Array Value} {w : World} {n : Nat} {v : Value} (h : Calls P f args (w.drewN n) fun e w' => e = .returned v ∧ w.drewN n = w') : Calls P f args (w.drewN n) fun e w'' => e = .returned v ∧ ∃ m, w'' = w.drewN m :=
  h.mono fun _ _ ⟨he, hm⟩ => ⟨he, n, hm.symm⟩
theorem quiet_al {P : Program} {f : FuncId} {args : Array Value} {w : World} {a n : Nat} {v : Value} (h : Calls P f args (w.drewN (a + n)) fun e w' => e = .returned v ∧ w.drewN (a + n) = w') : Calls P f args (w.drewN (a + n)) fun e w'' => e = .returned v ∧ ∃ m, w'' = w.drewN (a + m) :=
  h.mono fun _ _ ⟨he, hm⟩ => ⟨he, n, hm.symm⟩
theorem grown_drewN {a w : World} {row : Option Nat} (h : a.grownBy w row) (n : Nat) : a.grownBy (w.drewN n) row := ⟨h.os, h.tape, h.output, h.size, h.block⟩

set_option maxRecDepth 100000 in
set_option maxHeartbeats 4000000 in
theorem lookByte_bk (g base : Nat) (cs : Array Value) (vb : Value) (gs : List (BL × Value)) (w : World) (hB : BkIs w g cs) (hcs1 : cs[1]? = some vb) (hown : w.ownsRow base 88 3 vb gs.length (heldG gs)) (hG : Grw byteK w base gs gs.length) (hl : gs.length ≤ 1000)
    (hb : ∀ p ∈ gs, p.1.n ≤ 1099511627776 ∧ p.1.num ≤ 1000000) :
    Calls Tryz.prog 53 #[.pointer (some ⟨g, 0, none⟩)] w fun e w' => e = .returned (.bool true) ∧ w.grownBy w' none := by
  have HB := Lib.hid hB; have HOWN := Lib.hid hown; have HG := Lib.hid hG; have HBD := Lib.hid hb; have HC1 := Lib.hid hcs1
  clear hB hown hG hb hcs1
  go_enter Tryz.func53, Tryz.ntmps53
  go_wp2
  go_loopw [3] (fun i wr => ∃ m : Nat, m ≤ gs.length ∧ i = .int .i64 (m : Int) ∧ w.grownBy wr none) (fun i _ => gs.length - (intOf i).toNat)
  case atStart => exact ⟨0, Nat.zero_le _, rfl, World.grownBy.refl _ _⟩
  case round =>
    obtain ⟨m, hm, rfl, hgr⟩ := hrel
    have hBr := HB.out.grown hgr (by simp)
    have hOr := own_none HOWN.out hgr
    have hc1 : wr.cell? ⟨g, 1, none⟩ = some vb := (hBr.cell 1).trans HC1.out
    obtain ⟨Av, cv, hvb, hncv, hcmv, _⟩ := own_shape hOr
    subst hvb
    have HGR := Lib.hid hgr
    clear hgr hBr
    by_cases hlt : m < gs.length
    · obtain ⟨⟨⟨bA, bn, bc, bnum⟩, lv⟩, hbm⟩ : ∃ p, gs[m]? = some p := ⟨gs[m], List.getElem?_eq_getElem hlt⟩
      obtain ⟨hMk, hLg, _⟩ := HG.out m _ _ hbm
      have hLg := own_none (hLg hlt) HGR.out
      have hMk : wr.ownsRow base 5 1 (.slice bA bn bc) bn (List.replicate bn (mk bnum)) := by rw [← byte_rep]; exact own_none hMk HGR.out
      obtain ⟨lA, lc, hlv, hlnc, hlcm, _⟩ := own_shape hLg
      subst hlv
      have hLg : wr.ownsRow base 5 1 (.slice lA (bn + 40) lc) (bn + 40) (List.replicate (bn + 40) (mk bnum)) := by rw [← byte_rep]; exact hLg
      obtain ⟨gv, hgv⟩ : ∃ gv, Av = some ⟨gv, 0, none⟩ := by
        rcases hOr.2 with ⟨_, h0⟩ | ⟨g', cap, cur, hv, _⟩
        · omega
        · injection hv with h1 _ _; exact ⟨g', h1⟩
      subst hgv
      have k0 : wr.cell? ⟨gv, m * 3, none⟩ = some (.slice bA bn bc) := by rw [hOr.cellAt (m * 3) (by omega), Nat.mul_comm]; exact heldG_at gs m 0 _ hbm (by decide)
      have k1 : wr.cell? ⟨gv, m * 3 + 1, none⟩ = some (.slice lA (bn + 40) lc) := by rw [hOr.cellAt (m * 3 + 1) (by omega), Nat.mul_comm]; exact heldG_at gs m 1 _ hbm (by decide)
      have k2 : wr.cell? ⟨gv, m * 3 + 2, none⟩ = some (.int .i64 (bnum : Int)) := by rw [hOr.cellAt (m * 3 + 2) (by omega), Nat.mul_comm]; exact heldG_at gs m 2 _ hbm (by decide)
      have hbd := HBD.out _ (List.mem_of_getElem? hbm)
      have hbn : bn ≤ 1099511627776 := hbd.1
      have hbnum : bnum ≤ 1000000 := hbd.2
      have hcmv2 : cv ≤ 9223372036854775807 := hcmv
      have HMk := Lib.hid hMk; have HLg := Lib.hid hLg
      have hlen : ((bn : Int) + 40 != (bn : Int) + 40) = false := by simp
      clear hbm hcmv hbd hMk hLg hOr hlcm
      obtain ⟨wo, rfl⟩ : ∃ wo : World, wo = wr := ⟨_, rfl⟩
      obtain ⟨y, hy⟩ : ∃ y, 1 + bnum % 250 = y := ⟨_, rfl⟩
      have hyl : y < 256 := by omega
      have HMK : Hid (mk bnum = .int .u8 (y : Int)) := by unfold mk Hid; rw [hy]
      have HIS : Hid (∀ W, Calls Tryz.prog 98 #[.int .u8 (y : Int), .int .i64 (bnum : Int)] W fun e w' => e = .returned (.bool true) ∧ W = w') := fun W => isByte_any y bnum W hbnum hy.symm
      clear hy
      have hbox : (wo.alloc (.cells #[.slice bA bn bc, .slice lA (bn + 40) lc, .int .i64 (bnum : Int)] 88)).heap[wo.heap.size]? = some (.cells #[.slice bA bn bc, .slice lA (bn + 40) lc, .int .i64 (bnum : Int)] 88 (0, 0)) := heap_alloc_new wo _
      have hg0 : wo.grownBy (wo.alloc (.cells #[.slice bA bn bc, .slice lA (bn + 40) lc, .int .i64 (bnum : Int)] 88)) none := World.grownBy_alloc wo _ none
      obtain ⟨w0, hw0⟩ : ∃ w0, w0 = wo.alloc (.cells #[.slice bA bn bc, .slice lA (bn + 40) lc, .int .i64 (bnum : Int)] 88) := ⟨_, rfl⟩
      rw [← hw0] at hbox hg0
      have HW0 := Lib.hid hw0; have HG0 := Lib.hid hg0
      have c0 : w0.cell? ⟨wo.heap.size, 0, none⟩ = some (.slice bA bn bc) := cell_of_row w0 wo.heap.size 0 _ _ (0, 0) hbox
      have c1 : w0.cell? ⟨wo.heap.size, 1, none⟩ = some (.slice lA (bn + 40) lc) := cell_of_row w0 wo.heap.size 1 _ _ (0, 0) hbox
      have c2 : w0.cell? ⟨wo.heap.size, 2, none⟩ = some (.int .i64 (bnum : Int)) := cell_of_row w0 wo.heap.size 2 _ _ (0, 0) hbox
      have LM := Lib.hid (Lies.of_own (own_none HMk.out hg0)); have LL := Lib.hid (Lies.of_own (own_none HLg.out hg0))
      clear hw0 hbox hg0
      have C012 := Lib.hid (And.intro c0 (And.intro c1 c2))
      clear c0 c1 c2
      go_wp2
      rw [← HW0.out]
      go_loopw [5] (fun i w2 => ∃ k q : Nat, k ≤ bn + 40 ∧ i = .int .i64 (k : Int) ∧ w2 = w0.drewN q) (fun i _ => bn + 40 - (intOf i).toNat)
      case atStart => exact ⟨0, 0, Nat.zero_le _, rfl, rfl⟩
      case round =>
        clear k0 k1 k2 hc1
        obtain ⟨k, q, hk, rfl, rfl⟩ := hrel
        obtain ⟨c0, c1, c2⟩ := C012.out
        by_cases hkn : k < bn + 40
        · obtain ⟨gl, ol, ul, hlA, _, hul, hcl⟩ := LL.out.at_ (j := k) hkn
          subst hlA
          have hul2 : ul = .int .u8 (y : Int) := by
            rw [List.getElem?_replicate, if_pos hkn, HMK.out] at hul
            injection hul with hul
            exact hul.symm
          subst hul2
          have i1 : (k : Int) < (bn : Int) + 40 := by omega
          have i2 : (0 : Int) ≤ (k : Int) := by omega
          clear hul
          by_cases hkb : k < bn
          · obtain ⟨gb, ob, ub, hbA, _, hub, hcb⟩ := LM.out.at_ (j := k) hkb
            subst hbA
            have hub2 : ub = .int .u8 (y : Int) := by
              rw [List.getElem?_replicate, if_pos hkb, HMK.out] at hub
              injection hub with hub
              exact hub.symm
            subst hub2
            have i3 : (k : Int) < (bn : Int) := by omega
            have d1 : decide (k < bn) = true := by simp; omega
            have d1' : decide ((k : Int) < (bn : Int)) = true := by simp; omega
            clear hub
            go_wp2
            go_quiet ((go_at_call 98; exact quiet_al (HIS.out _)))
            go_wp2
            go_roundw
            case rel => exact ⟨k + 1, _, hkn, by go_num, by first | rfl | (rw [World.drewN_drewN])⟩
            case measure => simp [intOf]; omega
          · have d1 : decide (k < bn) = false := by simp; omega
            have d1' : decide ((k : Int) < (bn : Int)) = false := by simp; omega
            go_wp2
            go_quiet ((go_at_call 98; exact quiet_al (HIS.out _)))
            go_wp2
            go_roundw
            case rel => exact ⟨k + 1, _, hkn, by go_num, by first | rfl | (rw [World.drewN_drewN])⟩
            case measure => simp [intOf]; omega
        · have R : Hid (w.grownBy (w0.drewN q) none) := grown_drewN (HGR.out.trans HG0.out) q
          go_wp2
          go_roundw
          case rel => exact ⟨m + 1, hlt, by go_num, R.out⟩
          case measure => simp [intOf]; omega
    · obtain rfl : m = gs.length := by omega
      go_wp2
      go_ret
      exact ⟨rfl, HGR.out⟩
end Go.Proofs.YtbbimfbkllellaaGreatDoor

