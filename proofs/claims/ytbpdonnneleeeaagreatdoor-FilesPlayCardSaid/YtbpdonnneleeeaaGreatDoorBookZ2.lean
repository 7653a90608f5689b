/-
  The laws' Book: the walk of lookByte.
  The laws' Book: lists of kinds that it keeps none of.
  The laws' Book: Apart, of any number of lists of bytes, each in memory of its own.
  The Book of a law, as a law uses it: begun, byte lists kept one by one, asked.
  What laws that keep a Book share: the same bytes; a twin and two answers that lie apart.
-/
import Derived.Test.YtbpdonnneleeeaaGreatDoorBookZ1
import Derived.Test.YtbpdonnneleeeaaGreatDoorMemZ
namespace Go.Proofs.YtbpdonnneleeeaaGreatDoor
open Go.RowKit
set_option linter.unusedVariables false

theorem quiet_l {P : Program} {f : FuncId} {args : Array Value} {w : World} {n : Nat} {v : Value} (h : Calls P f args (w.drewN n) fun e w' => e = .returned v ∧ w.drewN n = w') : Calls P f args (w.drewN n) fun e w'' => e = .returned v ∧ ∃ m, w'' = w.drewN m :=
  h.mono fun _ _ ⟨he, hm⟩ => ⟨he, n, hm.symm⟩
theorem quiet_al {P : Program} {f : FuncId} {args : Array Value} {w : World} {a n : Nat} {v : Value} (h : Calls P f args (w.drewN (a + n)) fun e w' => e = .returned v ∧ w.drewN (a + n) = w') : Calls P f args (w.drewN (a + n)) fun e w'' => e = .returned v ∧ ∃ m, w'' = w.drewN (a + m) :=
  h.mono fun _ _ ⟨he, hm⟩ => ⟨he, n, hm.symm⟩
theorem grown_drewN {a w : World} {row : Option Nat} (h : a.grownBy w row) (n : Nat) : a.grownBy (w.drewN n) row := ⟨h.os, h.tape, h.output, h.size, h.block⟩
theorem own_none {w w' : World} {base e k n : Nat} {v : Value} {xs : List Value} (h : w.ownsRow base e k v n xs) (hg : w.grownBy w' none) : w'.ownsRow base e k v n xs := h.kept hg (by cases v.ownBlock <;> simp)

set_option maxRecDepth 100000 in
set_option maxHeartbeats 4000000 in
theorem lookByte_any (g n base : Nat) (vb : Value) (gs : List (BL × Value)) (w : World) (hB : BookIs w g n vb) (hown : w.ownsRow base 128 3 vb gs.length (heldG gs)) (hG : Grw w base gs gs.length) (hl : gs.length ≤ 1000)
    (hb : ∀ p ∈ gs, p.1.n ≤ 1099511627776 ∧ p.1.num ≤ 1000000) :
    Calls Tryz.prog 89 #[.pointer (some ⟨g, 0, none⟩)] w fun e w' => e = .returned (.bool true) ∧ w.grownBy w' none := by
  have HB := Lib.hid hB; have HOWN := Lib.hid hown; have HG := Lib.hid hG; have HBD := Lib.hid hb
  clear hB hown hG hb
  go_enter Tryz.func89, Tryz.ntmps89
  go_wp2
  go_loopw [3] (fun i wr => ∃ m : Nat, m ≤ gs.length ∧ i = .int .i64 (m : Int) ∧ w.grownBy wr none) (fun i _ => gs.length - (intOf i).toNat)
  case atStart => exact ⟨0, Nat.zero_le _, rfl, World.grownBy.refl _ _⟩
  case round =>
    obtain ⟨m, hm, rfl, hgr⟩ := hrel
    have hBr := HB.out.grown hgr (by simp)
    have hOr := own_none HOWN.out hgr
    have hc1 : wr.cell? ⟨g, 1, none⟩ = some vb := hBr.cell 1
    obtain ⟨Av, cv, hvb, hncv, hcmv, _⟩ := own_shape hOr
    subst hvb
    have HGR := Lib.hid hgr
    clear hgr hBr
    by_cases hlt : m < gs.length
    · obtain ⟨⟨⟨bA, bn, bc, bnum⟩, lv⟩, hbm⟩ : ∃ p, gs[m]? = some p := ⟨gs[m], List.getElem?_eq_getElem hlt⟩
      obtain ⟨hMk, hLg, _⟩ := HG.out m _ _ hbm
      have hLg := own_none (hLg hlt) HGR.out
      have hMk : wr.ownsRow base 5 1 (.slice bA bn bc) bn (List.replicate bn (mk bnum)) := own_none hMk HGR.out
      obtain ⟨lA, lc, hlv, hlnc, hlcm, _⟩ := own_shape hLg
      subst hlv
      have hLg : wr.ownsRow base 5 1 (.slice lA (bn + 40) lc) (bn + 40) (List.replicate (bn + 40) (mk bnum)) := hLg
      obtain ⟨gv, hgv⟩ : ∃ gv, Av = some ⟨gv, 0, none⟩ := by
        rcases hOr.2 with ⟨_, h0⟩ | ⟨g', cap, cur, hv, _⟩
        · omega
        · injection hv with h1 _ _; exact ⟨g', h1⟩
      subst hgv
      have k0 : wr.cell? ⟨gv, m * 3, none⟩ = some (.slice bA bn bc) := by rw [hOr.cellAt (m * 3) (by omega), Nat.mul_comm]; exact heldG_at gs m 0 _ hbm (by decide)
      have k1 : wr.cell? ⟨gv, m * 3 + 1, none⟩ = some (.slice lA (bn + 40) lc) := by rw [hOr.cellAt (m * 3 + 1) (by omega), Nat.mul_comm]; exact heldG_at gs m 1 _ hbm (by decide)
      have k2 : wr.cell? ⟨gv, m * 3 + 2, none⟩ = some (.int .i64 (bnum : Int)) := by rw [hOr.cellAt (m * 3 + 2) (by omega), Nat.mul_comm]; exact heldG_at gs m 2 _ hbm (by decide)
      have hbd := HBD.out _ (List.mem_of_getElem? hbm)
      have hbn : bn ≤ 1099511627776 := hbd.1
      have hbnum : bnum ≤ 1000000 := hbd.2
      have hcmv2 : cv ≤ 9223372036854775807 := hcmv
      have HMk := Lib.hid hMk; have HLg := Lib.hid hLg
      have hlen : ((bn : Int) + 40 != (bn : Int) + 40) = false := by simp
      clear hbm hcmv hbd hMk hLg hOr hlcm
      obtain ⟨wo, rfl⟩ : ∃ wo : World, wo = wr := ⟨_, rfl⟩
      obtain ⟨y, hy⟩ : ∃ y, 1 + bnum % 250 = y := ⟨_, rfl⟩
      have hyl : y < 256 := by omega
      have HMK : Hid (mk bnum = .int .u8 (y : Int)) := by unfold mk Hid; rw [hy]
      have HIS : Hid (∀ W, Calls Tryz.prog 132 #[.int .u8 (y : Int), .int .i64 (bnum : Int)] W fun e w' => e = .returned (.bool true) ∧ W = w') := fun W => isByte_any y bnum W hbnum hy.symm
      clear hy
      have hbox : (wo.alloc (.cells #[.slice bA bn bc, .slice lA (bn + 40) lc, .int .i64 (bnum : Int)] 128)).heap[wo.heap.size]? = some (.cells #[.slice bA bn bc, .slice lA (bn + 40) lc, .int .i64 (bnum : Int)] 128 (0, 0)) := heap_alloc_new wo _
      have hg0 : wo.grownBy (wo.alloc (.cells #[.slice bA bn bc, .slice lA (bn + 40) lc, .int .i64 (bnum : Int)] 128)) none := World.grownBy_alloc wo _ none
      obtain ⟨w0, hw0⟩ : ∃ w0, w0 = wo.alloc (.cells #[.slice bA bn bc, .slice lA (bn + 40) lc, .int .i64 (bnum : Int)] 128) := ⟨_, rfl⟩
      rw [← hw0] at hbox hg0
      have HW0 := Lib.hid hw0; have HG0 := Lib.hid hg0
      have c0 : w0.cell? ⟨wo.heap.size, 0, none⟩ = some (.slice bA bn bc) := cell_of_row w0 wo.heap.size 0 _ _ (0, 0) hbox
      have c1 : w0.cell? ⟨wo.heap.size, 1, none⟩ = some (.slice lA (bn + 40) lc) := cell_of_row w0 wo.heap.size 1 _ _ (0, 0) hbox
      have c2 : w0.cell? ⟨wo.heap.size, 2, none⟩ = some (.int .i64 (bnum : Int)) := cell_of_row w0 wo.heap.size 2 _ _ (0, 0) hbox
      have LM := Lib.hid (Lies.of_own (own_none HMk.out hg0)); have LL := Lib.hid (Lies.of_own (own_none HLg.out hg0))
      clear hw0 hbox hg0
      have C012 := Lib.hid (And.intro c0 (And.intro c1 c2))
      clear c0 c1 c2
      go_wp2
      rw [← HW0.out]
      go_loopw [5] (fun i w2 => ∃ k q : Nat, k ≤ bn + 40 ∧ i = .int .i64 (k : Int) ∧ w2 = w0.drewN q) (fun i _ => bn + 40 - (intOf i).toNat)
      case atStart => exact ⟨0, 0, Nat.zero_le _, rfl, rfl⟩
      case round =>
        clear k0 k1 k2 hc1
        obtain ⟨k, q, hk, rfl, rfl⟩ := hrel
        obtain ⟨c0, c1, c2⟩ := C012.out
        by_cases hkn : k < bn + 40
        · obtain ⟨gl, ol, ul, hlA, _, hul, hcl⟩ := LL.out.at_ (j := k) hkn
          subst hlA
          have hul2 : ul = .int .u8 (y : Int) := by
            rw [List.getElem?_replicate, if_pos hkn, HMK.out] at hul
            injection hul with hul
            exact hul.symm
          subst hul2
          have i1 : (k : Int) < (bn : Int) + 40 := by omega
          have i2 : (0 : Int) ≤ (k : Int) := by omega
          clear hul
          by_cases hkb : k < bn
          · obtain ⟨gb, ob, ub, hbA, _, hub, hcb⟩ := LM.out.at_ (j := k) hkb
            subst hbA
            have hub2 : ub = .int .u8 (y : Int) := by
              rw [List.getElem?_replicate, if_pos hkb, HMK.out] at hub
              injection hub with hub
              exact hub.symm
            subst hub2
            have i3 : (k : Int) < (bn : Int) := by omega
            have d1 : decide (k < bn) = true := by simp; omega
            have d1' : decide ((k : Int) < (bn : Int)) = true := by simp; omega
            clear hub
            go_wp2
            go_quiet ((go_at_call 132; exact quiet_al (HIS.out _)))
            go_wp2
            go_roundw
            case rel => exact ⟨k + 1, _, hkn, by go_num, by first | rfl | (rw [World.drewN_drewN])⟩
            case measure => simp [intOf]; omega
          · have d1 : decide (k < bn) = false := by simp; omega
            have d1' : decide ((k : Int) < (bn : Int)) = false := by simp; omega
            go_wp2
            go_quiet ((go_at_call 132; exact quiet_al (HIS.out _)))
            go_wp2
            go_roundw
            case rel => exact ⟨k + 1, _, hkn, by go_num, by first | rfl | (rw [World.drewN_drewN])⟩
            case measure => simp [intOf]; omega
        · have R : Hid (w.grownBy (w0.drewN q) none) := grown_drewN (HGR.out.trans HG0.out) q
          go_wp2
          go_roundw
          case rel => exact ⟨m + 1, hlt, by go_num, R.out⟩
          case measure => simp [intOf]; omega
    · obtain rfl : m = gs.length := by omega
      go_wp2
      go_ret
      exact ⟨rfl, HGR.out⟩
end Go.Proofs.YtbpdonnneleeeaaGreatDoor

namespace Go.Proofs.YtbpdonnneleeeaaGreatDoor
open Go.RowKit
set_option linter.unusedVariables false

theorem fillId_none (g n : Nat) (vb : Value) (w : World) (hB : BookIs w g n vb) : Calls Tryz.prog 64 #[.pointer (some ⟨g, 0, none⟩)] w fun e w' => e = .returned (.tuple #[]) ∧ w = w' := by
  have hc : w.cell? ⟨g, 2, none⟩ = some (.slice none 0 0) := hB.cell 2
  clear hB
  go_enter Tryz.func64, Tryz.ntmps64
  go_wp2
  refine wp_loop_rounds 1 ?_
  rw [rounds_succ]
  go_wp2
  go_end0
  exact ⟨rfl, rfl⟩
theorem growId_none (g n : Nat) (vb : Value) (w : World) (hB : BookIs w g n vb) : Calls Tryz.prog 77 #[.pointer (some ⟨g, 0, none⟩)] w fun e w' => e = .returned (.tuple #[]) ∧ w = w' := by
  have hc : w.cell? ⟨g, 2, none⟩ = some (.slice none 0 0) := hB.cell 2
  clear hB
  go_enter Tryz.func77, Tryz.ntmps77
  go_wp2
  refine wp_loop_rounds 1 ?_
  rw [rounds_succ]
  go_wp2
  go_end0
  exact ⟨rfl, rfl⟩
theorem lookId_none (g n : Nat) (vb : Value) (w : World) (hB : BookIs w g n vb) : Calls Tryz.prog 90 #[.pointer (some ⟨g, 0, none⟩)] w fun e w' => e = .returned (.bool true) ∧ w = w' := by
  have hc : w.cell? ⟨g, 2, none⟩ = some (.slice none 0 0) := hB.cell 2
  clear hB
  go_enter Tryz.func90, Tryz.ntmps90
  go_wp2
  refine wp_loop_rounds 1 ?_
  rw [rounds_succ]
  go_wp2
  go_ret
  exact ⟨rfl, rfl⟩
theorem fillNum_none (g n : Nat) (vb : Value) (w : World) (hB : BookIs w g n vb) : Calls Tryz.prog 65 #[.pointer (some ⟨g, 0, none⟩)] w fun e w' => e = .returned (.tuple #[]) ∧ w = w' := by
  have hc : w.cell? ⟨g, 3, none⟩ = some (.slice none 0 0) := hB.cell 3
  clear hB
  go_enter Tryz.func65, Tryz.ntmps65
  go_wp2
  refine wp_loop_rounds 1 ?_
  rw [rounds_succ]
  go_wp2
  go_end0
  exact ⟨rfl, rfl⟩
theorem growNum_none (g n : Nat) (vb : Value) (w : World) (hB : BookIs w g n vb) : Calls Tryz.prog 78 #[.pointer (some ⟨g, 0, none⟩)] w fun e w' => e = .returned (.tuple #[]) ∧ w = w' := by
  have hc : w.cell? ⟨g, 3, none⟩ = some (.slice none 0 0) := hB.cell 3
  clear hB
  go_enter Tryz.func78, Tryz.ntmps78
  go_wp2
  refine wp_loop_rounds 1 ?_
  rw [rounds_succ]
  go_wp2
  go_end0
  exact ⟨rfl, rfl⟩
theorem lookNum_none (g n : Nat) (vb : Value) (w : World) (hB : BookIs w g n vb) : Calls Tryz.prog 91 #[.pointer (some ⟨g, 0, none⟩)] w fun e w' => e = .returned (.bool true) ∧ w = w' := by
  have hc : w.cell? ⟨g, 3, none⟩ = some (.slice none 0 0) := hB.cell 3
  clear hB
  go_enter Tryz.func91, Tryz.ntmps91
  go_wp2
  refine wp_loop_rounds 1 ?_
  rw [rounds_succ]
  go_wp2
  go_ret
  exact ⟨rfl, rfl⟩
theorem fillInt_none (g n : Nat) (vb : Value) (w : World) (hB : BookIs w g n vb) : Calls Tryz.prog 66 #[.pointer (some ⟨g, 0, none⟩)] w fun e w' => e = .returned (.tuple #[]) ∧ w = w' := by
  have hc : w.cell? ⟨g, 4, none⟩ = some (.slice none 0 0) := hB.cell 4
  clear hB
  go_enter Tryz.func66, Tryz.ntmps66
  go_wp2
  refine wp_loop_rounds 1 ?_
  rw [rounds_succ]
  go_wp2
  go_end0
  exact ⟨rfl, rfl⟩
theorem growInt_none (g n : Nat) (vb : Value) (w : World) (hB : BookIs w g n vb) : Calls Tryz.prog 79 #[.pointer (some ⟨g, 0, none⟩)] w fun e w' => e = .returned (.tuple #[]) ∧ w = w' := by
  have hc : w.cell? ⟨g, 4, none⟩ = some (.slice none 0 0) := hB.cell 4
  clear hB
  go_enter Tryz.func79, Tryz.ntmps79
  go_wp2
  refine wp_loop_rounds 1 ?_
  rw [rounds_succ]
  go_wp2
  go_end0
  exact ⟨rfl, rfl⟩
theorem lookInt_none (g n : Nat) (vb : Value) (w : World) (hB : BookIs w g n vb) : Calls Tryz.prog 92 #[.pointer (some ⟨g, 0, none⟩)] w fun e w' => e = .returned (.bool true) ∧ w = w' := by
  have hc : w.cell? ⟨g, 4, none⟩ = some (.slice none 0 0) := hB.cell 4
  clear hB
  go_enter Tryz.func92, Tryz.ntmps92
  go_wp2
  refine wp_loop_rounds 1 ?_
  rw [rounds_succ]
  go_wp2
  go_ret
  exact ⟨rfl, rfl⟩
theorem fillText_none (g n : Nat) (vb : Value) (w : World) (hB : BookIs w g n vb) : Calls Tryz.prog 67 #[.pointer (some ⟨g, 0, none⟩)] w fun e w' => e = .returned (.tuple #[]) ∧ w = w' := by
  have hc : w.cell? ⟨g, 5, none⟩ = some (.slice none 0 0) := hB.cell 5
  clear hB
  go_enter Tryz.func67, Tryz.ntmps67
  go_wp2
  refine wp_loop_rounds 1 ?_
  rw [rounds_succ]
  go_wp2
  go_end0
  exact ⟨rfl, rfl⟩
theorem growText_none (g n : Nat) (vb : Value) (w : World) (hB : BookIs w g n vb) : Calls Tryz.prog 80 #[.pointer (some ⟨g, 0, none⟩)] w fun e w' => e = .returned (.tuple #[]) ∧ w = w' := by
  have hc : w.cell? ⟨g, 5, none⟩ = some (.slice none 0 0) := hB.cell 5
  clear hB
  go_enter Tryz.func80, Tryz.ntmps80
  go_wp2
  refine wp_loop_rounds 1 ?_
  rw [rounds_succ]
  go_wp2
  go_end0
  exact ⟨rfl, rfl⟩
theorem lookText_none (g n : Nat) (vb : Value) (w : World) (hB : BookIs w g n vb) : Calls Tryz.prog 93 #[.pointer (some ⟨g, 0, none⟩)] w fun e w' => e = .returned (.bool true) ∧ w = w' := by
  have hc : w.cell? ⟨g, 5, none⟩ = some (.slice none 0 0) := hB.cell 5
  clear hB
  go_enter Tryz.func93, Tryz.ntmps93
  go_wp2
  refine wp_loop_rounds 1 ?_
  rw [rounds_succ]
  go_wp2
  go_ret
  exact ⟨rfl, rfl⟩
theorem fillRow_none (g n : Nat) (vb : Value) (w : World) (hB : BookIs w g n vb) : Calls Tryz.prog 68 #[.pointer (some ⟨g, 0, none⟩)] w fun e w' => e = .returned (.tuple #[]) ∧ w = w' := by
  have hc : w.cell? ⟨g, 6, none⟩ = some (.slice none 0 0) := hB.cell 6
  clear hB
  go_enter Tryz.func68, Tryz.ntmps68
  go_wp2
  refine wp_loop_rounds 1 ?_
  rw [rounds_succ]
  go_wp2
  go_end0
  exact ⟨rfl, rfl⟩
theorem growRow_none (g n : Nat) (vb : Value) (w : World) (hB : BookIs w g n vb) : Calls Tryz.prog 81 #[.pointer (some ⟨g, 0, none⟩)] w fun e w' => e = .returned (.tuple #[]) ∧ w = w' := by
  have hc : w.cell? ⟨g, 6, none⟩ = some (.slice none 0 0) := hB.cell 6
  clear hB
  go_enter Tryz.func81, Tryz.ntmps81
  go_wp2
  refine wp_loop_rounds 1 ?_
  rw [rounds_succ]
  go_wp2
  go_end0
  exact ⟨rfl, rfl⟩
theorem lookRow_none (g n : Nat) (vb : Value) (w : World) (hB : BookIs w g n vb) : Calls Tryz.prog 94 #[.pointer (some ⟨g, 0, none⟩)] w fun e w' => e = .returned (.bool true) ∧ w = w' := by
  have hc : w.cell? ⟨g, 6, none⟩ = some (.slice none 0 0) := hB.cell 6
  clear hB
  go_enter Tryz.func94, Tryz.ntmps94
  go_wp2
  refine wp_loop_rounds 1 ?_
  rw [rounds_succ]
  go_wp2
  go_ret
  exact ⟨rfl, rfl⟩
theorem fillChange_none (g n : Nat) (vb : Value) (w : World) (hB : BookIs w g n vb) : Calls Tryz.prog 69 #[.pointer (some ⟨g, 0, none⟩)] w fun e w' => e = .returned (.tuple #[]) ∧ w = w' := by
  have hc : w.cell? ⟨g, 7, none⟩ = some (.slice none 0 0) := hB.cell 7
  clear hB
  go_enter Tryz.func69, Tryz.ntmps69
  go_wp2
  refine wp_loop_rounds 1 ?_
  rw [rounds_succ]
  go_wp2
  go_end0
  exact ⟨rfl, rfl⟩
theorem growChange_none (g n : Nat) (vb : Value) (w : World) (hB : BookIs w g n vb) : Calls Tryz.prog 82 #[.pointer (some ⟨g, 0, none⟩)] w fun e w' => e = .returned (.tuple #[]) ∧ w = w' := by
  have hc : w.cell? ⟨g, 7, none⟩ = some (.slice none 0 0) := hB.cell 7
  clear hB
  go_enter Tryz.func82, Tryz.ntmps82
  go_wp2
  refine wp_loop_rounds 1 ?_
  rw [rounds_succ]
  go_wp2
  go_end0
  exact ⟨rfl, rfl⟩
theorem lookChange_none (g n : Nat) (vb : Value) (w : World) (hB : BookIs w g n vb) : Calls Tryz.prog 95 #[.pointer (some ⟨g, 0, none⟩)] w fun e w' => e = .returned (.bool true) ∧ w = w' := by
  have hc : w.cell? ⟨g, 7, none⟩ = some (.slice none 0 0) := hB.cell 7
  clear hB
  go_enter Tryz.func95, Tryz.ntmps95
  go_wp2
  refine wp_loop_rounds 1 ?_
  rw [rounds_succ]
  go_wp2
  go_ret
  exact ⟨rfl, rfl⟩
theorem fillEntry_none (g n : Nat) (vb : Value) (w : World) (hB : BookIs w g n vb) : Calls Tryz.prog 70 #[.pointer (some ⟨g, 0, none⟩)] w fun e w' => e = .returned (.tuple #[]) ∧ w = w' := by
  have hc : w.cell? ⟨g, 8, none⟩ = some (.slice none 0 0) := hB.cell 8
  clear hB
  go_enter Tryz.func70, Tryz.ntmps70
  go_wp2
  refine wp_loop_rounds 1 ?_
  rw [rounds_succ]
  go_wp2
  go_end0
  exact ⟨rfl, rfl⟩
theorem growEntry_none (g n : Nat) (vb : Value) (w : World) (hB : BookIs w g n vb) : Calls Tryz.prog 83 #[.pointer (some ⟨g, 0, none⟩)] w fun e w' => e = .returned (.tuple #[]) ∧ w = w' := by
  have hc : w.cell? ⟨g, 8, none⟩ = some (.slice none 0 0) := hB.cell 8
  clear hB
  go_enter Tryz.func83, Tryz.ntmps83
  go_wp2
  refine wp_loop_rounds 1 ?_
  rw [rounds_succ]
  go_wp2
  go_end0
  exact ⟨rfl, rfl⟩
theorem lookEntry_none (g n : Nat) (vb : Value) (w : World) (hB : BookIs w g n vb) : Calls Tryz.prog 96 #[.pointer (some ⟨g, 0, none⟩)] w fun e w' => e = .returned (.bool true) ∧ w = w' := by
  have hc : w.cell? ⟨g, 8, none⟩ = some (.slice none 0 0) := hB.cell 8
  clear hB
  go_enter Tryz.func96, Tryz.ntmps96
  go_wp2
  refine wp_loop_rounds 1 ?_
  rw [rounds_succ]
  go_wp2
  go_ret
  exact ⟨rfl, rfl⟩
theorem fillFile_none (g n : Nat) (vb : Value) (w : World) (hB : BookIs w g n vb) : Calls Tryz.prog 71 #[.pointer (some ⟨g, 0, none⟩)] w fun e w' => e = .returned (.tuple #[]) ∧ w = w' := by
  have hc : w.cell? ⟨g, 9, none⟩ = some (.slice none 0 0) := hB.cell 9
  clear hB
  go_enter Tryz.func71, Tryz.ntmps71
  go_wp2
  refine wp_loop_rounds 1 ?_
  rw [rounds_succ]
  go_wp2
  go_end0
  exact ⟨rfl, rfl⟩
theorem growFile_none (g n : Nat) (vb : Value) (w : World) (hB : BookIs w g n vb) : Calls Tryz.prog 84 #[.pointer (some ⟨g, 0, none⟩)] w fun e w' => e = .returned (.tuple #[]) ∧ w = w' := by
  have hc : w.cell? ⟨g, 9, none⟩ = some (.slice none 0 0) := hB.cell 9
  clear hB
  go_enter Tryz.func84, Tryz.ntmps84
  go_wp2
  refine wp_loop_rounds 1 ?_
  rw [rounds_succ]
  go_wp2
  go_end0
  exact ⟨rfl, rfl⟩
theorem lookFile_none (g n : Nat) (vb : Value) (w : World) (hB : BookIs w g n vb) : Calls Tryz.prog 97 #[.pointer (some ⟨g, 0, none⟩)] w fun e w' => e = .returned (.bool true) ∧ w = w' := by
  have hc : w.cell? ⟨g, 9, none⟩ = some (.slice none 0 0) := hB.cell 9
  clear hB
  go_enter Tryz.func97, Tryz.ntmps97
  go_wp2
  refine wp_loop_rounds 1 ?_
  rw [rounds_succ]
  go_wp2
  go_ret
  exact ⟨rfl, rfl⟩
theorem fillItem_none (g n : Nat) (vb : Value) (w : World) (hB : BookIs w g n vb) : Calls Tryz.prog 72 #[.pointer (some ⟨g, 0, none⟩)] w fun e w' => e = .returned (.tuple #[]) ∧ w = w' := by
  have hc : w.cell? ⟨g, 10, none⟩ = some (.slice none 0 0) := hB.cell 10
  clear hB
  go_enter Tryz.func72, Tryz.ntmps72
  go_wp2
  refine wp_loop_rounds 1 ?_
  rw [rounds_succ]
  go_wp2
  go_end0
  exact ⟨rfl, rfl⟩
theorem growItem_none (g n : Nat) (vb : Value) (w : World) (hB : BookIs w g n vb) : Calls Tryz.prog 85 #[.pointer (some ⟨g, 0, none⟩)] w fun e w' => e = .returned (.tuple #[]) ∧ w = w' := by
  have hc : w.cell? ⟨g, 10, none⟩ = some (.slice none 0 0) := hB.cell 10
  clear hB
  go_enter Tryz.func85, Tryz.ntmps85
  go_wp2
  refine wp_loop_rounds 1 ?_
  rw [rounds_succ]
  go_wp2
  go_end0
  exact ⟨rfl, rfl⟩
theorem lookItem_none (g n : Nat) (vb : Value) (w : World) (hB : BookIs w g n vb) : Calls Tryz.prog 98 #[.pointer (some ⟨g, 0, none⟩)] w fun e w' => e = .returned (.bool true) ∧ w = w' := by
  have hc : w.cell? ⟨g, 10, none⟩ = some (.slice none 0 0) := hB.cell 10
  clear hB
  go_enter Tryz.func98, Tryz.ntmps98
  go_wp2
  refine wp_loop_rounds 1 ?_
  rw [rounds_succ]
  go_wp2
  go_ret
  exact ⟨rfl, rfl⟩
theorem fillSaid_none (g n : Nat) (vb : Value) (w : World) (hB : BookIs w g n vb) : Calls Tryz.prog 73 #[.pointer (some ⟨g, 0, none⟩)] w fun e w' => e = .returned (.tuple #[]) ∧ w = w' := by
  have hc : w.cell? ⟨g, 11, none⟩ = some (.slice none 0 0) := hB.cell 11
  clear hB
  go_enter Tryz.func73, Tryz.ntmps73
  go_wp2
  refine wp_loop_rounds 1 ?_
  rw [rounds_succ]
  go_wp2
  go_end0
  exact ⟨rfl, rfl⟩
theorem growSaid_none (g n : Nat) (vb : Value) (w : World) (hB : BookIs w g n vb) : Calls Tryz.prog 86 #[.pointer (some ⟨g, 0, none⟩)] w fun e w' => e = .returned (.tuple #[]) ∧ w = w' := by
  have hc : w.cell? ⟨g, 11, none⟩ = some (.slice none 0 0) := hB.cell 11
  clear hB
  go_enter Tryz.func86, Tryz.ntmps86
  go_wp2
  refine wp_loop_rounds 1 ?_
  rw [rounds_succ]
  go_wp2
  go_end0
  exact ⟨rfl, rfl⟩
theorem lookSaid_none (g n : Nat) (vb : Value) (w : World) (hB : BookIs w g n vb) : Calls Tryz.prog 99 #[.pointer (some ⟨g, 0, none⟩)] w fun e w' => e = .returned (.bool true) ∧ w = w' := by
  have hc : w.cell? ⟨g, 11, none⟩ = some (.slice none 0 0) := hB.cell 11
  clear hB
  go_enter Tryz.func99, Tryz.ntmps99
  go_wp2
  refine wp_loop_rounds 1 ?_
  rw [rounds_succ]
  go_wp2
  go_ret
  exact ⟨rfl, rfl⟩
theorem fillMsg_none (g n : Nat) (vb : Value) (w : World) (hB : BookIs w g n vb) : Calls Tryz.prog 74 #[.pointer (some ⟨g, 0, none⟩)] w fun e w' => e = .returned (.tuple #[]) ∧ w = w' := by
  have hc : w.cell? ⟨g, 12, none⟩ = some (.slice none 0 0) := hB.cell 12
  clear hB
  go_enter Tryz.func74, Tryz.ntmps74
  go_wp2
  refine wp_loop_rounds 1 ?_
  rw [rounds_succ]
  go_wp2
  go_end0
  exact ⟨rfl, rfl⟩
theorem growMsg_none (g n : Nat) (vb : Value) (w : World) (hB : BookIs w g n vb) : Calls Tryz.prog 87 #[.pointer (some ⟨g, 0, none⟩)] w fun e w' => e = .returned (.tuple #[]) ∧ w = w' := by
  have hc : w.cell? ⟨g, 12, none⟩ = some (.slice none 0 0) := hB.cell 12
  clear hB
  go_enter Tryz.func87, Tryz.ntmps87
  go_wp2
  refine wp_loop_rounds 1 ?_
  rw [rounds_succ]
  go_wp2
  go_end0
  exact ⟨rfl, rfl⟩
theorem lookMsg_none (g n : Nat) (vb : Value) (w : World) (hB : BookIs w g n vb) : Calls Tryz.prog 100 #[.pointer (some ⟨g, 0, none⟩)] w fun e w' => e = .returned (.bool true) ∧ w = w' := by
  have hc : w.cell? ⟨g, 12, none⟩ = some (.slice none 0 0) := hB.cell 12
  clear hB
  go_enter Tryz.func100, Tryz.ntmps100
  go_wp2
  refine wp_loop_rounds 1 ?_
  rw [rounds_succ]
  go_wp2
  go_ret
  exact ⟨rfl, rfl⟩
theorem fillEvent_none (g n : Nat) (vb : Value) (w : World) (hB : BookIs w g n vb) : Calls Tryz.prog 75 #[.pointer (some ⟨g, 0, none⟩)] w fun e w' => e = .returned (.tuple #[]) ∧ w = w' := by
  have hc : w.cell? ⟨g, 13, none⟩ = some (.slice none 0 0) := hB.cell 13
  clear hB
  go_enter Tryz.func75, Tryz.ntmps75
  go_wp2
  refine wp_loop_rounds 1 ?_
  rw [rounds_succ]
  go_wp2
  go_end0
  exact ⟨rfl, rfl⟩
theorem growEvent_none (g n : Nat) (vb : Value) (w : World) (hB : BookIs w g n vb) : Calls Tryz.prog 88 #[.pointer (some ⟨g, 0, none⟩)] w fun e w' => e = .returned (.tuple #[]) ∧ w = w' := by
  have hc : w.cell? ⟨g, 13, none⟩ = some (.slice none 0 0) := hB.cell 13
  clear hB
  go_enter Tryz.func88, Tryz.ntmps88
  go_wp2
  refine wp_loop_rounds 1 ?_
  rw [rounds_succ]
  go_wp2
  go_end0
  exact ⟨rfl, rfl⟩
theorem lookEvent_none (g n : Nat) (vb : Value) (w : World) (hB : BookIs w g n vb) : Calls Tryz.prog 101 #[.pointer (some ⟨g, 0, none⟩)] w fun e w' => e = .returned (.bool true) ∧ w = w' := by
  have hc : w.cell? ⟨g, 13, none⟩ = some (.slice none 0 0) := hB.cell 13
  clear hB
  go_enter Tryz.func101, Tryz.ntmps101
  go_wp2
  refine wp_loop_rounds 1 ?_
  rw [rounds_succ]
  go_wp2
  go_ret
  exact ⟨rfl, rfl⟩
end Go.Proofs.YtbpdonnneleeeaaGreatDoor

namespace Go.Proofs.YtbpdonnneleeeaaGreatDoor
open Go.RowKit
set_option linter.unusedVariables false

theorem first_grw {w : World} {base : Nat} {ls : List BL} (hF : Filled w base ls ls.length) (hD : Dis ls) : Grw w base (ls.map fun b => (b, nilS)) 0 ∧ DisG w (ls.map fun b => (b, nilS)) := by
  have key : ∀ {i : Nat} {b : BL} {lv : Value}, (ls.map fun b => (b, nilS))[i]? = some (b, lv) → ls[i]? = some b ∧ lv = nilS := by
    intro i b lv h
    rw [List.getElem?_map] at h
    cases hx : ls[i]? with
    | none => rw [hx] at h; cases h
    | some x => rw [hx] at h; injection h with h; injection h with h1 h2; subst h1; exact ⟨rfl, h2.symm⟩
  have hlt : ∀ {i : Nat} {b : BL}, ls[i]? = some b → i < ls.length := fun h => by rcases List.getElem?_eq_some_iff.1 h with ⟨h, _⟩; exact h
  refine ⟨fun i b lv h => ?_, fun i j o hi hj => ?_, fun i o hi => ?_⟩
  · obtain ⟨h1, h2⟩ := key h
    obtain ⟨xs, hx, he⟩ := hF i b h1
    rw [he (hlt h1)] at hx
    exact ⟨hx, fun h => by omega, fun _ => h2⟩
  · obtain ⟨bi, li, h1, h2⟩ := hi
    obtain ⟨bj, lj, h3, h4⟩ := hj
    obtain ⟨e1, e2⟩ := key h1
    obtain ⟨e3, e4⟩ := key h3
    subst e2 e4
    have o1 : bi.v.ownBlock = some o := by rcases h2 with h | h; exact h; cases h
    have o2 : bj.v.ownBlock = some o := by rcases h4 with h | h; exact h; cases h
    rcases Nat.decEq i j with hne | he
    · rcases hD i j bi bj hne e1 e3 with h | h
      · rw [o1] at h; cases h
      · exact absurd (o1.trans o2.symm) h
    · exact he
  · obtain ⟨bi, li, h1, h2⟩ := hi
    obtain ⟨e1, e2⟩ := key h1
    subst e2
    have o1 : bi.v.ownBlock = some o := by rcases h2 with h | h; exact h; cases h
    obtain ⟨xs, hx, _⟩ := hF i bi e1
    exact (hx.lt o o1).2

set_option maxRecDepth 100000 in
set_option maxHeartbeats 4000000 in
theorem apart_any (g n base : Nat) (vb : Value) (ls : List BL) (w : World) (hB : BookIs w g n vb) (hown : w.ownsRow base 128 3 vb ls.length (held0 ls)) (hF : Filled w base ls 0) (hD : Dis ls) (hbase : base ≤ w.heap.size) (hl : ls.length ≤ 1000)
    (hb : ∀ b ∈ ls, b.n ≤ 1099511627776 ∧ b.num ≤ 1000000) :
    Calls Tryz.prog 33 #[.pointer (some ⟨g, 0, none⟩)] w fun e w' => e = .returned (.bool true) ∧ Below base w w' := by
  have FF := Lib.hid (fillByte_any g n base vb ls w hB hown hF hD hbase hl hb)
  have HD := Lib.hid hD; have HBD := Lib.hid hb
  clear hB hown hF hD hb
  go_enter Tryz.func33, Tryz.ntmps33
  go_wp2_with fail
  refine FF.out.mono ?_
  rintro e w1 ⟨rfl, m1, hm1, he1, hB1, hown1, hF1, hbel1⟩
  have hm1' : m1 = ls.length := by
    injection he1 with _ he1
    omega
  subst hm1'
  have HB1 := Lib.hid hB1; have HBEL1 := Lib.hid hbel1
  have hst := first_grw hF1 HD.out
  have hown1' : w1.ownsRow base 128 3 vb ls.length (heldG (ls.map fun b => (b, nilS))) := by rw [← heldG_of0]; exact hown1
  have GG := Lib.hid (growByte_any g n base vb ls (ls.map fun b => (b, nilS)) w1 hB1 (by rw [List.map_map]; exact List.map_id'' (fun _ => rfl) ls) hown1' hst.1 hst.2 (Nat.le_trans hbase hbel1.size) hl HBD.out)
  clear FF he1 hB1 hown1 hF1 hbel1 hst hown1'
  go_wp2_with fail
  refine (fillId_none g n vb w1 HB1.out).mono ?_
  rintro e w' ⟨rfl, rfl⟩
  go_wp2_with fail
  refine (fillNum_none g n vb w1 HB1.out).mono ?_
  rintro e w' ⟨rfl, rfl⟩
  go_wp2_with fail
  refine (fillInt_none g n vb w1 HB1.out).mono ?_
  rintro e w' ⟨rfl, rfl⟩
  go_wp2_with fail
  refine (fillText_none g n vb w1 HB1.out).mono ?_
  rintro e w' ⟨rfl, rfl⟩
  go_wp2_with fail
  refine (fillRow_none g n vb w1 HB1.out).mono ?_
  rintro e w' ⟨rfl, rfl⟩
  go_wp2_with fail
  refine (fillChange_none g n vb w1 HB1.out).mono ?_
  rintro e w' ⟨rfl, rfl⟩
  go_wp2_with fail
  refine (fillEntry_none g n vb w1 HB1.out).mono ?_
  rintro e w' ⟨rfl, rfl⟩
  go_wp2_with fail
  refine (fillFile_none g n vb w1 HB1.out).mono ?_
  rintro e w' ⟨rfl, rfl⟩
  go_wp2_with fail
  refine (fillItem_none g n vb w1 HB1.out).mono ?_
  rintro e w' ⟨rfl, rfl⟩
  go_wp2_with fail
  refine (fillSaid_none g n vb w1 HB1.out).mono ?_
  rintro e w' ⟨rfl, rfl⟩
  go_wp2_with fail
  refine (fillMsg_none g n vb w1 HB1.out).mono ?_
  rintro e w' ⟨rfl, rfl⟩
  go_wp2_with fail
  refine (fillEvent_none g n vb w1 HB1.out).mono ?_
  rintro e w' ⟨rfl, rfl⟩
  go_wp2_with fail
  refine GG.out.mono ?_
  rintro e w2 ⟨rfl, m2, gs, hm2, he2, hgs, hB2, hown2, hG2, hD2, hbel2⟩
  have hm2' : m2 = ls.length := by
    injection he2 with _ he2
    omega
  have hgl : gs.length = ls.length := by rw [← hgs]; simp
  have HB2 := Lib.hid hB2
  have HBEL2 := Lib.hid (HBEL1.out.trans hbel2)
  have LL := Lib.hid (lookByte_any g n base vb gs w2 hB2 (by rw [hgl]; exact hown2) (by rw [hgl, ← hm2']; exact hG2) (by omega) (fun p hp => HBD.out p.1 (by rw [← hgs]; exact List.mem_map_of_mem hp)))
  clear GG he2 hB2 hown2 hG2 hD2 hbel2 hm2' hgl HBEL1 HB1 hgs hm2
  go_wp2_with fail
  refine (growId_none g n vb w2 HB2.out).mono ?_
  rintro e w' ⟨rfl, rfl⟩
  go_wp2_with fail
  refine (growNum_none g n vb w2 HB2.out).mono ?_
  rintro e w' ⟨rfl, rfl⟩
  go_wp2_with fail
  refine (growInt_none g n vb w2 HB2.out).mono ?_
  rintro e w' ⟨rfl, rfl⟩
  go_wp2_with fail
  refine (growText_none g n vb w2 HB2.out).mono ?_
  rintro e w' ⟨rfl, rfl⟩
  go_wp2_with fail
  refine (growRow_none g n vb w2 HB2.out).mono ?_
  rintro e w' ⟨rfl, rfl⟩
  go_wp2_with fail
  refine (growChange_none g n vb w2 HB2.out).mono ?_
  rintro e w' ⟨rfl, rfl⟩
  go_wp2_with fail
  refine (growEntry_none g n vb w2 HB2.out).mono ?_
  rintro e w' ⟨rfl, rfl⟩
  go_wp2_with fail
  refine (growFile_none g n vb w2 HB2.out).mono ?_
  rintro e w' ⟨rfl, rfl⟩
  go_wp2_with fail
  refine (growItem_none g n vb w2 HB2.out).mono ?_
  rintro e w' ⟨rfl, rfl⟩
  go_wp2_with fail
  refine (growSaid_none g n vb w2 HB2.out).mono ?_
  rintro e w' ⟨rfl, rfl⟩
  go_wp2_with fail
  refine (growMsg_none g n vb w2 HB2.out).mono ?_
  rintro e w' ⟨rfl, rfl⟩
  go_wp2_with fail
  refine (growEvent_none g n vb w2 HB2.out).mono ?_
  rintro e w' ⟨rfl, rfl⟩
  go_wp2_with fail
  refine LL.out.mono ?_
  rintro e w3 ⟨rfl, hg3⟩
  have HB3 := Lib.hid (HB2.out.grown hg3 (by simp))
  have HBEL3 := Lib.hid (HBEL2.out.grown hg3 (Nat.le_trans hbase HBEL2.out.size) (by simp))
  clear LL hg3 HB2 HBEL2
  go_wp2_with fail
  refine (lookId_none g n vb w3 HB3.out).mono ?_
  rintro e w' ⟨rfl, rfl⟩
  go_wp2_with fail
  refine (lookNum_none g n vb w3 HB3.out).mono ?_
  rintro e w' ⟨rfl, rfl⟩
  go_wp2_with fail
  refine (lookInt_none g n vb w3 HB3.out).mono ?_
  rintro e w' ⟨rfl, rfl⟩
  go_wp2_with fail
  refine (lookText_none g n vb w3 HB3.out).mono ?_
  rintro e w' ⟨rfl, rfl⟩
  go_wp2_with fail
  refine (lookRow_none g n vb w3 HB3.out).mono ?_
  rintro e w' ⟨rfl, rfl⟩
  go_wp2_with fail
  refine (lookChange_none g n vb w3 HB3.out).mono ?_
  rintro e w' ⟨rfl, rfl⟩
  go_wp2_with fail
  refine (lookEntry_none g n vb w3 HB3.out).mono ?_
  rintro e w' ⟨rfl, rfl⟩
  go_wp2_with fail
  refine (lookFile_none g n vb w3 HB3.out).mono ?_
  rintro e w' ⟨rfl, rfl⟩
  go_wp2_with fail
  refine (lookItem_none g n vb w3 HB3.out).mono ?_
  rintro e w' ⟨rfl, rfl⟩
  go_wp2_with fail
  refine (lookSaid_none g n vb w3 HB3.out).mono ?_
  rintro e w' ⟨rfl, rfl⟩
  go_wp2_with fail
  refine (lookMsg_none g n vb w3 HB3.out).mono ?_
  rintro e w' ⟨rfl, rfl⟩
  go_wp2_with fail
  refine (lookEvent_none g n vb w3 HB3.out).mono ?_
  rintro e w' ⟨rfl, rfl⟩
  go_wp2
  go_ret
  exact ⟨rfl, HBEL3.out⟩
end Go.Proofs.YtbpdonnneleeeaaGreatDoor

namespace Go.Proofs.YtbpdonnneleeeaaGreatDoor
open Go.RowKit
set_option linter.unusedVariables false

theorem own_only {w w' : World} {base e k n : Nat} {v : Value} {xs : List Value} {a b : Option Nat} (h : w.ownsRow base e k v n xs) (ho : Only w w' a b) (ha : v.ownBlock = none ∨ v.ownBlock ≠ a) (hb : v.ownBlock = none ∨ v.ownBlock ≠ b) : w'.ownsRow base e k v n xs := by
  have hlt := h.lt
  refine ⟨h.1, ?_⟩
  rcases h.2 with h2 | ⟨g, cap, cur, hv, hg, hh, r⟩
  · exact .inl h2
  · subst hv
    have ha' : some g ≠ a := by rcases ha with h | h; · cases h
                                exact h
    have hb' : some g ≠ b := by rcases hb with h | h; · cases h
                                exact h
    exact .inr ⟨g, cap, cur, rfl, hg, (ho.block g (hlt g rfl).2 ha' hb').trans hh, r⟩
def Kd (w : World) (base : Nat) (b : BL) : Prop := ∃ xs, w.ownsRow base 5 1 b.v b.n xs
theorem Kd.only {w w' : World} {base gk nb base2 k : Nat} {b : BL} {vb : Value} {hs : List Value} (h : Kd w base b) (ho : Only w w' (some gk) vb.ownBlock) (hB : BookIs w gk nb vb) (hown : w.ownsRow base2 128 3 vb k hs) : Kd w' base b := by
  obtain ⟨xs, h⟩ := h
  exact ⟨xs, own_only h ho (.inr (fun e => hB.not_own h (by decide) e.symm)) (own_ne h hown (by decide))⟩
theorem Kd.below {w w' : World} {base : Nat} {b : BL} (h : Kd w base b) (hb : Below w.heap.size w w') : Kd w' base b := by
  obtain ⟨xs, h⟩ := h
  exact ⟨xs, own_below h hb⟩
theorem only_below {w w' : World} {base gk k : Nat} {vb : Value} {hs : List Value} (ho : Only w w' (some gk) vb.ownBlock) (hgk : base ≤ gk) (hown : w.ownsRow base 128 3 vb k hs) (hbase : base ≤ w.heap.size) : Below base w w' :=
  ⟨ho.os, ho.tape, ho.output, ho.size, fun k hk => ho.block k (by omega) (by intro e; injection e with e; omega) (by intro e; have := (hown.lt k e.symm).1; omega)⟩


/-- a Book at g that holds ls; all the lists are still owned -/
def BkS (w0 : World) (base g : Nat) (ls all : List BL) (w : World) (vb : Value) : Prop :=
  BookIs w g ls.length vb ∧ w.ownsRow base 128 3 vb ls.length (held0 ls) ∧ Below base w0 w ∧ base ≤ g ∧ base ≤ w.heap.size ∧ ∀ b ∈ all, Kd w base b
theorem bk_start {w0 w : World} {base : Nat} {all : List BL} (hb : Below base w0 w) (hs : base ≤ w.heap.size) (hk : ∀ b ∈ all, Kd w base b) : BkS w0 base w.heap.size [] all (w.alloc (.cells (bookCells 0 nilS) 45)) nilS :=
  ⟨heap_alloc_new w _, World.ownsRow_nil _ _ _ _, hb.alloc hs _, hs, by simp; omega, fun b h => (hk b h).below ((Below.refl _ _).alloc (Nat.le_refl _) _)⟩
theorem bk_step {w0 w : World} {base g : Nat} {ls all : List BL} {vb : Value} (h : BkS w0 base g ls all w vb) (A : Option Addr) (n c : Nat) (hl : ls.length ≤ 1000) :
    Calls Tryz.prog 20 #[.pointer (some ⟨g, 0, none⟩), .slice A n c] w fun e w' => e = .returned (.tuple #[]) ∧ ∃ vb', BkS w0 base g (ls ++ [⟨A, n, c, ls.length + 1⟩]) all w' vb' := by
  obtain ⟨hB, hO, hb, hg, hs, hk⟩ := h
  refine (bytes_any g ls.length ls.length base vb (held0 ls) A n c w hB hO hs (by omega) (by omega)).mono ?_
  rintro e w' ⟨he, vb', hB', hO', on⟩
  have hbel := only_below on hg hO hs
  refine ⟨he, vb', ?_, ?_, hb.trans hbel, hg, Nat.le_trans hs hbel.size, fun b hb => (hk b hb).only on hB hO⟩
  · rw [List.length_append]; exact hB'
  · have e : held0 (ls ++ [⟨A, n, c, ls.length + 1⟩]) = held0 ls ++ [.slice A n c, nilS, .int .i64 ((ls.length + 1 : Nat) : Int)] := by simp [held0, BL.v]
    rw [e, List.length_append]; exact hO'
theorem bk_apart {w0 w : World} {base g : Nat} {ls : List BL} {vb : Value} (h : BkS w0 base g ls ls w vb) (hD : Dis ls) (hl : ls.length ≤ 1000) (hm : ∀ b ∈ ls, b.n ≤ 1099511627776 ∧ b.num ≤ 1000000) :
    Calls Tryz.prog 33 #[.pointer (some ⟨g, 0, none⟩)] w fun e w' => e = .returned (.bool true) ∧ Below base w0 w' := by
  obtain ⟨hB, hO, hb, hg, hs, hk⟩ := h
  refine (apart_any g ls.length base vb ls w hB hO ?_ hD hs hl hm).mono fun e w' ⟨he, hb'⟩ => ⟨he, hb.trans hb'⟩
  intro i b hi
  obtain ⟨xs, h⟩ := hk b (List.mem_of_getElem? hi)
  exact ⟨xs, h, fun h => absurd h (Nat.not_lt_zero _)⟩
end Go.Proofs.YtbpdonnneleeeaaGreatDoor

namespace Go.Proofs.YtbpdonnneleeeaaGreatDoor
open Go.RowKit
set_option linter.unusedVariables false

/-- the same bytes -/
theorem same_yes (A A2 : Option Addr) (n c c2 : Nat) (base base2 : Nat) (l : List UInt8) (w : World) (h1 : w.ownsRow base 5 1 (.slice A n c) n (l.map bv)) (h2 : w.ownsRow base2 5 1 (.slice A2 n c2) n (l.map bv)) (hn : n ≤ 4611686018427387904) :
    Calls Tryz.prog 19 #[.slice A n c, .slice A2 n c2] w fun e w' => e = .returned (.bool true) ∧ ∃ q, w' = w.drewN q := by
  have h := same_any A A2 n n c c2 w.heap.size l l w (Lies.of_own h1) (Lies.of_own h2) hn
  rw [sameB_self] at h
  exact h
/-- what was answered: a slice of m bytes, in new memory -/
def Res (w : World) (m : Nat) (L : List UInt8) (A : Option Addr) (c : Nat) (w' : World) : Prop :=
  m ≤ c ∧ c ≤ maxLen ∧ w'.ownsRow w.heap.size 5 1 (.slice A m c) m (L.map bv) ∧ Below w.heap.size w w'
/-- one list in a block of its own, two more made behind it, one after the other -/
theorem dis3 {b1 b2 b3 : BL} {g1 M : Nat} (e1 : b1.v.ownBlock = some g1) (h2 : ∀ g, b2.v.ownBlock = some g → g1 < g ∧ g < M) (h1 : g1 < M) (h3 : ∀ g, b3.v.ownBlock = some g → M ≤ g) : Dis [b1, b2, b3] := by
  have key : ∀ (x y : Option Nat), (∀ g g', x = some g → y = some g' → g ≠ g') → x = none ∨ x ≠ y := by
    intro x y h
    cases x with
    | none => exact .inl rfl
    | some g => exact .inr (fun e => h g g rfl e.symm rfl)
  intro i j bi bj hij hi hj
  refine key _ _ fun g g' hx hy => ?_
  rcases i with _ | _ | _ | i <;> rcases j with _ | _ | _ | j <;> simp at hi hj hij <;> subst hi <;> subst hj
  · rw [e1] at hx; injection hx with hx; have := h2 g' hy; omega
  · rw [e1] at hx; injection hx with hx; have := h3 g' hy; omega
  · rw [e1] at hy; injection hy with hy; have := h2 g hx; omega
  · have := h2 g hx; have := h3 g' hy; omega
  · rw [e1] at hy; injection hy with hy; have := h3 g hx; omega
  · have := h3 g hx; have := h2 g' hy; omega
end Go.Proofs.YtbpdonnneleeeaaGreatDoor

