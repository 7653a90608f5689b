/-
  The laws' Book: the walk of lookByte.
-/
import Derived.Test.YtjeijgkkobmdbaaGreatDoorBookD
namespace Go.Proofs.YtjeijgkkobmdbaaGreatDoor
open Go.RowKit
set_option linter.unusedVariables false

theorem quiet_l {P : Program} {f : FuncId} {args : Array Value} {w : World} {n : Nat} {v : Value} (h : Calls P f args (w.drewN n) fun e w' => e = .returned v ∧ w.drewN n = w') : Calls P f args (w.drewN n) fun e w'' => e = .returned v ∧ ∃ m, w'' = w.drewN m :=
  h.mono fun _ _ ⟨he, hm⟩ => ⟨he, n, hm.symm⟩
theorem quiet_al {P : Program} {f : FuncId} {args : Array Value} {w : World} {a n : Nat} {v : Value} (h : Calls P f args (w.drewN (a + n)) fun e w' => e = .returned v ∧ w.drewN (a + n) = w') : Calls P f args (w.drewN (a + n)) fun e w'' => e = .returned v ∧ ∃ m, w'' = w.drewN (a + m) :=
  h.mono fun _ _ ⟨he, hm⟩ => ⟨he, n, hm.symm⟩
theorem grown_drewN {a w : World} {row : Option Nat} (h : a.grownBy w row) (n : Nat) : a.grownBy (w.drewN n) row := ⟨h.os, h.tape, h.output, h.size, h.block⟩
theorem own_none {w w' : World} {base e k n : Nat} {v : Value} {xs : List Value} (h : w.ownsRow base e k v n xs) (hg : w.grownBy w' none) : w'.ownsRow base e k v n xs := h.kept hg (by cases v.ownBlock <;> simp)

set_option maxRecDepth 100000 in
set_option maxHeartbeats 4000000 in
theorem lookByte_any (g n base : Nat) (vb : Value) (gs : List (BL × Value)) (w : World) (hB : BookIs w g n vb) (hown : w.ownsRow base 61 3 vb gs.length (heldG gs)) (hG : Grw w base gs gs.length) (hl : gs.length ≤ 1000)
    (hb : ∀ p ∈ gs, p.1.n ≤ 1099511627776 ∧ p.1.num ≤ 1000000) :
    Calls Tryz.prog 45 #[.pointer (some ⟨g, 0, none⟩)] w fun e w' => e = .returned (.bool true) ∧ w.grownBy w' none := by
  have HB := Lib.hid hB; have HOWN := Lib.hid hown; have HG := Lib.hid hG; have HBD := Lib.hid hb
  clear hB hown hG hb
  go_enter Tryz.func45, Tryz.ntmps45
  go_wp2
  go_loopw [3] (fun i wr => ∃ m : Nat, m ≤ gs.length ∧ i = .int .i64 (m : Int) ∧ w.grownBy wr none) (fun i _ => gs.length - (intOf i).toNat)
  case atStart => exact ⟨0, Nat.zero_le _, rfl, World.grownBy.refl _ _⟩
  case round =>
    obtain ⟨m, hm, rfl, hgr⟩ := hrel
    have hBr := HB.out.grown hgr (by simp)
    have hOr := own_none HOWN.out hgr
    have hc1 : wr.cell? ⟨g, 1, none⟩ = some vb := hBr.cell 1
    obtain ⟨Av, cv, hvb, hncv, hcmv, _⟩ := own_shape hOr
    subst hvb
    have HGR := Lib.hid hgr
    clear hgr hBr
    by_cases hlt : m < gs.length
    · obtain ⟨⟨⟨bA, bn, bc, bnum⟩, lv⟩, hbm⟩ : ∃ p, gs[m]? = some p := ⟨gs[m], List.getElem?_eq_getElem hlt⟩
      obtain ⟨hMk, hLg, _⟩ := HG.out m _ _ hbm
      have hLg := own_none (hLg hlt) HGR.out
      have hMk : wr.ownsRow base 5 1 (.slice bA bn bc) bn (List.replicate bn (mk bnum)) := own_none hMk HGR.out
      obtain ⟨lA, lc, hlv, hlnc, hlcm, _⟩ := own_shape hLg
      subst hlv
      have hLg : wr.ownsRow base 5 1 (.slice lA (bn + 40) lc) (bn + 40) (List.replicate (bn + 40) (mk bnum)) := hLg
      obtain ⟨gv, hgv⟩ : ∃ gv, Av = some ⟨gv, 0, none⟩ := by
        rcases hOr.2 with ⟨_, h0⟩ | ⟨g', cap, cur, hv, _⟩
        · omega
        · injection hv with h1 _ _; exact ⟨g', h1⟩
      subst hgv
      have k0 : wr.cell? ⟨gv, m * 3, none⟩ = some (.slice bA bn bc) := by rw [hOr.cellAt (m * 3) (by omega), Nat.mul_comm]; exact heldG_at gs m 0 _ hbm (by decide)
      have k1 : wr.cell? ⟨gv, m * 3 + 1, none⟩ = some (.slice lA (bn + 40) lc) := by rw [hOr.cellAt (m * 3 + 1) (by omega), Nat.mul_comm]; exact heldG_at gs m 1 _ hbm (by decide)
      have k2 : wr.cell? ⟨gv, m * 3 + 2, none⟩ = some (.int .i64 (bnum : Int)) := by rw [hOr.cellAt (m * 3 + 2) (by omega), Nat.mul_comm]; exact heldG_at gs m 2 _ hbm (by decide)
      have hbd := HBD.out _ (List.mem_of_getElem? hbm)
      have hbn : bn ≤ 1099511627776 := hbd.1
      have hbnum : bnum ≤ 1000000 := hbd.2
      have hcmv2 : cv ≤ 9223372036854775807 := hcmv
      have HMk := Lib.hid hMk; have HLg := Lib.hid hLg
      have hlen : ((bn : Int) + 40 != (bn : Int) + 40) = false := by simp
      clear hbm hcmv hbd hMk hLg hOr hlcm
      obtain ⟨wo, rfl⟩ : ∃ wo : World, wo = wr := ⟨_, rfl⟩
      obtain ⟨y, hy⟩ : ∃ y, 1 + bnum % 250 = y := ⟨_, rfl⟩
      have hyl : y < 256 := by omega
      have HMK : Hid (mk bnum = .int .u8 (y : Int)) := by unfold mk Hid; rw [hy]
      have HIS : Hid (∀ W, Calls Tryz.prog 74 #[.int .u8 (y : Int), .int .i64 (bnum : Int)] W fun e w' => e = .returned (.bool true) ∧ W = w') := fun W => isByte_any y bnum W hbnum hy.symm
      clear hy
      have hbox : (wo.alloc (.cells #[.slice bA bn bc, .slice lA (bn + 40) lc, .int .i64 (bnum : Int)] 61)).heap[wo.heap.size]? = some (.cells #[.slice bA bn bc, .slice lA (bn + 40) lc, .int .i64 (bnum : Int)] 61 (0, 0)) := heap_alloc_new wo _
      have hg0 : wo.grownBy (wo.alloc (.cells #[.slice bA bn bc, .slice lA (bn + 40) lc, .int .i64 (bnum : Int)] 61)) none := World.grownBy_alloc wo _ none
      obtain ⟨w0, hw0⟩ : ∃ w0, w0 = wo.alloc (.cells #[.slice bA bn bc, .slice lA (bn + 40) lc, .int .i64 (bnum : Int)] 61) := ⟨_, rfl⟩
      rw [← hw0] at hbox hg0
      have HW0 := Lib.hid hw0; have HG0 := Lib.hid hg0
      have c0 : w0.cell? ⟨wo.heap.size, 0, none⟩ = some (.slice bA bn bc) := cell_of_row w0 wo.heap.size 0 _ _ (0, 0) hbox
      have c1 : w0.cell? ⟨wo.heap.size, 1, none⟩ = some (.slice lA (bn + 40) lc) := cell_of_row w0 wo.heap.size 1 _ _ (0, 0) hbox
      have c2 : w0.cell? ⟨wo.heap.size, 2, none⟩ = some (.int .i64 (bnum : Int)) := cell_of_row w0 wo.heap.size 2 _ _ (0, 0) hbox
      have LM := Lib.hid (Lies.of_own (own_none HMk.out hg0)); have LL := Lib.hid (Lies.of_own (own_none HLg.out hg0))
      clear hw0 hbox hg0
      have C012 := Lib.hid (And.intro c0 (And.intro c1 c2))
      clear c0 c1 c2
      go_wp2
      rw [← HW0.out]
      go_loopw [5] (fun i w2 => ∃ k q : Nat, k ≤ bn + 40 ∧ i = .int .i64 (k : Int) ∧ w2 = w0.drewN q) (fun i _ => bn + 40 - (intOf i).toNat)
      case atStart => exact ⟨0, 0, Nat.zero_le _, rfl, rfl⟩
      case round =>
        clear k0 k1 k2 hc1
        obtain ⟨k, q, hk, rfl, rfl⟩ := hrel
        obtain ⟨c0, c1, c2⟩ := C012.out
        by_cases hkn : k < bn + 40
        · obtain ⟨gl, ol, ul, hlA, _, hul, hcl⟩ := LL.out.at_ (j := k) hkn
          subst hlA
          have hul2 : ul = .int .u8 (y : Int) := by
            rw [List.getElem?_replicate, if_pos hkn, HMK.out] at hul
            injection hul with hul
            exact hul.symm
          subst hul2
          have i1 : (k : Int) < (bn : Int) + 40 := by omega
          have i2 : (0 : Int) ≤ (k : Int) := by omega
          clear hul
          by_cases hkb : k < bn
          · obtain ⟨gb, ob, ub, hbA, _, hub, hcb⟩ := LM.out.at_ (j := k) hkb
            subst hbA
            have hub2 : ub = .int .u8 (y : Int) := by
              rw [List.getElem?_replicate, if_pos hkb, HMK.out] at hub
              injection hub with hub
              exact hub.symm
            subst hub2
            have i3 : (k : Int) < (bn : Int) := by omega
            have d1 : decide (k < bn) = true := by simp; omega
            have d1' : decide ((k : Int) < (bn : Int)) = true := by simp; omega
            clear hub
            go_wp2
            go_quiet ((go_at_call 74; exact quiet_al (HIS.out _)))
            go_wp2
            go_roundw
            case rel => exact ⟨k + 1, _, hkn, by go_num, by first | rfl | (rw [World.drewN_drewN])⟩
            case measure => simp [intOf]; omega
          · have d1 : decide (k < bn) = false := by simp; omega
            have d1' : decide ((k : Int) < (bn : Int)) = false := by simp; omega
            go_wp2
            go_quiet ((go_at_call 74; exact quiet_al (HIS.out _)))
            go_wp2
            go_roundw
            case rel => exact ⟨k + 1, _, hkn, by go_num, by first | rfl | (rw [World.drewN_drewN])⟩
            case measure => simp [intOf]; omega
        · have R : Hid (w.grownBy (w0.drewN q) none) := grown_drewN (HGR.out.trans HG0.out) q
          go_wp2
          go_roundw
          case rel => exact ⟨m + 1, hlt, by go_num, R.out⟩
          case measure => simp [intOf]; omega
    · obtain rfl : m = gs.length := by omega
      go_wp2
      go_ret
      exact ⟨rfl, HGR.out⟩
end Go.Proofs.YtjeijgkkobmdbaaGreatDoor
