/-
  The walk of BlocksSeek.
-/
import Derived.Test.YtiodiiedgmobjaaAl8
import Derived.Test.YtiodiiedgmobjaaSameE
import Derived.Test.YtiodiiedgmobjaaESize
namespace Go.Proofs.Ytiodiiedgmobjaa
open Go.RowKit
set_option linter.unusedVariables false
set_option maxRecDepth 100000

theorem mkat_keep {w w' : World} {g : Nat} {m : Mk} (h : MkAt w g m) (hb : Below w.heap.size w w') : MkAt w' g m := h.below hb h.lt
def SeekR (W : World) (m : Mk) (n : Nat) (i : Value) (wr : World) : Prop :=
  ∃ k : Nat, k ≤ n ∧ i = .int .i64 (k : Int) ∧ MkAt wr W.heap.size m ∧ Below W.heap.size W wr
abbrev SkS (g b o : Nat) (m a : Mk) (w : World) : Prop :=
  w.cell? ⟨g, 0, none⟩ = some (.string m.k) ∧ w.cell? ⟨g, 1, none⟩ = some (.int .u64 (m.s : Int)) ∧ w.cell? ⟨g, 2, none⟩ = some (.bool m.g) ∧
  w.cell? ⟨b, o, none⟩ = some (.string a.k) ∧ w.cell? ⟨b, o + 1, none⟩ = some (.int .u64 (a.s : Int)) ∧ w.cell? ⟨b, o + 2, none⟩ = some (.bool a.g)
theorem SkS.below {g b o : Nat} {m a : Mk} {w w' : World} (H : SkS g b o m a w) (hb : Below w.heap.size w w') : SkS g b o m a w' := by
  have up : ∀ {p v}, w.cell? p = some v → w'.cell? p = some v := fun {p v} h => (hb.cell (World.block_lt_of_cell? w _ h)).trans h
  exact ⟨up H.1, up H.2.1, up H.2.2.1, up H.2.2.2.1, up H.2.2.2.2.1, up H.2.2.2.2.2⟩

set_option maxHeartbeats 8000000 in
theorem blocksSeek_walk (A : Option Addr) (n c : Nat) (l : List En) (m : Mk) (W : World) (hl : Lies W W.heap.size 4 A n (ecs l)) (hu : ∀ x ∈ l, x.m.s < 18446744073709551616 ∧ x.m.k.size ≤ 140737488351232 ∧ x.x.size ≤ 140737488351232) (hn : l.length = n) (hnc : n ≤ c) (hc : c ≤ 140737488351232)
    (hm1 : m.s < 18446744073709551616) (hm2 : m.k.size ≤ 140737488351232) :
    Calls Try.prog 4 #[.slice A n c, m.v] W fun e W' => e = .returned (.bool true) ∧ Below W.heap.size W W' := by
  have HEL : Hid (EL W W.heap.size A n c l) := ⟨hl, Nat.le_refl _, hnc, by unfold maxLen; omega, fun e he => (hu e he).2⟩
  have HU := Lib.hid hu; have HN := Lib.hid hn
  have HUp : Hid (∀ W', Below W.heap.size W W' → EL W' W.heap.size A n c l) := fun W' hb => HEL.out.below hb
  have HSq : Hid (∀ e ∈ l, e.m.s < 18446744073709551616) := fun e he => (hu e he).1
  have hnb : n ≤ 140737488351232 := by omega
  have HW : Hid (W.alloc (.cells #[.string m.k, .int .u64 (m.s : Int), .bool m.g] 37) = mkW W m) := rfl
  have hx0 : MkAt (mkW W m) W.heap.size m := heap_alloc_new W _
  have hB0 : Below W.heap.size W (mkW W m) := (Below.refl _ _).alloc (Nat.le_refl _) _
  obtain ⟨W1, hW⟩ : ∃ W1, mkW W m = W1 := ⟨_, rfl⟩
  rw [hW] at HW hx0 hB0
  have HX := Lib.hid hx0; have HB0 := Lib.hid hB0
  unfold Mk.v
  clear hl hu hn hx0 hB0 hW hm1
  go_enter Try.func4, Try.ntmps4
  go_wp2_with fail
  rw [HW.out]
  clear HW
  refine (alive8_any W1).mono ?_
  rintro e w1 ⟨rfl, hb1⟩
  have H1 := Lib.hid (HB0.out.trans (hb1.mono HB0.out.size))
  have HX1 := Lib.hid (mkat_keep HX.out hb1)
  have HES := Lib.hid (entriesSize_any A n c l w1 ((HUp.out w1 H1.out).lies.more H1.out.size) HU.out hnb)
  clear hb1
  go_wp2_with fail
  refine HES.out.mono ?_
  rintro e w2 ⟨z, q, rfl, hw2, hz⟩
  have hb2 : Below W.heap.size W w2 := by rw [hw2]; exact below_drewN H1.out q
  have hx2 : MkAt w2 W.heap.size m := by rw [hw2]; exact HX1.out
  have H2 := Lib.hid hb2
  have HX2 := Lib.hid hx2
  have HZ := Lib.hid hz
  have hk0 := hx2.cell.1
  clear hb2 hw2 hz HES hx2
  by_cases hzb : 40000 < z
  · have hzi : (40000 : Int) < (z : Int) := by omega
    go_wp2_with fail
    refine (alive8_any w2).mono ?_
    rintro e w3 ⟨rfl, hb3⟩
    have HF := Lib.hid (H2.out.trans (hb3.mono H2.out.size))
    clear hb3 hk0
    go_wp2
    go_ret
    exact ⟨rfl, HF.out⟩
  · have hzi : decide ((40000 : Int) < (z : Int)) = false := decide_eq_false (by omega)
    have hnz : n + esum l = z := (HZ.out (by omega)).symm
    by_cases hkb : 1000 < m.k.size
    · have hni : (1000 : Int) < (m.k.size : Int) := by omega
      go_wp2_with fail
      refine (alive8_any w2).mono ?_
      rintro e w3 ⟨rfl, hb3⟩
      have HF := Lib.hid (H2.out.trans (hb3.mono H2.out.size))
      clear hb3 hk0 hnz
      go_wp2
      go_ret
      exact ⟨rfl, HF.out⟩
    · have hni : decide ((1000 : Int) < (m.k.size : Int)) = false := decide_eq_false (by omega)
      have HP := Lib.hid (bput_any l HSq.out A n c W.heap.size w2 (HUp.out w2 H2.out))
      clear hnz
      go_wp2_with fail
      refine HP.out.mono ?_
      rintro e w3 ⟨hb3, h1, h0⟩
      have H3 := Lib.hid (H2.out.trans (hb3.mono H2.out.size))
      have HX3 := Lib.hid (mkat_keep HX2.out hb3)
      clear HP hk0
      obtain ⟨b, hb⟩ : ∃ b, okB l = b := ⟨_, rfl⟩
      have HOk := Lib.hid hb
      rw [hb] at h1 h0
      cases b
      · obtain rfl := h0 rfl
        clear h0 h1 hb3 hb
        go_wp2
        go_ret
        exact ⟨rfl, H3.out⟩
      · obtain ⟨A3, c3, rfl, ho3⟩ := h1 rfl
        have HEn := Lib.hid (encB_len l HOk.out)
        have HO3 := Lib.hid ho3
        obtain ⟨_, _, hv, hn3, hc3, _⟩ := own_shape ho3
        injection hv with e1 e2 e3
        subst e1 e3
        have HG := Lib.hid (bseek_any A3 (encB l).length c3 (encB l) m w3 (Lies.of_own ho3) hn3 hc3 (by have := HEn.out; omega))
        rw [getB_enc l HOk.out HSq.out] at HG
        obtain ⟨N, hN⟩ : ∃ N, (encB l).length = N := ⟨_, rfl⟩
        rw [hN] at HG ⊢
        unfold Mk.v at HG
        have hm := HX3.out.cell
        obtain ⟨x0, x1, x2⟩ := hm
        clear h0 h1 hb3 hb ho3 hN hn3
        go_wp2_with fail
        refine HG.out.mono ?_
        rintro e w4 ⟨hb4, g1, _⟩
        obtain ⟨A4, c4, k, rfl, hk, hd, ho4, hs4⟩ := g1 l rfl
        have H4 := Lib.hid (H3.out.trans (hb4.mono H3.out.size))
        have HX4 := Lib.hid (mkat_keep HX3.out hb4)
        rw [HN.out] at hk ho4 ⊢
        obtain ⟨_, _, hv, hn4, hc4, _⟩ := own_shape ho4
        injection hv with e1 e2 e3
        subst e1 e3
        have hcut := (Lies.of_own ho4).cutE hk hn4
        rw [ecs_drop] at hcut
        have hcl := (HUp.out w4 H4.out).lies.cutE (m := k) hk hnc
        rw [ecs_drop] at hcl
        have HSm := Lib.hid (sameE_yes (c := c4 - k) (c2 := c - k) hcut (hcl.more H4.out.size) (by omega))
        have hsl := fun W => run_cutE W A n c k hk
        have HD := Lib.hid hd
        have HHd : Hid (∀ (i : Nat) (e : En), l[i]? = some e → (cmpM e.m m < 0 ↔ i < k)) := fun i e hi => by
          have := fromM_ahead ((okB_iff l).1 HOk.out).2.2.2 m hi
          rw [← HD.out, List.length_drop, HN.out, show n - (n - k) = k by omega] at this
          exact this
        obtain ⟨r, hr⟩ : ∃ r, n - k = r := ⟨_, rfl⟩
        rw [hr] at HSm hsl ⊢
        have hrn : (n : Int) - (r : Int) = (k : Int) := by omega
        have hrl : decide (n < r) = false := decide_eq_false (by omega)
        clear hb4 g1 ho4 hs4 hcut hcl hd HG x0 x1 x2 hr hn4
        go_wp2_with fail
        refine HSm.out.mono ?_
        rintro e w5 ⟨rfl, hb5⟩
        have H5 := Lib.hid (H4.out.trans (hb5.mono H4.out.size))
        have HX5 := Lib.hid (mkat_keep HX4.out hb5)
        clear hb5 HSm hsl
        go_wp2
        go_loopw [9] (fun i wr => SeekR W m n i wr) (fun i _ => n - (intOf i).toNat)
        case atStart => exact ⟨0, Nat.zero_le _, rfl, HX5.out, H5.out⟩
        case round =>
          obtain ⟨j, hj, rfl, hxj, hbj⟩ := hrel
          have HBj := Lib.hid hbj
          by_cases hlt : j < n
          · obtain ⟨b, o, x, rfl, hbB, hui, c0, c1, c2, c3⟩ := (HUp.out wr hbj).lies.entry hlt
            have hd1 : Below wr.heap.size wr wr.drew := ⟨rfl, rfl, rfl, Nat.le_refl _, fun _ _ => rfl⟩
            have Sd : SkS W.heap.size b (o + j * 4) m x.m wr.drew := SkS.below ⟨hxj.cell.1, hxj.cell.2.1, hxj.cell.2.2, c0, c1, c2⟩ hd1
            have HC := Lib.hid (cmp_any x.m m wr.drew)
            unfold Mk.v at HC
            have HHj := Lib.hid (HHd.out j x hui)
            have HBd := Lib.hid (hbj.trans (hd1.mono hbj.size))
            have HXd := Lib.hid (mkat_keep hxj hd1)
            have i0 : (0 : Int) ≤ (j : Int) := by omega
            have i1 : (j : Int) < (n : Int) := by omega
            have i2 : ((j : Int)).toNat = j := by simp
            have i3 : IntKind.i64.wrap (k : Int) = (k : Int) := by apply IntWalk.i64_in; omega
            obtain ⟨z2, hz2⟩ : ∃ z, cmpM x.m m = z := ⟨_, rfl⟩
            rw [hz2] at HC HHj
            clear hxj hbj hui c0 c1 c2 c3 hd1 hz2
            by_cases hz0 : z2 < 0
            · have hjk : decide (j < k) = true := decide_eq_true (HHj.out.1 hz0)
              have hjk2 : decide ((j : Int) < (k : Int)) = true := decide_eq_true (by have := HHj.out.1 hz0; omega)
              have hzd : decide (z2 < 0) = true := decide_eq_true hz0
              clear HHj
              go_wp2
              go_region_held3 (fun w' => SkS W.heap.size b (o + j * 4) m x.m w') (first | exact Sd | exact S1 | fail)
                (first | (go_at_call 17; refine HC.out.mono ?_; rintro e w6 ⟨rfl, hb6⟩; have S1 := SkS.below Sd hb6) | fail)
              have H6 := Lib.hid (HBd.out.trans (hb6.mono HBd.out.size))
              have HX6 := Lib.hid (mkat_keep HXd.out hb6)
              clear Sd S1 hb6 i3 i2
              go_wp2
              go_roundw
              case rel => exact ⟨j + 1, hlt, by go_num, HX6.out, H6.out⟩
              case measure => simp [intOf]; omega
            · have hjk : decide (j < k) = false := decide_eq_false (mt HHj.out.2 hz0)
              have hjk2 : decide ((j : Int) < (k : Int)) = false := decide_eq_false (by have := mt HHj.out.2 hz0; omega)
              have hzd : decide (z2 < 0) = false := decide_eq_false hz0
              clear HHj
              go_wp2
              go_region_held3 (fun w' => SkS W.heap.size b (o + j * 4) m x.m w') (first | exact Sd | exact S1 | fail)
                (first | (go_at_call 17; refine HC.out.mono ?_; rintro e w6 ⟨rfl, hb6⟩; have S1 := SkS.below Sd hb6) | fail)
              have H6 := Lib.hid (HBd.out.trans (hb6.mono HBd.out.size))
              have HX6 := Lib.hid (mkat_keep HXd.out hb6)
              clear Sd S1 hb6 i3 i2
              go_wp2
              go_roundw
              case rel => exact ⟨j + 1, hlt, by go_num, HX6.out, H6.out⟩
              case measure => simp [intOf]; omega
          · obtain rfl : n = j := by omega
            clear hxj hbj
            go_wp2
            go_ret
            exact ⟨rfl, HBj.out⟩
end Go.Proofs.Ytiodiiedgmobjaa
