/-
  The walk of BlocksCut.
-/
import Derived.Test.YtiodiiedgmobjaaAl8
import Derived.Test.YtiodiiedgmobjaaTwin
import Derived.Test.YtiodiiedgmobjaaESize
import Derived.Test.YtiodiiedgmobjaaStep
import Derived.Laws.OwnMore
namespace Go.Proofs.Ytiodiiedgmobjaa
open Go.RowKit
set_option linter.unusedVariables false
set_option maxRecDepth 100000

theorem run_head2 (w : World) (A : Option Addr) (n c h : Nat) (h3 : h ≤ c) :
    (Instr.slice 23 (.slice A n c) none (some (.int .i64 (h : Int))) none).run Try.prog w = .ok (.slice A h c) w := by
  obtain ⟨i0, hi, hz0, hz1, hz2⟩ := info_parts byte_info
  unfold Instr.slice
  simp [run_underlying Try.underlying23, Instr.sliceBounds, Instr.sliceBound, asIntOf, sizeOf, typeInfo, hi, h3]
  cases A <;> simp [Addr.add]
/-- the law's three bytes in a block of their own -/
def C3 (w : World) (g : Nat) (x y z : UInt8) : Prop := w.heap[g]? = some (.cells #[bv x, bv y, bv z] 44 (0, 0))
theorem C3.cell {w : World} {g : Nat} {x y z : UInt8} (h : C3 w g x y z) : w.cell? ⟨g, 0, none⟩ = some (.int .u8 (x.toNat : Int)) ∧ w.cell? ⟨g, 1, none⟩ = some (.int .u8 (y.toNat : Int)) ∧ w.cell? ⟨g, 2, none⟩ = some (.int .u8 (z.toNat : Int)) :=
  ⟨cell_of_row w g 0 _ _ (0, 0) h, cell_of_row w g 1 _ _ (0, 0) h, cell_of_row w g 2 _ _ (0, 0) h⟩
theorem C3.lt {w : World} {g : Nat} {x y z : UInt8} (h : C3 w g x y z) : g < w.heap.size := (Array.getElem?_eq_some_iff.1 h).1
theorem C3.below {w w' : World} {g : Nat} {x y z : UInt8} (h : C3 w g x y z) (hb : Below w.heap.size w w') : C3 w' g x y z := (hb.block g h.lt).trans h
theorem C3.far {w : World} {g : Nat} {x y z : UInt8} (h : C3 w g x y z) {p : Addr} (hp : g ≠ p.block) (u : Value) : C3 (w.setCell p u) g x y z := (Below.heap_setCell w p u g hp).trans h

/-- what is told of the changed block -/
theorem cut_place {l : List En} (hok : okB l = true) (hs : Seqs l) (y z : UInt8) : ∃ q a b cn, encB l = q ++ [a, b, 0, cn] ∧ ((encB l).set ((encB l).length - 4) y).set ((encB l).length - 3) z = q ++ [y, z, 0, cn] ∧ q.length = (encB l).length - 4 := by
  obtain ⟨q, a, b, cn, he, _, _⟩ := enc_place l hok
  refine ⟨q, a, b, cn, he, ?_, by rw [he]; simp⟩
  rw [he]
  have hl : (q ++ [a, b, 0, cn]).length = q.length + 4 := by simp
  rw [hl, Nat.add_sub_cancel, show q.length + 4 - 3 = q.length + 1 from by omega]
  rw [List.set_append_right _ _ (Nat.le_refl _), Nat.sub_self, List.set_append_right _ _ (by omega), show q.length + 1 - q.length = 1 from by omega]
  rfl

set_option maxHeartbeats 8000000 in
theorem blocksCut_walk (A : Option Addr) (n c : Nat) (l : List En) (m1 : Nat) (cs : List UInt8) (W : World) (hl : Lies W W.heap.size 4 A n (ecs l)) (hu : ∀ x ∈ l, x.m.s < 18446744073709551616 ∧ x.m.k.size ≤ 140737488351232 ∧ x.x.size ≤ 140737488351232) (hn : l.length = n) (hnc : n ≤ c) (hc : c ≤ 140737488351232)
    (hm : m1 < 65536) (h3 : cs.length = 3) :
    Calls Try.prog 5 #[.slice A n c, .int .u16 (m1 : Int), .agg (cs.map bv).toArray] W fun e W' => e = .returned (.bool true) ∧ Below W.heap.size W W' := by
  obtain ⟨i0, hi, hz0, hz1, hz2⟩ := info_parts byte_info
  obtain ⟨x, y, z, rfl⟩ : ∃ x y z, cs = [x, y, z] := by
    match cs, h3 with
    | [x, y, z], _ => exact ⟨x, y, z, rfl⟩
  have HEL : Hid (EL W W.heap.size A n c l) := ⟨hl, Nat.le_refl _, hnc, by unfold maxLen; omega, fun e he => (hu e he).2⟩
  have HU := Lib.hid hu; have HN := Lib.hid hn
  have HUp : Hid (∀ W', Below W.heap.size W W' → EL W' W.heap.size A n c l) := fun W' hb => HEL.out.below hb
  have HSq : Hid (∀ e ∈ l, e.m.s < 18446744073709551616) := fun e he => (hu e he).1
  have hnb : n ≤ 140737488351232 := by omega
  have hB0 : Below W.heap.size W (W.alloc (.cells #[bv x, bv y, bv z] 44)) := (Below.refl _ _).alloc (Nat.le_refl _) _
  have hx0 : C3 (W.alloc (.cells #[bv x, bv y, bv z] 44)) W.heap.size x y z := heap_alloc_new W _
  obtain ⟨W1, hW⟩ : ∃ W1, W.alloc (.cells #[bv x, bv y, bv z] 44) = W1 := ⟨_, rfl⟩
  rw [hW] at hx0 hB0
  have HW : Hid (W.alloc (.cells #[.int .u8 (x.toNat : Int), .int .u8 (y.toNat : Int), .int .u8 (z.toNat : Int)] 44) = W1) := hW
  have HX := Lib.hid hx0; have HB0 := Lib.hid hB0
  show Calls _ _ #[.slice A n c, .int .u16 (m1 : Int), .agg #[.int .u8 (x.toNat : Int), .int .u8 (y.toNat : Int), .int .u8 (z.toNat : Int)]] W _
  clear hl hu hn hx0 hB0 hW h3
  go_enter Try.func5, Try.ntmps5
  go_wp2_with fail
  rw [HW.out]
  clear HW
  refine (alive8_any W1).mono ?_
  rintro e w1 ⟨rfl, hb1⟩
  have H1 := Lib.hid (HB0.out.trans (hb1.mono HB0.out.size))
  have HX1 := Lib.hid (HX.out.below hb1)
  have HES := Lib.hid (entriesSize_any A n c l w1 ((HUp.out w1 H1.out).lies.more H1.out.size) HU.out hnb)
  clear hb1
  go_wp2_with fail
  refine HES.out.mono ?_
  rintro e w2 ⟨z0, q0, rfl, hw2, hz⟩
  have hb2 : Below W.heap.size W w2 := by rw [hw2]; exact below_drewN H1.out q0
  have hx2 : C3 w2 W.heap.size x y z := by rw [hw2]; exact HX1.out
  have H2 := Lib.hid hb2
  have HX2 := Lib.hid hx2
  have HZ := Lib.hid hz
  clear hb2 hw2 hz HES hx2
  by_cases hzb : 40000 < z0
  · have hzi : decide ((40000 : Int) < (z0 : Int)) = true := decide_eq_true (by omega)
    go_wp2_with fail
    refine (alive8_any w2).mono ?_
    rintro e w3 ⟨rfl, hb3⟩
    have HF := Lib.hid (H2.out.trans (hb3.mono H2.out.size))
    clear hb3
    go_wp2
    go_ret
    exact ⟨rfl, HF.out⟩
  · have hzi : decide ((40000 : Int) < (z0 : Int)) = false := decide_eq_false (by omega)
    have HP := Lib.hid (bput_any l HSq.out A n c W.heap.size w2 (HUp.out w2 H2.out))
    go_wp2_with fail
    refine HP.out.mono ?_
    rintro e w3 ⟨hb3, h1, h0⟩
    have H3 := Lib.hid (H2.out.trans (hb3.mono H2.out.size))
    have HX3 := Lib.hid (HX2.out.below hb3)
    clear HP
    obtain ⟨b, hb⟩ : ∃ b, okB l = b := ⟨_, rfl⟩
    have HOk := Lib.hid hb
    rw [hb] at h1 h0
    cases b
    · obtain rfl := h0 rfl
      clear h0 h1 hb3 hb
      go_wp2
      go_ret
      exact ⟨rfl, H3.out⟩
    · obtain ⟨A3, c3, rfl, ho3⟩ := h1 rfl
      have hel := encB_len l HOk.out
      obtain ⟨_, _, hv, hn3, hc3, _⟩ := own_shape ho3
      injection hv with e1 e2 e3
      subst e1 e3
      obtain ⟨q, a, b, cn, hq1, hq2, hq3⟩ := cut_place HOk.out HSq.out y z
      have HPl := Lib.hid (no_place l HOk.out HSq.out (a' := y) (b' := z) hq1)
      have HSn := Lib.hid (no_snoc l HOk.out x)
      have HTk := Lib.hid (no_take l HOk.out HSq.out)
      obtain ⟨E, hE⟩ : ∃ E, encB l = E := ⟨_, rfl⟩
      rw [hE] at ho3 hel hq1 hq2 hq3 HSn HTk hn3 ⊢
      obtain ⟨N, hN⟩ : ∃ N, E.length = N := ⟨_, rfl⟩
      rw [hN] at ho3 hel hq2 hq3 HTk hn3 ⊢
      have L3 := Lib.hid (Lies.of_own ho3)
      have HQ1 := Lib.hid hq1; have HQ2 := Lib.hid hq2; have HQ3 := Lib.hid hq3; have HNE := Lib.hid hN
      have hlt8 : decide ((N : Int) < 8) = false := decide_eq_false (by omega)
      have hlt8' : decide (N < 8) = false := decide_eq_false (by omega)
      have hN8 : 8 ≤ N := hel.1
      have hNb : N ≤ 22000 := hel.2
      obtain ⟨x0, x1, x2⟩ := HX3.out.cell
      have hd1 : Below w3.heap.size w3 w3.drew := ⟨rfl, rfl, rfl, Nat.le_refl _, fun _ _ => rfl⟩
      have HTw : Hid (∀ W', Below w3.heap.size w3 W' → Calls Try.prog 18 #[.slice A3 N c3] W' fun e w' => ∃ g c', e = .returned (.slice (some ⟨g, 0, none⟩) N c') ∧ w'.ownsRow W'.heap.size 5 1 (.slice (some ⟨g, 0, none⟩) N c') N (E.map bv) ∧ Below W'.heap.size W' w' ∧ N + 1 ≤ c' ∧ c' ≤ maxLen) := fun W' hb =>
        (twin_any A3 N c3 E W' ((L3.out.below hb).more hb.size) (by omega)).mono fun e w' ⟨g, c', he, ho, hb'⟩ => by
          obtain ⟨_, _, hv, hn', hc', _⟩ := own_shape ho
          injection hv with e1 e2 e3
          subst e3
          rw [List.map_append] at ho
          exact ⟨g, _, he, own_less (xs := E.map bv) (u := bv 77) ho, hb', hn', hc'⟩
      have HG1 : Hid (∀ W' A' c' base, W'.ownsRow base 5 1 (.slice A' (N + 1) c') (N + 1) ((E ++ [x]).map bv) → Calls Try.prog 13 #[.slice A' (N + 1) c'] W' fun e w' => e = .returned (.tuple #[.slice none 0 0, .int .i64 4]) ∧ Below W'.heap.size W' w') := fun W' A' c' base ho => by
        obtain ⟨_, _, hv, hn', hc', _⟩ := own_shape ho
        injection hv with e1 e2 e3
        subst e1 e3
        refine (bget_any A' (N + 1) _ (E ++ [x]) W' (Lies.of_own ho) hn' hc' (by omega)).mono ?_
        rintro e w' ⟨hb', _, h⟩
        exact ⟨h HSn.out, hb'⟩
      have hda : Below w3.heap.size w3 (w3.alloc (.cells #[.int .u8 (x.toNat : Int)] 5)) := (Below.refl _ _).alloc (Nat.le_refl _) _
      have HDA := Lib.hid hda
      have HD1 := Lib.hid hd1
      have x0a : (w3.alloc (.cells #[.int .u8 (x.toNat : Int)] 5)).cell? ⟨W.heap.size, 0, none⟩ = some (.int .u8 (x.toNat : Int)) := (HX3.out.below hda).cell.1
      clear h0 h1 hb3 hb hE hN hq1 hq2 hq3 ho3 hd1 hda
      go_wp2
      go_region_law (first
        | (go_simp; go_at_call 18; refine (HTw.out _ HD1.out).mono ?_; rintro e w6 ⟨g6, c6, rfl, ho6, hb6, hn6, hc6⟩; have ho6' := own_base (base' := w3.heap.size) ho6 HD1.out.size; have hw36 := HD1.out.trans (hb6.mono HD1.out.size); have x06 := (HX3.out.below hw36).cell.1)
        | (go_simp; go_at_call 18; refine (HTw.out _ HDA.out.drew).mono ?_; rintro e w6 ⟨g6, c6, rfl, ho6, hb6, hn6, hc6⟩; have ho6' := own_base (base' := w3.heap.size) ho6 HDA.out.drew.size; have hw36 := HDA.out.drew.trans (hb6.mono HDA.out.drew.size); have hlit : Lies w6 (w3.heap.size + 1) 1 (some ⟨w3.heap.size, 0, none⟩) 1 [bv x] := ((one_lies rfl (bv x) 5 : Lies (w3.alloc (.cells #[.int .u8 (x.toNat : Int)] 5)) (w3.heap.size + 1) 1 (some ⟨w3.heap.size, 0, none⟩) 1 [bv x]).drew).below (hb6.mono (by simp)))
        | (refine step_app _ rfl (.tmp 41) (.tmp 44) 23 rfl w3.heap.size 5 i0 _ 1 1 Try.underlying23 hi hz0 hz1 hz2 rfl (by decide) (.slice (some ⟨g6, 0, none⟩) N c6) N (E.map bv) rfl (World.ownsRow.alloc (w := w6) ho6' _) (w6.heap.size + 1) (some ⟨w6.heap.size, 0, none⟩) 1 1 [bv x] rfl (one_lies rfl _ _) (by intro u hu; simp at hu; subst hu; rfl) (by unfold maxLen; omega) (by omega) (by have := hw36.size; simp; omega) ?_; intro v8 w8 ho8 hg8 _; obtain ⟨A8, c8, rfl, hn8, hc8, _⟩ := own_shape ho8; have ho8' : w8.ownsRow w3.heap.size 5 1 (.slice A8 (N + 1) c8) (N + 1) ((E ++ [x]).map bv) := (by rw [List.map_append]; exact ho8); have hw38 : Below w3.heap.size w3 w8 := Below.grown (hw36.alloc hw36.size (.cells #[.int .u8 (x.toNat : Int)] 5)) hg8 (by have := hw36.size; simp; omega) (fun j hj => (ho6'.lt j hj).1))
        | (refine step_app _ rfl (.tmp 41) (.tmp 44) 23 rfl w3.heap.size 5 i0 _ 1 1 Try.underlying23 hi hz0 hz1 hz2 rfl (by decide) (.slice (some ⟨g6, 0, none⟩) N c6) N (E.map bv) rfl ho6' (w3.heap.size + 1) (some ⟨w3.heap.size, 0, none⟩) 1 1 [bv x] rfl hlit (by intro u hu; simp at hu; subst hu; rfl) (by unfold maxLen; omega) (by omega) hw36.size ?_; intro v8 w8 ho8 hg8 _; obtain ⟨A8, c8, rfl, hn8, hc8, _⟩ := own_shape ho8; have ho8' : w8.ownsRow w3.heap.size 5 1 (.slice A8 (N + 1) c8) (N + 1) ((E ++ [x]).map bv) := (by rw [List.map_append]; exact ho8); have hw38 : Below w3.heap.size w3 w8 := Below.grown hw36 hg8 hw36.size (fun j hj => (ho6'.lt j hj).1))
        | (go_simp; go_at_call 13; refine (HG1.out w8 A8 c8 w3.heap.size ho8').mono ?_; rintro e w9 ⟨rfl, hb9⟩; have hw39 := hw38.trans (hb9.mono hw38.size))
        | fail)
      all_goals (
        have H9 := Lib.hid (H3.out.trans (hw39.mono H3.out.size))
        have HX9 := Lib.hid (HX3.out.below hw39)
        have L9 := Lib.hid ((L3.out.below hw39).more hw39.size)
        have HTw9 := Lib.hid (HTw.out w9 hw39)
        clear ho6 ho6' hb6 hn6 hc6 ho8 ho8' hg8 hn8 hc8 hw36 hw38 hb9 hw39 x0 x1 x2 x0a)
      all_goals try clear hlit
      all_goals try clear x06
      all_goals try simp only [Act.put, List.setIfInBounds_toArray, List.set_cons_zero, List.set_cons_succ, List.getElem_toArray, List.getElem_cons_zero, List.getElem_cons_succ]
      all_goals go_wp2_with fail
      all_goals (
        refine HTw9.out.mono ?_
        rintro e wA ⟨gA, cA, rfl, hoA, hbA, hnA, hcA⟩
        have hgA : w9.heap.size ≤ gA := (hoA.lt gA rfl).1
        have HXA := HX9.out.below hbA
        obtain ⟨x0, x1, x2⟩ := HXA.cell
        have hneA : W.heap.size ≠ gA := by have := HX9.out.lt; omega
        have HTE : Hid (∃ ya yb, E[N - 4]? = some ya ∧ E[N - 3]? = some yb ∧ (ya = a ∧ yb = b)) := by
          refine ⟨a, b, ?_, ?_, rfl, rfl⟩
          · rw [HQ1.out, ← HQ3.out]; simp
          · rw [HQ1.out, show N - 3 = q.length + 1 by have := HQ3.out; omega]; simp
        obtain ⟨ya, yb, hya, hyb, rfl, rfl⟩ := HTE.out
        have hA4 : wA.cell? ⟨gA, N - 4, none⟩ = some (.int .u8 (ya.toNat : Int)) := by rw [hoA.cellAt (N - 4) (by omega), List.getElem?_map, hya]; rfl
        have hfA := hoA.frozenAt (N - 4)
        have ho1 := (hoA.stored (N - 4) (bv y)).1
        have hA3 : (wA.setCell ⟨gA, N - 4, none⟩ (bv y)).cell? ⟨gA, N - 3, none⟩ = some (.int .u8 (yb.toNat : Int)) := by
          rw [ho1.cellAt (N - 3) (by omega), List.getElem?_set_ne (by omega), List.getElem?_map, hyb]; rfl
        have hfA3 := ho1.frozenAt (N - 3)
        have ho2 := (ho1.stored (N - 3) (bv z)).1
        rw [← List.map_set, ← List.map_set, HQ2.out] at ho2
        have hbA1 : Below w9.heap.size w9 ((wA.setCell ⟨gA, N - 4, none⟩ (bv y)).setCell ⟨gA, N - 3, none⟩ (bv z)) := (hbA.setCell (p := ⟨gA, N - 4, none⟩) hgA _).setCell (p := ⟨gA, N - 3, none⟩) hgA _
        have HXB := Lib.hid ((HXA.far (p := ⟨gA, N - 4, none⟩) hneA (bv y)).far (p := ⟨gA, N - 3, none⟩) hneA (bv z))
        have HO2 := Lib.hid ho2
        have x2b : (wA.setCell ⟨gA, N - 4, none⟩ (bv y)).cell? ⟨W.heap.size, 2, none⟩ = some (.int .u8 (z.toNat : Int)) := (HXA.far (p := ⟨gA, N - 4, none⟩) hneA (bv y)).cell.2.2
        have HBA := Lib.hid hbA1
        obtain ⟨n4, hn4⟩ : ∃ q, N - 4 = q := ⟨_, rfl⟩
        obtain ⟨n3, hn3'⟩ : ∃ q, N - 3 = q := ⟨_, rfl⟩
        have j1 : (N : Int) - 4 = (n4 : Int) := by omega
        have j2 : (N : Int) - 3 = (n3 : Int) := by omega
        have j3 : (n4 : Int) < (N : Int) := by omega
        have j4 : (n3 : Int) < (N : Int) := by omega
        have j5 : n4 < N := by omega
        have j6 : n3 < N := by omega
        have j7 : n4 ≠ n3 := by omega
        rw [hn4] at hA4 hfA hA3 hfA3 x2b HXB HO2 HBA hya
        rw [hn3'] at hA3 hfA3 HXB HO2 HBA hyb
        obtain ⟨wB, hwB⟩ : ∃ w, (wA.setCell ⟨gA, n4, none⟩ (bv y)).setCell ⟨gA, n3, none⟩ (bv z) = w := ⟨_, rfl⟩
        rw [hwB] at HXB HO2 HBA
        have HwB : Hid ((wA.setCell ⟨gA, n4, none⟩ (.int .u8 (y.toNat : Int))).setCell ⟨gA, n3, none⟩ (.int .u8 (z.toNat : Int)) = wB) := hwB
        have HN43 := Lib.hid (And.intro hn4 hn3')
        clear hoA hbA hgA HXA ho1 ho2 hbA1 hwB hn4 hn3' HTw9 HTE hnA hcA)
      all_goals go_wp2_with fail
      all_goals (
        rw [HwB.out]
        obtain ⟨_, _, hv, hnA, hcA, _⟩ := own_shape HO2.out
        injection hv with f1 f2 f3
        subst f1 f3
        have HGd := Lib.hid (bget_any (some ⟨gA, 0, none⟩) N cA (q ++ [y, z, 0, cn]) wB (Lies.of_own HO2.out) hnA hcA (by omega))
        clear HwB x0 x1 x2 x2b hA4 hA3 hfA hfA3)
      all_goals (
        obtain ⟨kk, hkd⟩ : ∃ k, m1 % N = k := ⟨_, rfl⟩
        have hkk : kk < N := by rw [← hkd]; exact Nat.mod_lt _ (by omega)
        have r1 : (m1 : Int) % (N : Int) = (kk : Int) := by rw [← hkd]; simp
        have r2 : ((N : Int) == 0) = false := by rw [beq_eq_false_iff_ne]; omega
        have r3 : (0 : Int) < (N : Int) := by omega
        have r4 : (kk : Int) < 65536 := by have := Nat.mod_le m1 N; omega
        have hab := HPl.out
        clear hkd hnA hcA
        by_cases hy1 : y = ya
        · by_cases hz1 : z = yb
          · rw [if_pos ⟨hy1, hz1⟩] at hab
            rw [hab] at HGd
            clear hab
            go_wp2_with fail
            refine HGd.out.mono ?_
            rintro e wC ⟨hbC, g1, g0⟩
            obtain ⟨AC, cC, rfl, _⟩ := g1 l rfl
            have HBC := Lib.hid (HBA.out.trans (hbC.mono HBA.out.size))
            have hoC := own_below HO2.out hbC
            have d4 : wC.cell? ⟨gA, n4, none⟩ = some (.int .u8 (y.toNat : Int)) := by
              rw [hoC.cellAt n4 (by omega), List.getElem?_map, ← HN43.out.1, ← HQ3.out]; simp
            have d3 : wC.cell? ⟨gA, n3, none⟩ = some (.int .u8 (z.toNat : Int)) := by
              rw [hoC.cellAt n3 (by omega), List.getElem?_map, ← HN43.out.2, show N - 3 = q.length + 1 by have := HQ3.out; omega]; simp
            have LC := L9.out.below HBC.out
            obtain ⟨b5, o5, u5, rfl, hb5, hu5, b4⟩ := LC.at_ (j := n4) (by omega)
            obtain ⟨b6, o6, u6, hA6, _, hu6, b3⟩ := LC.at_ (j := n3) (by omega)
            injection hA6 with hA6
            injection hA6 with f1 f2
            subst f1 f2
            rw [List.getElem?_map, hya] at hu5
            rw [List.getElem?_map, hyb] at hu6
            injection hu5 with hu5
            injection hu6 with hu6
            subst hu5 hu6
            have HQC : Hid (∀ p, Lies (wC.drewN p) (wC.drewN p).heap.size 1 (some ⟨b5, o5, none⟩) N (E.map bv) ∧ Below W.heap.size W (wC.drewN p)) := fun p => ⟨(LC.more HBC.out.size).drewN p, below_drewN (H9.out.trans (HBC.out.mono H9.out.size)) p⟩
            have v1 : IntKind.i64.wrap (n4 : Int) = (n4 : Int) := by apply IntWalk.i64_in; omega
            have v2 : IntKind.i64.wrap (n3 : Int) = (n3 : Int) := by apply IntWalk.i64_in; omega
            have v3 : (0 : Int) ≤ (n4 : Int) := by omega
            have v4 : (0 : Int) ≤ (n3 : Int) := by omega
            have s1 : ((y.toNat : Int) == (ya.toNat : Int)) = true := by rw [hy1]; simp
            have s2 : ((z.toNat : Int) == (yb.toNat : Int)) = true := by rw [hz1]; simp
            clear hy1 hz1
            clear hbC g1 g0 hoC LC hb5 HGd hya hyb
            go_wp2
            go_quiet (fail)
            obtain ⟨lq, hbq⟩ := HQC.out nq
            generalize wC.drewN nq = wD at *
            have HBD := Lib.hid hbq
            have HGk := Lib.hid (bget_any (some ⟨b5, o5, none⟩) kk c3 (E.take kk) wD (lies_take (m := kk) lq (by omega)) (by omega) hc3 (by omega))
            rw [HTk.out kk hkk] at HGk
            have hsl := fun W => run_head2 W (some ⟨b5, o5, none⟩) N c3 kk (by omega)
            clear lq hbq d4 d3 b4 b3 HQC v1 v2
            go_wp2_with fail
            refine HGk.out.mono ?_
            rintro e wE ⟨hbE, _, p0⟩
            obtain rfl := p0 rfl
            have HF := Lib.hid (HBD.out.trans (hbE.mono HBD.out.size))
            clear hbE p0 HGk hsl
            go_wp2
            go_ret
            exact ⟨rfl, HF.out⟩
          · rw [if_neg (fun h => hz1 h.2)] at hab
            rw [hab] at HGd
            clear hab
            go_wp2_with fail
            refine HGd.out.mono ?_
            rintro e wC ⟨hbC, g1, g0⟩
            obtain rfl := g0 rfl
            have HBC := Lib.hid (HBA.out.trans (hbC.mono HBA.out.size))
            have hoC := own_below HO2.out hbC
            have d4 : wC.cell? ⟨gA, n4, none⟩ = some (.int .u8 (y.toNat : Int)) := by
              rw [hoC.cellAt n4 (by omega), List.getElem?_map, ← HN43.out.1, ← HQ3.out]; simp
            have d3 : wC.cell? ⟨gA, n3, none⟩ = some (.int .u8 (z.toNat : Int)) := by
              rw [hoC.cellAt n3 (by omega), List.getElem?_map, ← HN43.out.2, show N - 3 = q.length + 1 by have := HQ3.out; omega]; simp
            have LC := L9.out.below HBC.out
            obtain ⟨b5, o5, u5, rfl, hb5, hu5, b4⟩ := LC.at_ (j := n4) (by omega)
            obtain ⟨b6, o6, u6, hA6, _, hu6, b3⟩ := LC.at_ (j := n3) (by omega)
            injection hA6 with hA6
            injection hA6 with f1 f2
            subst f1 f2
            rw [List.getElem?_map, hya] at hu5
            rw [List.getElem?_map, hyb] at hu6
            injection hu5 with hu5
            injection hu6 with hu6
            subst hu5 hu6
            have HQC : Hid (∀ p, Lies (wC.drewN p) (wC.drewN p).heap.size 1 (some ⟨b5, o5, none⟩) N (E.map bv) ∧ Below W.heap.size W (wC.drewN p)) := fun p => ⟨(LC.more HBC.out.size).drewN p, below_drewN (H9.out.trans (HBC.out.mono H9.out.size)) p⟩
            have v1 : IntKind.i64.wrap (n4 : Int) = (n4 : Int) := by apply IntWalk.i64_in; omega
            have v2 : IntKind.i64.wrap (n3 : Int) = (n3 : Int) := by apply IntWalk.i64_in; omega
            have v3 : (0 : Int) ≤ (n4 : Int) := by omega
            have v4 : (0 : Int) ≤ (n3 : Int) := by omega
            have s1 : ((y.toNat : Int) == (ya.toNat : Int)) = true := by rw [hy1]; simp
            have s2 : ((z.toNat : Int) == (yb.toNat : Int)) = false := by rw [beq_eq_false_iff_ne]; intro h; exact hz1 (UInt8.toNat_inj.1 (by omega))
            clear hy1 hz1
            clear hbC g1 g0 hoC LC hb5 HGd hya hyb
            go_wp2
            go_quiet (fail)
            obtain ⟨lq, hbq⟩ := HQC.out nq
            generalize wC.drewN nq = wD at *
            have HBD := Lib.hid hbq
            have HGk := Lib.hid (bget_any (some ⟨b5, o5, none⟩) kk c3 (E.take kk) wD (lies_take (m := kk) lq (by omega)) (by omega) hc3 (by omega))
            rw [HTk.out kk hkk] at HGk
            have hsl := fun W => run_head2 W (some ⟨b5, o5, none⟩) N c3 kk (by omega)
            clear lq hbq d4 d3 b4 b3 HQC v1 v2
            go_wp2_with fail
            refine HGk.out.mono ?_
            rintro e wE ⟨hbE, _, p0⟩
            obtain rfl := p0 rfl
            have HF := Lib.hid (HBD.out.trans (hbE.mono HBD.out.size))
            clear hbE p0 HGk hsl
            go_wp2
            go_ret
            exact ⟨rfl, HF.out⟩
        · rw [if_neg (fun h => hy1 h.1)] at hab
          rw [hab] at HGd
          clear hab
          go_wp2_with fail
          refine HGd.out.mono ?_
          rintro e wC ⟨hbC, g1, g0⟩
          obtain rfl := g0 rfl
          have HBC := Lib.hid (HBA.out.trans (hbC.mono HBA.out.size))
          have hoC := own_below HO2.out hbC
          have d4 : wC.cell? ⟨gA, n4, none⟩ = some (.int .u8 (y.toNat : Int)) := by
            rw [hoC.cellAt n4 (by omega), List.getElem?_map, ← HN43.out.1, ← HQ3.out]; simp
          have d3 : wC.cell? ⟨gA, n3, none⟩ = some (.int .u8 (z.toNat : Int)) := by
            rw [hoC.cellAt n3 (by omega), List.getElem?_map, ← HN43.out.2, show N - 3 = q.length + 1 by have := HQ3.out; omega]; simp
          have LC := L9.out.below HBC.out
          obtain ⟨b5, o5, u5, rfl, hb5, hu5, b4⟩ := LC.at_ (j := n4) (by omega)
          obtain ⟨b6, o6, u6, hA6, _, hu6, b3⟩ := LC.at_ (j := n3) (by omega)
          injection hA6 with hA6
          injection hA6 with f1 f2
          subst f1 f2
          rw [List.getElem?_map, hya] at hu5
          rw [List.getElem?_map, hyb] at hu6
          injection hu5 with hu5
          injection hu6 with hu6
          subst hu5 hu6
          have HQC : Hid (∀ p, Lies (wC.drewN p) (wC.drewN p).heap.size 1 (some ⟨b5, o5, none⟩) N (E.map bv) ∧ Below W.heap.size W (wC.drewN p)) := fun p => ⟨(LC.more HBC.out.size).drewN p, below_drewN (H9.out.trans (HBC.out.mono H9.out.size)) p⟩
          have v1 : IntKind.i64.wrap (n4 : Int) = (n4 : Int) := by apply IntWalk.i64_in; omega
          have v2 : IntKind.i64.wrap (n3 : Int) = (n3 : Int) := by apply IntWalk.i64_in; omega
          have v3 : (0 : Int) ≤ (n4 : Int) := by omega
          have v4 : (0 : Int) ≤ (n3 : Int) := by omega
          have s1 : ((y.toNat : Int) == (ya.toNat : Int)) = false := by rw [beq_eq_false_iff_ne]; intro h; exact hy1 (UInt8.toNat_inj.1 (by omega))
          clear hy1
          clear hbC g1 g0 hoC LC hb5 HGd hya hyb
          go_wp2
          go_quiet (fail)
          obtain ⟨lq, hbq⟩ := HQC.out nq
          generalize wC.drewN nq = wD at *
          have HBD := Lib.hid hbq
          have HGk := Lib.hid (bget_any (some ⟨b5, o5, none⟩) kk c3 (E.take kk) wD (lies_take (m := kk) lq (by omega)) (by omega) hc3 (by omega))
          rw [HTk.out kk hkk] at HGk
          have hsl := fun W => run_head2 W (some ⟨b5, o5, none⟩) N c3 kk (by omega)
          clear lq hbq d4 d3 b4 b3 HQC v1 v2
          go_wp2_with fail
          refine HGk.out.mono ?_
          rintro e wE ⟨hbE, _, p0⟩
          obtain rfl := p0 rfl
          have HF := Lib.hid (HBD.out.trans (hbE.mono HBD.out.size))
          clear hbE p0 HGk hsl
          go_wp2
          go_ret
          exact ⟨rfl, HF.out⟩)
end Go.Proofs.Ytiodiiedgmobjaa
