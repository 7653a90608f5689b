/-
  The walk of SortedFinds.
-/
import Derived.Test.YtjikkdfiainjjaaLaw10P
import Derived.Test.YtjikkdfiainjjaaFrame13
namespace Go.Proofs.Ytjikkdfiainjjaa
open Go.RowKit
set_option linter.unusedVariables false
set_option maxRecDepth 100000

theorem run_cut2E (w : World) (A : Option Addr) (n c l h : Nat) (h1 : l ≤ h) (h2 : h ≤ c) :
    (Instr.slice 22 (.slice A n c) (some (.int .i64 (l : Int))) (some (.int .i64 (h : Int))) none).run Try.prog w = .ok (.slice (cutE A c l) (h - l) (c - l)) w := by
  obtain ⟨i0, hi, hz0, hz1, hz2⟩ := info_parts entry_info
  unfold Instr.slice cutE
  simp [run_underlying Try.underlying22, Instr.sliceBounds, Instr.sliceBound, asIntOf, sizeOf, typeInfo, hi, hz1, h1, h2]
theorem en_eq (x : En) (W : World) : (binOp BinOp.eql 37 (.agg #[.string x.m.k, .int .u64 (x.m.s : Int), .bool x.m.g, .string x.x]) (.agg #[.string x.m.k, .int .u64 (x.m.s : Int), .bool x.m.g, .string x.x])).run Try.prog W = .ok (.bool true) W := by go_simp
/-- a mark and a number, in their block -/
def LookAt (w : World) (g : Nat) (m : Mk) (t : Int) : Prop := w.heap[g]? = some (.cells #[.string m.k, .int .u64 (m.s : Int), .bool m.g, .int .i64 t] 45 (0, 0))
theorem LookAt.cells {w : World} {g : Nat} {m : Mk} {t : Int} (h : LookAt w g m t) : w.cell? ⟨g, 0, none⟩ = some (.string m.k) ∧ w.cell? ⟨g, 1, none⟩ = some (.int .u64 (m.s : Int)) ∧ w.cell? ⟨g, 2, none⟩ = some (.bool m.g) ∧ w.cell? ⟨g, 3, none⟩ = some (.int .i64 t) :=
  ⟨cell_of_row _ _ 0 _ _ (0, 0) h, cell_of_row _ _ 1 _ _ (0, 0) h, cell_of_row _ _ 2 _ _ (0, 0) h, cell_of_row _ _ 3 _ _ (0, 0) h⟩
theorem LookAt.below {w w' : World} {g : Nat} {m : Mk} {t : Int} (h : LookAt w g m t) (hb : Below w.heap.size w w') : LookAt w' g m t := (hb.block g (Array.getElem?_eq_some_iff.1 h).1).trans h
/-- what of the last entries was found -/
def fndE (l : List En) (m : Mk) (j : Nat) : Option En := (l.drop j).find? (isK m.k (m.s + 1))
theorem fndE_succ {l : List En} {m : Mk} {i : Nat} {x : En} (h : l[i]? = some x) : fndE l m i = if isK m.k (m.s + 1) x = true then some x else fndE l m (i + 1) := by
  unfold fndE
  rw [List.drop_eq_getElem_cons (List.getElem?_eq_some_iff.1 h).1, List.find?_cons, (List.getElem?_eq_some_iff.1 h).2]
  cases isK m.k (m.s + 1) x <;> rfl
theorem fndE_zero {l : List En} (hr : Rise l) (m : Mk) : fndE l m 0 = getE l m.k m.s := by unfold fndE; rw [List.drop_zero, getE_find l hr]
theorem fndE_end (l : List En) (m : Mk) : fndE l m l.length = none := by unfold fndE; rw [List.drop_length]; rfl
/-- in the loop -/
def FnR (W : World) (l : List En) (n st g3 g7 : Nat) (m : Mk) (t : Int) (v8 v9 v10 : Value) (wr : World) : Prop :=
  ∃ j : Nat, j ≤ n ∧ v10 = .int .i64 ((j : Int) - 1) ∧ v8 = .bool (fndE l m j).isSome ∧ v9 = .int .i64 ((max j st : Nat) : Int) ∧ EnAt wr g7 ((fndE l m j).getD noE) ∧ LookAt wr g3 m t ∧ Below W.heap.size W wr

set_option maxHeartbeats 8000000 in
theorem sortedFinds_walk (A : Option Addr) (n c : Nat) (l : List En) (m : Mk) (t : Int) (W : World) (hl : Lies W W.heap.size 4 A n (ecs l)) (hu : Fits l) (hn : l.length = n) (hnc : n ≤ c) (hc : c ≤ 140737488351232) (hms : m.s < 18446744073709551616) (hmk : m.k.size ≤ 140737488351232) (ht : -9223372036854775808 ≤ t ∧ t ≤ 9223372036854775807) :
    Calls Try.prog 5 #[.slice A n c, lookV m t] W fun e W' => e = .returned (.bool true) ∧ Below W.heap.size W W' := by
  have HEL := Lib.hid (el_of hl hu hnc hc)
  have HU := Lib.hid hu; have HN := Lib.hid hn
  have HSq : Hid (SQ l) := fun e he => (hu e he).1
  have HL := Lib.hid hl
  have hL0 : LookAt (W.alloc (.cells #[.string m.k, .int .u64 (m.s : Int), .bool m.g, .int .i64 t] 45)) W.heap.size m t := heap_alloc_new W _
  have hB0 : Below W.heap.size W (W.alloc (.cells #[.string m.k, .int .u64 (m.s : Int), .bool m.g, .int .i64 t] 45)) := (Below.refl _ _).alloc (Nat.le_refl _) _
  obtain ⟨g3, hg3⟩ : ∃ g3, W.heap.size = g3 := ⟨_, rfl⟩
  have HG3 := Lib.hid hg3
  rw [hg3] at hL0
  clear hl hu hn
  unfold lookV
  go_enter Try.func5, Try.ntmps5
  go_wp2_with fail
  obtain ⟨W0, hW0⟩ : ∃ W0, W.alloc (.cells #[.string m.k, .int .u64 (m.s : Int), .bool m.g, .int .i64 t] 45) = W0 := ⟨_, rfl⟩
  rw [hW0] at hL0 hB0 ⊢
  clear hW0 hg3
  with_reducible refine Calls.mono (alive10_any W0) ?_
  rintro e w1 ⟨rfl, hb1⟩
  have H1 := Lib.hid (hB0.trans (hb1.mono hB0.size))
  have K1 := Lib.hid (hL0.below hb1)
  have HG := Lib.hid (great10_any A n c l w1 ((HL.out.below H1.out).more H1.out.size) HU.out (by omega))
  clear hb1 hL0 hB0
  go_wp2_with fail
  with_reducible refine Calls.mono HG.out ?_
  rintro e w2 ⟨b, rfl, hb3, hb2⟩
  have H2 := Lib.hid (H1.out.trans (hb2.mono H1.out.size))
  have K2 := Lib.hid (K1.out.below hb2)
  have H300 := Lib.hid hb3
  obtain ⟨k0, _, _, _⟩ := K2.out.cells
  clear hb2 hb3 HG
  cases b with
  | true =>
    go_wp2_with fail
    with_reducible refine Calls.mono (alive10_any w2) ?_
    rintro e w3 ⟨rfl, hb3⟩
    have HF := Lib.hid (H2.out.trans (hb3.mono H2.out.size))
    clear hb3
    go_wp2
    go_ret
    exact ⟨rfl, HF.out⟩
  | false =>
    have hn300 : n ≤ 300 := H300.out rfl
    by_cases hk1 : 1000 < m.k.size
    · have hki : ((m.k.size : Int) > 1000) := by omega
      go_wp2_with fail
      with_reducible refine Calls.mono (alive10_any w2) ?_
      rintro e w3 ⟨rfl, hb3⟩
      have HF := Lib.hid (H2.out.trans (hb3.mono H2.out.size))
      clear hb3
      go_wp2
      go_ret
      exact ⟨rfl, HF.out⟩
    · have hki : ¬ ((m.k.size : Int) > 1000) := by omega
      have HP := Lib.hid (sput_any W.heap.size n c A l w2 (HEL.out.below H2.out) HSq.out)
      go_wp2_with fail
      with_reducible refine Calls.mono HP.out ?_
      intro e w3 hp3
      obtain ⟨A3, n3, c3, z3, rfl, hk3, hz3, hz3b, hb3⟩ := sput_some hp3
      have H3 := Lib.hid (H2.out.trans (hb3.mono H2.out.size))
      have K3 := Lib.hid (K2.out.below hb3)
      clear hp3 HP hb3 k0
      by_cases hok : okF l = true
      · obtain ⟨rfl, s3, o3⟩ := hk3 hok
        have HOk := Lib.hid hok
        have hri := ((okA_iff l).1 ((okF_iff l).1 hok).1).2.2
        have HRi := Lib.hid hri
        obtain ⟨_, _, hv3, nc3, cc3, _⟩ := own_shape o3
        injection hv3 with x1 x2 x3
        subst x1 x3
        have L3 := Lib.hid (Lies.of_own o3)
        have hfl := filB_le hok
        subst s3
        obtain ⟨st, hst⟩ : ∃ st, n - (fromM l m).length = st := ⟨_, rfl⟩
        have hstn : st ≤ n := by omega
        have HAh : Hid (∀ i e, l[i]? = some e → (cmpM e.m m < 0 ↔ i < st)) := fun i e hi => by rw [← hst, ← HN.out]; exact fromM_ahead hri m hi
        have HSt := Lib.hid hst
        have hE7 : EnAt (w3.alloc zeroEn) w3.heap.size noE := heap_alloc_new w3 _
        have hB7 : Below w3.heap.size w3 (w3.alloc zeroEn) := (Below.refl _ _).alloc (Nat.le_refl _) _
        have hg37 : g3 < w3.heap.size := (Array.getElem?_eq_some_iff.1 K3.out).1
        have K7 := Lib.hid (K3.out.below hB7)
        have HB7 := Lib.hid hB7
        have hWg : W.heap.size ≤ w3.heap.size := H3.out.size
        obtain ⟨g7, hg7⟩ : ∃ g7, w3.heap.size = g7 := ⟨_, rfl⟩
        have hR : FnR W l n st g3 g7 m t (.bool false) (.int .i64 (n : Int)) (.int .i64 ((n : Int) - 1)) (w3.alloc zeroEn) := ⟨n, Nat.le_refl _, rfl, by rw [show fndE l m n = none from by rw [← HN.out]; exact fndE_end l m]; rfl, by rw [Nat.max_eq_left hstn], by rw [show fndE l m n = none from by rw [← HN.out]; exact fndE_end l m]; rw [← hg7]; exact hE7, K7.out, H3.out.trans (hB7.mono H3.out.size)⟩
        have HR := Lib.hid hR
        clear hk3 hz3 hok hri hst hE7 hB7 o3 hR
        go_wp2_with fail
        rw [hg7] at HB7 hg37
        obtain ⟨W7, hW7⟩ : ∃ W7, w3.alloc zeroEn = W7 := ⟨_, rfl⟩
        rw [hW7] at HR K7 HB7 ⊢
        have hgne : g3 ≠ g7 := by omega
        have hgW : W.heap.size ≤ g7 := by omega
        clear hW7
        go_loopw [8, 9, 10] (fun a b c wr => FnR W l n st g3 g7 m t a b c wr ∧ Below g7 w3 wr) (fun _ _ c _ => (intOf c + 1).toNat)
        case atStart => exact ⟨HR.out, HB7.out⟩
        case round =>
          clear HR
          obtain ⟨⟨j, hj, rfl, rfl, rfl, hE, hK, hb⟩, hlow⟩ := hrel
          have HE := Lib.hid hE; have HK := Lib.hid hK; have HBw := Lib.hid hb; have HLw := Lib.hid hlow
          by_cases hj0 : j = 0
          · subst hj0
            have hj1 : (((0 : Nat) : Int) - 1) = -1 := by omega
            rw [hj1, Nat.zero_max, fndE_zero HRi.out m]
            rw [fndE_zero HRi.out m] at HE
            have HIs : Hid (IsF (filB l) (some l)) := ⟨HOk.out, HSq.out, rfl⟩
            have HGz : Hid (g7 < wr.heap.size) := (Array.getElem?_eq_some_iff.1 hE).1
            have hL4 := (L3.out.below (by rw [hg7]; exact hlow)).more (by have := hlow.size; omega)
            have HGt := Lib.hid (sget_any _ _ _ (filB l) (some l) m.k m.s wr HIs.out hL4 nc3 (by unfold maxLen at cc3; omega) (by omega))
            have HL4 := Lib.hid (fun W' (hb : Below wr.heap.size wr W') => sfrom_any _ _ _ (filB l) (some l) m t ht W' HIs.out ((hL4.below hb).more hb.size) nc3 (by unfold maxLen at cc3; omega) (by omega))
            obtain ⟨y, hy⟩ : ∃ y, (getE l m.k m.s).getD noE = y := ⟨_, rfl⟩
            obtain ⟨q, hq⟩ : ∃ q, (getE l m.k m.s).isSome = q := ⟨_, rfl⟩
            rw [hy] at HE
            rw [hq]
            have HY := Lib.hid hy; have HQ := Lib.hid hq
            obtain ⟨k0, k1, k2, k3⟩ := hK.cells
            have hneg : ¬ ((0 : Int) ≤ -1) := by omega
            clear hL4 hE hK hb hlow hy hq
            unfold Mk.v at HL4
            go_wp2_with fail
            with_reducible refine Calls.mono HGt.out ?_
            rintro e w4 ⟨hb4, hs4, _⟩
            obtain rfl := hs4 l rfl
            rw [HY.out, HQ.out]
            unfold En.v
            have H4 := Lib.hid (HBw.out.trans (hb4.mono HBw.out.size))
            have K4 := Lib.hid (HK.out.below hb4)
            have HE4 : Hid (EnAt w4 g7 y) := (hb4.block _ HGz.out).trans HE.out
            obtain ⟨W0, hW0⟩ : ∃ W, w4.alloc zeroEn = W := ⟨_, rfl⟩
            have hb0 : Below w4.heap.size w4 W0 := by rw [← hW0]; exact (Below.refl _ _).alloc (Nat.le_refl _) _
            have hx0 : W0.heap[w4.heap.size]? = some (.cells #[.string ⟨#[]⟩, .int .u64 0, .bool false, .string ⟨#[]⟩] 37 (0, 0)) := by rw [← hW0]; exact heap_alloc_new w4 _
            have f0 : W0.frozen? ⟨w4.heap.size, 0, none⟩ = false := by simp [World.frozen?, hx0]
            have f1 : W0.frozen? ⟨w4.heap.size, 1, none⟩ = false := by simp [World.frozen?, hx0]
            have f2 : W0.frozen? ⟨w4.heap.size, 2, none⟩ = false := by simp [World.frozen?, hx0]
            have f3 : W0.frozen? ⟨w4.heap.size, 3, none⟩ = false := by simp [World.frozen?, hx0]
            have z0 : W0.cell? ⟨w4.heap.size, 0, none⟩ = some (.string ⟨#[]⟩) := cell_of_row W0 _ 0 _ _ (0, 0) hx0
            have z1 : W0.cell? ⟨w4.heap.size, 1, none⟩ = some (.int .u64 0) := cell_of_row W0 _ 1 _ _ (0, 0) hx0
            have z2 : W0.cell? ⟨w4.heap.size, 2, none⟩ = some (.bool false) := cell_of_row W0 _ 2 _ _ (0, 0) hx0
            have z3 : W0.cell? ⟨w4.heap.size, 3, none⟩ = some (.string ⟨#[]⟩) := cell_of_row W0 _ 3 _ _ (0, 0) hx0
            obtain ⟨W6, hW6⟩ : ∃ W, (((W0.setCell ⟨w4.heap.size, 0, none⟩ (.string y.m.k)).setCell ⟨w4.heap.size, 1, none⟩ (.int .u64 (y.m.s : Int))).setCell ⟨w4.heap.size, 2, none⟩ (.bool y.m.g)).setCell ⟨w4.heap.size, 3, none⟩ (.string y.x) = W := ⟨_, rfl⟩
            obtain ⟨hx6, hb6⟩ := four_setS hx0 hb0 (Nat.le_refl _) (.string y.m.k) (.int .u64 (y.m.s : Int)) (.bool y.m.g) (.string y.x)
            rw [hW6] at hx6 hb6
            have HFr := Lib.hid (HL4.out W6 (hb4.trans (hb6.mono hb4.size)))
            have H6 := Lib.hid (H4.out.trans (hb6.mono H4.out.size))
            have K6 := Lib.hid (K4.out.below hb6)
            have HE6 : Hid (EnAt W6 g7 y) := (hb6.block _ (Array.getElem?_eq_some_iff.1 HE4.out).1).trans HE4.out
            have HX6 : Hid (EnAt W6 w4.heap.size y) := hx6
            obtain ⟨k0, k1, k2, k3⟩ := K6.out.cells
            clear hb4 hb0 hx0 hx6 hb6 hs4
            unfold zeroEn at hW0
            go_wp2_with fail
            clear hW6 hW0 z0 z1 z2 z3 f0 f1 f2 f3 k0 k1 k2 k3
            with_reducible refine Calls.mono HFr.out ?_
            rintro e w7 ⟨hb7, hs7, _⟩
            obtain ⟨A7, c7, st7, M, hM, hst7, hle, rfl, ho7, _, _⟩ := hs7 l rfl
            obtain ⟨r, hr⟩ : ∃ r, (fromM l m).length = r := ⟨_, rfl⟩
            have hrn : r ≤ n := by rw [← hr, ← HN.out]; exact fromM_le l m
            have hss : st7 = st := by rw [hst7, HN.out]; exact HSt.out
            subst hss
            have hrs : n - r = st7 := by rw [← hr]; exact HSt.out
            have hMr : M ≤ r := by rw [hM, ← hr]; exact cntM_le _ _
            rw [HN.out] at hle
            have H7 := Lib.hid (H6.out.trans (hb7.mono H6.out.size))
            have K7 := K6.out.below hb7
            have hE7 : EnAt w7 g7 y := (hb7.block _ (Array.getElem?_eq_some_iff.1 HE6.out).1).trans HE6.out
            have hX7 : EnAt w7 w4.heap.size y := (hb7.block _ (Array.getElem?_eq_some_iff.1 HX6.out).1).trans HX6.out
            obtain ⟨e0, e1, e2, e3⟩ := hE7.cell
            obtain ⟨d0, d1, d2, d3⟩ := hX7.cell
            obtain ⟨_, _, _, k3⟩ := K7.cells
            have hsub : ((n : Int) - (st7 : Int)) = (r : Int) := by omega
            have hmin : ∀ W, (Builtin.min_ #[3, 3] 3 #[.int .i64 t, .int .i64 (r : Int)]).run Try.prog W = .ok (.int .i64 (min t (r : Int))) W := fun W => run_minI _ _ W
            have hmax : ∀ W, (Builtin.max_ #[3, 3] 3 #[.int .i64 0, .int .i64 (min t (r : Int))]).run Try.prog W = .ok (.int .i64 (M : Int)) W := fun W => by
              rw [run_maxI]
              have : max 0 (min t (r : Int)) = (M : Int) := by rw [hM, hr]; unfold cntM; omega
              rw [this]
            have hcut : ∀ W, (Instr.slice 22 (.slice A n c) (some (.int .i64 (st7 : Int))) (some (.int .i64 ((st7 : Int) + (M : Int)))) none).run Try.prog W = .ok (.slice (cutE A c st7) M (c - st7)) W := fun W => by
              have := run_cut2E W A n c st7 (st7 + M) (by omega) (by omega)
              rw [show st7 + M - st7 = M from by omega] at this
              push_cast at this
              exact this
            have hqq : ∀ W, (binOp BinOp.eql 4 (.bool q) (.bool q)).run Try.prog W = .ok (.bool true) W := fun W => by cases q <;> go_simp
            have hen := fun W => en_eq y W
            have HSm : Hid (∀ W', Below w7.heap.size w7 W' → Calls Try.prog 15 #[.slice (cutE A7 (st7 + M) st7) M M, .slice (cutE A c st7) M (c - st7)] W' fun e w' => e = .returned (.bool true) ∧ Below W'.heap.size W' w') := fun W' hb => by
              have k1 := (Lies.of_own ho7).takeE (m := st7 + M) (by rw [HN.out]; omega)
              have k2 := k1.cutE (m := st7) (c := st7 + M) (by omega) (Nat.le_refl _)
              have j1 := (HL.out.below H7.out).takeE (m := st7 + M) (by omega)
              have j2 := j1.cutE (m := st7) (c := c) (by omega) (by omega)
              rw [ecs_take, ecs_drop, show st7 + M - st7 = M from by omega] at k2 j2
              exact sameE_yes ((k2.below hb).more hb.size) ((j2.below (hb.mono H7.out.size)).more (by have := H7.out.size; have := hb.size; omega)) (by omega)
            have H70 : Below w7.heap.size w7 w7 := Below.refl _ _
            have hst0 : (0 : Int) ≤ (st7 : Int) := by omega
            have hsM : ((st7 : Int) + (M : Int)) ≤ 140737488351232 := by omega
            clear ho7 hb7 hs7 hM hr hE7 hX7 K7 hst7
            go_wp2_with fail
            with_reducible refine Calls.mono (HSm.out _ (by first | exact H70 | exact H70.drew | exact below_drewN H70 _)) ?_
            rintro e w8 ⟨rfl, hb8⟩
            have HF := Lib.hid (H7.out.trans (hb8.mono H7.out.size))
            clear hb8
            go_wp2
            go_ret
            exact ⟨rfl, HF.out⟩
          · obtain ⟨i, rfl⟩ : ∃ i, j = i + 1 := ⟨j - 1, by omega⟩
            have hii : (((i + 1 : Nat) : Int) - 1) = (i : Int) := by omega
            rw [hii]
            have hEL : EL wr W.heap.size (some ⟨0, 0, none⟩) 0 0 [] → True := fun _ => trivial
            obtain ⟨eb, eo, x, rfl, heb, hx, c0, c1, c2, c3⟩ := (HEL.out.below hb).lies.entry (i := i) (by omega)
            have hebw : eb < g7 := by omega
            have hi0 : (0 : Int) ≤ (i : Int) := by omega
            have hi1 : (i : Int) < (n : Int) := by omega
            have hit : ((i : Int)).toNat = i := by simp
            obtain ⟨k0, k1, k2, k3⟩ := hK.cells
            obtain ⟨e0, e1, e2, e3⟩ := hE.cell
            have hfs := Lib.hid (fndE_succ (m := m) hx)
            have HAx := Lib.hid (HAh.out i x hx)
            have HCm : Hid (∀ W', Calls Try.prog 19 #[x.m.v, m.v] W' fun e w' => e = .returned (.int .i64 (cmpM x.m m)) ∧ Below W'.heap.size W' w') := fun W' => cmp_any x.m m W'
            unfold Mk.v at HCm
            have hkq : (x.m.k.toList == m.k.toList) = decide (x.m.k = m.k) := txt_eqB _ _
            obtain ⟨z, hz⟩ : ∃ z, cmpM x.m m = z := ⟨_, rfl⟩
            rw [hz] at HCm HAx
            have HX4 : Hid (∀ W', Below g7 wr W' → W'.cell? ⟨eb, eo + i * 4, none⟩ = some (.string x.m.k) ∧ W'.cell? ⟨eb, eo + i * 4 + 1, none⟩ = some (.int .u64 (x.m.s : Int)) ∧ W'.cell? ⟨eb, eo + i * 4 + 2, none⟩ = some (.bool x.m.g) ∧ W'.cell? ⟨eb, eo + i * 4 + 3, none⟩ = some (.string x.x) ∧ W'.cell? ⟨g3, 0, none⟩ = some (.string m.k) ∧ W'.cell? ⟨g3, 1, none⟩ = some (.int .u64 (m.s : Int)) ∧ W'.cell? ⟨g3, 2, none⟩ = some (.bool m.g)) := fun W' hb' => ⟨(hb'.cell (p := ⟨eb, eo + i * 4, none⟩) hebw).trans c0, (hb'.cell (p := ⟨eb, eo + i * 4 + 1, none⟩) hebw).trans c1, (hb'.cell (p := ⟨eb, eo + i * 4 + 2, none⟩) hebw).trans c2, (hb'.cell (p := ⟨eb, eo + i * 4 + 3, none⟩) hebw).trans c3, (hb'.cell (p := ⟨g3, 0, none⟩) hg37).trans k0, (hb'.cell (p := ⟨g3, 1, none⟩) hg37).trans k1, (hb'.cell (p := ⟨g3, 2, none⟩) hg37).trans k2⟩
            have HG7 : Hid (g7 < wr.heap.size) := (Array.getElem?_eq_some_iff.1 hE).1
            clear hz hb hlow hK hE hEL
            by_cases hkk : x.m.k = m.k
            · have hkt : (x.m.k.toList == m.k.toList) = true := by rw [hkq]; exact decide_eq_true hkk
              clear hkq
              by_cases hss : x.m.s ≤ m.s
              · have hsi : ((x.m.s : Int) ≤ (m.s : Int)) := by omega
                have hsd : decide ((x.m.s : Int) ≤ (m.s : Int)) = true := decide_eq_true hsi
                have HYes : Hid (isK m.k (m.s + 1) x = true) := by unfold Hid isK; rw [decide_eq_true hkk, decide_eq_true (by omega)]; rfl
                clear hkk
                go_wp2_with fail
                go_quiet (fail)
                refine at_worldS (P := fun W5 => Below wr.heap.size wr W5) (below_drewN (Below.refl _ _) _) ?_
                intro W4 hb4
                have hb4' : Below g7 wr W4 := hb4.mono (by have := HG7.out; omega)
                obtain ⟨c0, c1, c2, c3, k0, k1, k2⟩ := HX4.out W4 hb4'
                have hE4 : EnAt W4 g7 ((fndE l m (i + 1)).getD noE) := (hb4.block _ HG7.out).trans HE.out
                obtain ⟨e0, e1, e2, e3⟩ := hE4.cell
                have f0 : W4.frozen? ⟨g7, 0, none⟩ = false := by unfold EnAt at hE4; simp [World.frozen?, hE4]
                have f1 : W4.frozen? ⟨g7, 1, none⟩ = false := by unfold EnAt at hE4; simp [World.frozen?, hE4]
                have f2 : W4.frozen? ⟨g7, 2, none⟩ = false := by unfold EnAt at hE4; simp [World.frozen?, hE4]
                have f3 : W4.frozen? ⟨g7, 3, none⟩ = false := by unfold EnAt at hE4; simp [World.frozen?, hE4]
                have HF4 := Lib.hid (four_setS hE4 hb4' (Nat.le_refl _) (.string x.m.k) (.int .u64 (x.m.s : Int)) (.bool x.m.g) (.string x.x))
                clear hb4 hb4' hE4
                go_upto_region 15 with fail
                obtain ⟨W5, hW5⟩ : ∃ W5, (((W4.setCell ⟨g7, 0, none⟩ (.string x.m.k)).setCell ⟨g7, 1, none⟩ (.int .u64 (x.m.s : Int))).setCell ⟨g7, 2, none⟩ (.bool x.m.g)).setCell ⟨g7, 3, none⟩ (.string x.x) = W5 := ⟨_, rfl⟩
                rw [hW5] at HF4 ⊢
                clear hW5
                obtain ⟨he5, hb5⟩ := HF4.out
                have HE5 : Hid (EnAt W5 g7 ((fndE l m i).getD noE)) := by rw [hfs.out, if_pos HYes.out]; exact he5
                have HIs5 : Hid ((fndE l m i).isSome = true) := by unfold Hid; rw [hfs.out, if_pos HYes.out]; rfl
                clear c0 c1 c2 c3 k0 k1 k2 e0 e1 e2 e3 f0 f1 f2 f3 he5 HF4
                have HS5 := Lib.hid (HX4.out W5 hb5)
                obtain ⟨c0, c1, c2, c3, k0, k1, k2⟩ := HS5.out
                have HD : Hid (Below W5.heap.size W5 W5.drew) := below_drew (Below.refl _ _)
                have HX5 : Hid (∀ W', Below W5.heap.size W5 W' → W'.cell? ⟨eb, eo + i * 4, none⟩ = some (.string x.m.k) ∧ W'.cell? ⟨eb, eo + i * 4 + 1, none⟩ = some (.int .u64 (x.m.s : Int)) ∧ W'.cell? ⟨eb, eo + i * 4 + 2, none⟩ = some (.bool x.m.g) ∧ W'.cell? ⟨g3, 0, none⟩ = some (.string m.k) ∧ W'.cell? ⟨g3, 1, none⟩ = some (.int .u64 (m.s : Int)) ∧ W'.cell? ⟨g3, 2, none⟩ = some (.bool m.g)) := fun W' hb' => by
                  have q := HX4.out W' (hb5.trans (hb'.mono (by have := HG7.out; have := hb5.size; omega)))
                  exact ⟨q.1, q.2.1, q.2.2.1, q.2.2.2.2.1, q.2.2.2.2.2.1, q.2.2.2.2.2.2⟩
                clear c0 c1 c2 c3 k0 k1 k2
                go_wp2_with fail
                go_region_held3 (fun W' => W'.cell? ⟨eb, eo + i * 4, none⟩ = some (.string x.m.k) ∧ W'.cell? ⟨eb, eo + i * 4 + 1, none⟩ = some (.int .u64 (x.m.s : Int)) ∧ W'.cell? ⟨eb, eo + i * 4 + 2, none⟩ = some (.bool x.m.g) ∧ W'.cell? ⟨g3, 0, none⟩ = some (.string m.k) ∧ W'.cell? ⟨g3, 1, none⟩ = some (.int .u64 (m.s : Int)) ∧ W'.cell? ⟨g3, 2, none⟩ = some (.bool m.g))
                  (first | exact HX5.out _ HD.out | exact HX5.out _ hbz | fail)
                  (first
                  | (go_at_call 19; (with_reducible refine Calls.mono (HCm.out _) ?_); rintro e w9 ⟨rfl, hb9⟩; have hbz := HD.out.trans (hb9.mono HD.out.size))
                  | fail)
                have hb59 := hb5.trans (hbz.mono (by have := HG7.out; have := hb5.size; omega))
                have HFin0 : Hid (EnAt w9 g7 ((fndE l m i).getD noE) ∧ LookAt w9 g3 m t ∧ Below W.heap.size W w9 ∧ Below g7 w3 w9) := ⟨(hbz.block _ (Array.getElem?_eq_some_iff.1 HE5.out).1).trans HE5.out, (hb59.block _ hg37).trans HK.out, HBw.out.trans (hb59.mono hgW), HLw.out.trans hb59⟩
                have HIs := Lib.hid HIs5.out
                by_cases hz0 : z < 0
                · have hz1 : ¬ (0 ≤ z) := by omega
                  have hist : i < st := HAx.out.1 hz0
                  have HFin : Hid (FnR W l n st g3 g7 m t (.bool (fndE l m i).isSome) (.int .i64 ((max (i + 1) st : Nat) : Int)) (.int .i64 ((i : Int) - 1)) w9 ∧ Below g7 w3 w9) := ⟨⟨i, by omega, rfl, rfl, by rw [show max (i + 1) st = max i st from by omega], HFin0.out.1, HFin0.out.2.1, HFin0.out.2.2.1⟩, HFin0.out.2.2.2⟩
                  rw [HIs.out] at HFin
                  clear hb59 hb9 hbz hb5
                  go_wp2
                  go_roundw
                  case rel => exact HFin.out
                  case measure => simp [intOf] <;> omega
                · have hz1 : 0 ≤ z := by omega
                  have hist : st ≤ i := Nat.le_of_not_lt (fun q => hz0 (HAx.out.2 q))
                  have HFin : Hid (FnR W l n st g3 g7 m t (.bool (fndE l m i).isSome) (.int .i64 (i : Int)) (.int .i64 ((i : Int) - 1)) w9 ∧ Below g7 w3 w9) := ⟨⟨i, by omega, rfl, rfl, by rw [Nat.max_eq_left hist], HFin0.out.1, HFin0.out.2.1, HFin0.out.2.2.1⟩, HFin0.out.2.2.2⟩
                  rw [HIs.out] at HFin
                  clear hb59 hb9 hbz hb5
                  go_wp2
                  go_roundw
                  case rel => exact HFin.out
                  case measure => simp [intOf] <;> omega
              · have hsi : ¬ ((x.m.s : Int) ≤ (m.s : Int)) := by omega
                have hsd : decide ((x.m.s : Int) ≤ (m.s : Int)) = false := decide_eq_false hsi
                have HNm : Hid (¬ isK m.k (m.s + 1) x = true) := by unfold Hid isK; rw [decide_eq_false (p := x.m.s < m.s + 1) (by omega), Bool.and_false]; decide
                clear hkk
                go_wp2_with fail
                go_quiet (fail)
                refine at_worldS (P := fun W5 => Below wr.heap.size wr W5) (below_drewN (Below.refl _ _) _) ?_
                intro W5 hb5'
                have hb5 : Below g7 wr W5 := hb5'.mono (by have := HG7.out; omega)
                have HE5 : Hid (EnAt W5 g7 ((fndE l m i).getD noE)) := by rw [hfs.out, if_neg HNm.out]; exact (hb5'.block _ HG7.out).trans HE.out
                have HIs5 : Hid ((fndE l m i).isSome = (fndE l m (i + 1)).isSome) := by unfold Hid; rw [hfs.out, if_neg HNm.out]
                clear c0 c1 c2 c3 k0 k1 k2 k3 e0 e1 e2 e3 hb5'
                have HS5 := Lib.hid (HX4.out W5 hb5)
                obtain ⟨c0, c1, c2, c3, k0, k1, k2⟩ := HS5.out
                have HD : Hid (Below W5.heap.size W5 W5.drew) := below_drew (Below.refl _ _)
                have HX5 : Hid (∀ W', Below W5.heap.size W5 W' → W'.cell? ⟨eb, eo + i * 4, none⟩ = some (.string x.m.k) ∧ W'.cell? ⟨eb, eo + i * 4 + 1, none⟩ = some (.int .u64 (x.m.s : Int)) ∧ W'.cell? ⟨eb, eo + i * 4 + 2, none⟩ = some (.bool x.m.g) ∧ W'.cell? ⟨g3, 0, none⟩ = some (.string m.k) ∧ W'.cell? ⟨g3, 1, none⟩ = some (.int .u64 (m.s : Int)) ∧ W'.cell? ⟨g3, 2, none⟩ = some (.bool m.g)) := fun W' hb' => by
                  have q := HX4.out W' (hb5.trans (hb'.mono (by have := HG7.out; have := hb5.size; omega)))
                  exact ⟨q.1, q.2.1, q.2.2.1, q.2.2.2.2.1, q.2.2.2.2.2.1, q.2.2.2.2.2.2⟩
                clear c0 c1 c2 c3 k0 k1 k2
                go_wp2_with fail
                go_region_held3 (fun W' => W'.cell? ⟨eb, eo + i * 4, none⟩ = some (.string x.m.k) ∧ W'.cell? ⟨eb, eo + i * 4 + 1, none⟩ = some (.int .u64 (x.m.s : Int)) ∧ W'.cell? ⟨eb, eo + i * 4 + 2, none⟩ = some (.bool x.m.g) ∧ W'.cell? ⟨g3, 0, none⟩ = some (.string m.k) ∧ W'.cell? ⟨g3, 1, none⟩ = some (.int .u64 (m.s : Int)) ∧ W'.cell? ⟨g3, 2, none⟩ = some (.bool m.g))
                  (first | exact HX5.out _ HD.out | exact HX5.out _ hbz | fail)
                  (first
                  | (go_at_call 19; (with_reducible refine Calls.mono (HCm.out _) ?_); rintro e w9 ⟨rfl, hb9⟩; have hbz := HD.out.trans (hb9.mono HD.out.size))
                  | fail)
                have hb59 := hb5.trans (hbz.mono (by have := HG7.out; have := hb5.size; omega))
                have HFin0 : Hid (EnAt w9 g7 ((fndE l m i).getD noE) ∧ LookAt w9 g3 m t ∧ Below W.heap.size W w9 ∧ Below g7 w3 w9) := ⟨(hbz.block _ (Array.getElem?_eq_some_iff.1 HE5.out).1).trans HE5.out, (hb59.block _ hg37).trans HK.out, HBw.out.trans (hb59.mono hgW), HLw.out.trans hb59⟩
                have HIs := Lib.hid HIs5.out
                by_cases hz0 : z < 0
                · have hz1 : ¬ (0 ≤ z) := by omega
                  have hist : i < st := HAx.out.1 hz0
                  have HFin : Hid (FnR W l n st g3 g7 m t (.bool (fndE l m i).isSome) (.int .i64 ((max (i + 1) st : Nat) : Int)) (.int .i64 ((i : Int) - 1)) w9 ∧ Below g7 w3 w9) := ⟨⟨i, by omega, rfl, rfl, by rw [show max (i + 1) st = max i st from by omega], HFin0.out.1, HFin0.out.2.1, HFin0.out.2.2.1⟩, HFin0.out.2.2.2⟩
                  rw [HIs.out] at HFin
                  clear hb59 hb9 hbz hb5
                  go_wp2
                  go_roundw
                  case rel => exact HFin.out
                  case measure => simp [intOf] <;> omega
                · have hz1 : 0 ≤ z := by omega
                  have hist : st ≤ i := Nat.le_of_not_lt (fun q => hz0 (HAx.out.2 q))
                  have HFin : Hid (FnR W l n st g3 g7 m t (.bool (fndE l m i).isSome) (.int .i64 (i : Int)) (.int .i64 ((i : Int) - 1)) w9 ∧ Below g7 w3 w9) := ⟨⟨i, by omega, rfl, rfl, by rw [Nat.max_eq_left hist], HFin0.out.1, HFin0.out.2.1, HFin0.out.2.2.1⟩, HFin0.out.2.2.2⟩
                  rw [HIs.out] at HFin
                  clear hb59 hb9 hbz hb5
                  go_wp2
                  go_roundw
                  case rel => exact HFin.out
                  case measure => simp [intOf] <;> omega
            · have hkt : (x.m.k.toList == m.k.toList) = false := by rw [hkq]; exact decide_eq_false hkk
              have HNm : Hid (¬ isK m.k (m.s + 1) x = true) := by unfold Hid isK; rw [decide_eq_false hkk, Bool.false_and]; decide
              clear hkq
              go_wp2_with fail
              go_quiet (fail)
              refine at_worldS (P := fun W5 => Below wr.heap.size wr W5) (below_drewN (Below.refl _ _) _) ?_
              intro W5 hb5'
              have hb5 : Below g7 wr W5 := hb5'.mono (by have := HG7.out; omega)
              have HE5 : Hid (EnAt W5 g7 ((fndE l m i).getD noE)) := by rw [hfs.out, if_neg HNm.out]; exact (hb5'.block _ HG7.out).trans HE.out
              have HIs5 : Hid ((fndE l m i).isSome = (fndE l m (i + 1)).isSome) := by unfold Hid; rw [hfs.out, if_neg HNm.out]
              clear c0 c1 c2 c3 k0 k1 k2 k3 e0 e1 e2 e3 hb5'
              have HS5 := Lib.hid (HX4.out W5 hb5)
              obtain ⟨c0, c1, c2, c3, k0, k1, k2⟩ := HS5.out
              have HD : Hid (Below W5.heap.size W5 W5.drew) := below_drew (Below.refl _ _)
              have HX5 : Hid (∀ W', Below W5.heap.size W5 W' → W'.cell? ⟨eb, eo + i * 4, none⟩ = some (.string x.m.k) ∧ W'.cell? ⟨eb, eo + i * 4 + 1, none⟩ = some (.int .u64 (x.m.s : Int)) ∧ W'.cell? ⟨eb, eo + i * 4 + 2, none⟩ = some (.bool x.m.g) ∧ W'.cell? ⟨g3, 0, none⟩ = some (.string m.k) ∧ W'.cell? ⟨g3, 1, none⟩ = some (.int .u64 (m.s : Int)) ∧ W'.cell? ⟨g3, 2, none⟩ = some (.bool m.g)) := fun W' hb' => by
                have q := HX4.out W' (hb5.trans (hb'.mono (by have := HG7.out; have := hb5.size; omega)))
                exact ⟨q.1, q.2.1, q.2.2.1, q.2.2.2.2.1, q.2.2.2.2.2.1, q.2.2.2.2.2.2⟩
              clear c0 c1 c2 c3 k0 k1 k2
              go_wp2_with fail
              go_region_held3 (fun W' => W'.cell? ⟨eb, eo + i * 4, none⟩ = some (.string x.m.k) ∧ W'.cell? ⟨eb, eo + i * 4 + 1, none⟩ = some (.int .u64 (x.m.s : Int)) ∧ W'.cell? ⟨eb, eo + i * 4 + 2, none⟩ = some (.bool x.m.g) ∧ W'.cell? ⟨g3, 0, none⟩ = some (.string m.k) ∧ W'.cell? ⟨g3, 1, none⟩ = some (.int .u64 (m.s : Int)) ∧ W'.cell? ⟨g3, 2, none⟩ = some (.bool m.g))
                (first | exact HX5.out _ HD.out | exact HX5.out _ hbz | fail)
                (first
                | (go_at_call 19; (with_reducible refine Calls.mono (HCm.out _) ?_); rintro e w9 ⟨rfl, hb9⟩; have hbz := HD.out.trans (hb9.mono HD.out.size))
                | fail)
              have hb59 := hb5.trans (hbz.mono (by have := HG7.out; have := hb5.size; omega))
              have HFin0 : Hid (EnAt w9 g7 ((fndE l m i).getD noE) ∧ LookAt w9 g3 m t ∧ Below W.heap.size W w9 ∧ Below g7 w3 w9) := ⟨(hbz.block _ (Array.getElem?_eq_some_iff.1 HE5.out).1).trans HE5.out, (hb59.block _ hg37).trans HK.out, HBw.out.trans (hb59.mono hgW), HLw.out.trans hb59⟩
              have HIs := Lib.hid HIs5.out
              by_cases hz0 : z < 0
              · have hz1 : ¬ (0 ≤ z) := by omega
                have hist : i < st := HAx.out.1 hz0
                have HFin : Hid (FnR W l n st g3 g7 m t (.bool (fndE l m i).isSome) (.int .i64 ((max (i + 1) st : Nat) : Int)) (.int .i64 ((i : Int) - 1)) w9 ∧ Below g7 w3 w9) := ⟨⟨i, by omega, rfl, rfl, by rw [show max (i + 1) st = max i st from by omega], HFin0.out.1, HFin0.out.2.1, HFin0.out.2.2.1⟩, HFin0.out.2.2.2⟩
                rw [HIs.out] at HFin
                clear hb59 hb9 hbz hb5
                go_wp2
                go_roundw
                case rel => exact HFin.out
                case measure => simp [intOf] <;> omega
              · have hz1 : 0 ≤ z := by omega
                have hist : st ≤ i := Nat.le_of_not_lt (fun q => hz0 (HAx.out.2 q))
                have HFin : Hid (FnR W l n st g3 g7 m t (.bool (fndE l m i).isSome) (.int .i64 (i : Int)) (.int .i64 ((i : Int) - 1)) w9 ∧ Below g7 w3 w9) := ⟨⟨i, by omega, rfl, rfl, by rw [Nat.max_eq_left hist], HFin0.out.1, HFin0.out.2.1, HFin0.out.2.2.1⟩, HFin0.out.2.2.2⟩
                rw [HIs.out] at HFin
                clear hb59 hb9 hbz hb5
                go_wp2
                go_roundw
                case rel => exact HFin.out
                case measure => simp [intOf] <;> omega
      · have ha : okA l = false := by
          cases h : okA l with
          | false => rfl
          | true => exact absurd ((okF_iff l).2 ⟨h, by rw [HN.out]; omega⟩) hok
        obtain rfl := hz3 ha
        clear hok ha hk3 hz3
        go_wp2
        go_ret
        exact ⟨rfl, H3.out⟩
end Go.Proofs.Ytjikkdfiainjjaa
