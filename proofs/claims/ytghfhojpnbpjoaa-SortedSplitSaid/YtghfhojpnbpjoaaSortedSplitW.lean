/-
  The walk of SortedSplit.
-/
import Derived.Test.YtghfhojpnbpjoaaLaw10P
import Derived.Test.YtghfhojpnbpjoaaSrtS
import Derived.Test.YtghfhojpnbpjoaaFrame13
namespace Go.Proofs.Ytghfhojpnbpjoaa
open Go.RowKit
set_option linter.unusedVariables false
set_option maxRecDepth 100000

theorem en_eqS (x : En) (W : World) : (binOp BinOp.eql 40 (.agg #[.string x.m.k, .int .u64 (x.m.s : Int), .bool x.m.g, .string x.x]) (.agg #[.string x.m.k, .int .u64 (x.m.s : Int), .bool x.m.g, .string x.x])).run Try.prog W = .ok (.bool true) W := by go_simp
/-- a mark and a number, in their block -/
def LookS (w : World) (g : Nat) (m : Mk) (t : Int) : Prop := w.heap[g]? = some (.cells #[.string m.k, .int .u64 (m.s : Int), .bool m.g, .int .i64 t] 53 (0, 0))
theorem LookS.cells {w : World} {g : Nat} {m : Mk} {t : Int} (h : LookS w g m t) : w.cell? ⟨g, 0, none⟩ = some (.string m.k) ∧ w.cell? ⟨g, 1, none⟩ = some (.int .u64 (m.s : Int)) ∧ w.cell? ⟨g, 2, none⟩ = some (.bool m.g) ∧ w.cell? ⟨g, 3, none⟩ = some (.int .i64 t) :=
  ⟨cell_of_row _ _ 0 _ _ (0, 0) h, cell_of_row _ _ 1 _ _ (0, 0) h, cell_of_row _ _ 2 _ _ (0, 0) h, cell_of_row _ _ 3 _ _ (0, 0) h⟩
theorem LookS.below {w w' : World} {g : Nat} {m : Mk} {t : Int} (h : LookS w g m t) (hb : Below w.heap.size w w') : LookS w' g m t := (hb.block g (Array.getElem?_eq_some_iff.1 h).1).trans h
/-- an entry that a variable takes -/
theorem newEn (w : World) (y : En) : ∃ W0 W6, w.alloc (.cells #[.string ⟨#[]⟩, .int .u64 0, .bool false, .string ⟨#[]⟩] 40) = W0 ∧
    (W0.cell? ⟨w.heap.size, 0, none⟩ = some (.string ⟨#[]⟩) ∧ W0.cell? ⟨w.heap.size, 1, none⟩ = some (.int .u64 0) ∧ W0.cell? ⟨w.heap.size, 2, none⟩ = some (.bool false) ∧ W0.cell? ⟨w.heap.size, 3, none⟩ = some (.string ⟨#[]⟩)) ∧
    (W0.frozen? ⟨w.heap.size, 0, none⟩ = false ∧ W0.frozen? ⟨w.heap.size, 1, none⟩ = false ∧ W0.frozen? ⟨w.heap.size, 2, none⟩ = false ∧ W0.frozen? ⟨w.heap.size, 3, none⟩ = false) ∧
    (((W0.setCell ⟨w.heap.size, 0, none⟩ (.string y.m.k)).setCell ⟨w.heap.size, 1, none⟩ (.int .u64 (y.m.s : Int))).setCell ⟨w.heap.size, 2, none⟩ (.bool y.m.g)).setCell ⟨w.heap.size, 3, none⟩ (.string y.x) = W6 ∧ EnAt W6 w.heap.size y ∧ Below w.heap.size w W6 := by
  have hx0 : (w.alloc (.cells #[.string ⟨#[]⟩, .int .u64 0, .bool false, .string ⟨#[]⟩] 40)).heap[w.heap.size]? = some (.cells #[.string ⟨#[]⟩, .int .u64 0, .bool false, .string ⟨#[]⟩] 40 (0, 0)) := heap_alloc_new w _
  have fz : ∀ (W : World), W.heap[w.heap.size]? = some (.cells #[.string ⟨#[]⟩, .int .u64 0, .bool false, .string ⟨#[]⟩] 40 (0, 0)) → ∀ o, W.frozen? ⟨w.heap.size, o, none⟩ = false := fun W h o => by simp [World.frozen?, h]
  obtain ⟨hx6, hb6⟩ := four_setS hx0 ((Below.refl w.heap.size w).alloc (Nat.le_refl _) _) (Nat.le_refl _) (.string y.m.k) (.int .u64 (y.m.s : Int)) (.bool y.m.g) (.string y.x)
  exact ⟨_, _, rfl, ⟨cell_of_row _ _ 0 _ _ (0, 0) hx0, cell_of_row _ _ 1 _ _ (0, 0) hx0, cell_of_row _ _ 2 _ _ (0, 0) hx0, cell_of_row _ _ 3 _ _ (0, 0) hx0⟩, ⟨fz _ hx0 0, fz _ hx0 1, fz _ hx0 2, fz _ hx0 3⟩, rfl, hx6, hb6⟩

theorem enAt_below {w w' : World} {g : Nat} {x : En} (h : EnAt w g x) (hb : Below w.heap.size w w') : EnAt w' g x := (hb.block g (Array.getElem?_eq_some_iff.1 h).1).trans h
theorem enAt_thawed {w : World} {g : Nat} {x : En} (h : EnAt w g x) (o : Nat) : w.frozen? ⟨g, o, none⟩ = false := by
  unfold EnAt at h
  simp [World.frozen?, h]
section
attribute [local go_sem ↓ 100000] builtin_appS
set_option maxHeartbeats 16000000 in
theorem sortedSplit_walk (A : Option Addr) (n c : Nat) (l : List En) (m0 : Nat) (m : Mk) (t : Int) (W : World) (hl : Lies W W.heap.size 4 A n (ecs l)) (hu : Fits l) (hn : l.length = n) (hnc : n ≤ c) (hc : c ≤ 140737488351232) (hm : m0 < 65536) (hms : m.s < 18446744073709551616) (hmk : m.k.size ≤ 140737488351232) (ht : -9223372036854775808 ≤ t ∧ t ≤ 9223372036854775807) :
    Calls Try.prog 5 #[.slice A n c, .int .u16 (m0 : Int), lookV m t] W fun e W' => e = .returned (.bool true) ∧ Below W.heap.size W W' := by
  have HEL := Lib.hid (el_of hl hu hnc hc)
  have HU := Lib.hid hu; have HN := Lib.hid hn
  have HSq : Hid (SQ l) := fun e he => (hu e he).1
  have HL := Lib.hid hl
  have hL0 : LookS (W.alloc (.cells #[.string m.k, .int .u64 (m.s : Int), .bool m.g, .int .i64 t] 53)) W.heap.size m t := heap_alloc_new W _
  have hB0 : Below W.heap.size W (W.alloc (.cells #[.string m.k, .int .u64 (m.s : Int), .bool m.g, .int .i64 t] 53)) := (Below.refl _ _).alloc (Nat.le_refl _) _
  obtain ⟨g3, hg3⟩ : ∃ g3, W.heap.size = g3 := ⟨_, rfl⟩
  rw [hg3] at hL0
  clear hl hu hn
  unfold lookV
  go_enter Try.func5, Try.ntmps5
  go_wp2_with fail
  obtain ⟨W0, hW0⟩ : ∃ W0, W.alloc (.cells #[.string m.k, .int .u64 (m.s : Int), .bool m.g, .int .i64 t] 53) = W0 := ⟨_, rfl⟩
  rw [hW0] at hL0 hB0 ⊢
  clear hW0 hg3
  with_reducible refine Calls.mono (alive10_any W0) ?_
  rintro e w1 ⟨rfl, hb1⟩
  have H1 := Lib.hid (hB0.trans (hb1.mono hB0.size))
  have K1 := Lib.hid (hL0.below hb1)
  have HG := Lib.hid (great10_any A n c l w1 ((HL.out.below H1.out).more H1.out.size) HU.out (by omega))
  clear hb1 hL0 hB0
  go_wp2_with fail
  with_reducible refine Calls.mono HG.out ?_
  rintro e w2 ⟨b, rfl, hb3, hb2⟩
  have H2 := Lib.hid (H1.out.trans (hb2.mono H1.out.size))
  have K2 := Lib.hid (K1.out.below hb2)
  have H300 := Lib.hid hb3
  obtain ⟨k0, _, _, _⟩ := K2.out.cells
  clear hb2 hb3 HG
  have HAl : Hid (∀ w3, Below w2.heap.size w2 w3 → Below W.heap.size W w3) := fun w3 hb3 => H2.out.trans (hb3.mono H2.out.size)
  cases b with
  | true =>
    go_wp2_with fail
    with_reducible refine Calls.mono (alive10_any w2) ?_
    rintro e w3 ⟨rfl, hb3⟩
    have HF := Lib.hid (HAl.out _ hb3)
    clear hb3
    go_wp2
    go_ret
    exact ⟨rfl, HF.out⟩
  | false =>
    have hn300 : n ≤ 300 := H300.out rfl
    by_cases hk1 : 1000 < m.k.size
    · have hki : ((m.k.size : Int) > 1000) := by omega
      go_wp2_with fail
      with_reducible refine Calls.mono (alive10_any w2) ?_
      rintro e w3 ⟨rfl, hb3⟩
      have HF := Lib.hid (HAl.out _ hb3)
      clear hb3
      go_wp2
      go_ret
      exact ⟨rfl, HF.out⟩
    · have hki : ¬ ((m.k.size : Int) > 1000) := by omega
      by_cases hn2 : n < 2
      · have hni : ((n : Int) < 2) := by omega
        go_wp2_with fail
        with_reducible refine Calls.mono (alive10_any w2) ?_
        rintro e w3 ⟨rfl, hb3⟩
        have HF := Lib.hid (HAl.out _ hb3)
        clear hb3
        go_wp2
        go_ret
        exact ⟨rfl, HF.out⟩
      · have hni : ¬ ((n : Int) < 2) := by omega
        obtain ⟨n1, hn1⟩ : ∃ n1, n - 1 = n1 := ⟨_, rfl⟩
        obtain ⟨r0, hr0⟩ : ∃ r0, m0 % n1 = r0 := ⟨_, rfl⟩
        have hrd : r0 < n1 := by rw [← hr0]; exact Nat.mod_lt _ (by omega)
        obtain ⟨k, hk⟩ : ∃ k, 1 + r0 = k := ⟨_, rfl⟩
        have HKd : Hid (1 ≤ k ∧ k < n) := ⟨by omega, by omega⟩
        have e1 : (n : Int) - 1 = (n1 : Int) := by omega
        have e3 : (m0 : Int) % (n1 : Int) = (r0 : Int) := by rw [← hr0]; simp
        have e4 : 1 + (r0 : Int) = (k : Int) := by omega
        have e5 : ((n1 : Int) == 0) = false := by rw [beq_eq_false_iff_ne]; omega
        have hdi : (0 : Int) < (n1 : Int) := by omega
        have hri : (r0 : Int) ≤ 65535 := by have := Nat.mod_le m0 n1; omega
        have hkn : k ≤ n := by omega
        have hkc : k ≤ c := by omega
        have hs1 := fun W => run_headE W A n c k hkc
        have hs2 := fun W => run_cutE W A n c k hkn
        have HP := Lib.hid (sput_any W.heap.size n c A l w2 (HEL.out.below H2.out) HSq.out)
        clear hn1 hr0 hrd hk
        go_wp2_with fail
        with_reducible refine Calls.mono HP.out ?_
        intro e w3 hp3
        obtain ⟨A3, n3, c3, z3, rfl, hk3, hz3, hz3b, hb3⟩ := sput_some hp3
        have H3 := Lib.hid (H2.out.trans (hb3.mono H2.out.size))
        have K3 := Lib.hid (K2.out.below hb3)
        have P3 := Lib.hid hk3; have Z3 := Lib.hid hz3
        have HQ := Lib.hid (sput_any W.heap.size k c A (l.take k) w3 ((el_take HEL.out hkn).below H3.out) (fun e he => HSq.out e ((List.take_sublist k l).mem he)))
        clear hp3 HP hk3 hz3 hb3 k0
        go_wp2_with fail
        with_reducible refine Calls.mono HQ.out ?_
        intro e w4 hp4
        obtain ⟨A4, n4, c4, z4, rfl, hk4, _, _, hb4⟩ := sput_some hp4
        have H4 := Lib.hid (H3.out.trans (hb4.mono H3.out.size))
        have K4 := Lib.hid (K3.out.below hb4)
        have P4 := Lib.hid hk4; have HB4 := Lib.hid hb4
        have HQ2 := Lib.hid (sput_any W.heap.size (n - k) (c - k) (cutE A c k) (l.drop k) w4 ((el_drop HEL.out hkn).below H4.out) (fun e he => HSq.out e ((List.drop_sublist k l).mem he)))
        clear hp4 HQ hk4 hb4
        go_wp2_with fail
        with_reducible refine Calls.mono HQ2.out ?_
        intro e w5 hp5
        obtain ⟨A5, n5, c5, z5, rfl, hk5, _, _, hb5⟩ := sput_some hp5
        have H5 := Lib.hid (H4.out.trans (hb5.mono H4.out.size))
        have K5 := Lib.hid (K4.out.below hb5)
        have P5 := Lib.hid hk5; have HB5 := Lib.hid hb5
        clear hp5 HQ2 hk5 hb5 hs1 hs2
        by_cases hok : okF l = true
        · have hokt := okF_take hok HKd.out.1 (by rw [HN.out]; omega)
          have hokd := okF_drop hok (k := k) (by rw [HN.out]; exact HKd.out.2)
          obtain ⟨rfl, s3, o3⟩ := P3.out hok
          obtain ⟨rfl, s4, o4⟩ := P4.out hokt
          obtain ⟨rfl, s5, o5⟩ := P5.out hokd
          have q3 := filB_le hok; have q4 := filB_le hokt; have q5 := filB_le hokd
          obtain ⟨_, _, hv3, nc3, cc3, _⟩ := own_shape o3
          injection hv3 with x1 x2 x3
          subst x1 x3
          obtain ⟨_, _, hv4, nc4, cc4, _⟩ := own_shape o4
          injection hv4 with x1 x2 x3
          subst x1 x3
          obtain ⟨_, _, hv5, nc5, cc5, _⟩ := own_shape o5
          injection hv5 with x1 x2 x3
          subst x1 x3
          unfold maxLen at cc3 cc4 cc5
          have B45 := HB4.out.trans (HB5.out.mono HB4.out.size)
          have L3 := Lib.hid (((Lies.of_own o3).below B45).more B45.size)
          have L4 := Lib.hid (((Lies.of_own o4).below HB5.out).more HB5.out.size)
          have L5 := Lib.hid (Lies.of_own o5)
          have I3 : Hid (IsF (filB l) (some l)) := ⟨hok, HSq.out, rfl⟩
          have I4 : Hid (IsF (filB (l.take k)) (some (l.take k))) := ⟨hokt, (fun e he => HSq.out e ((List.take_sublist k l).mem he)), rfl⟩
          have I5 : Hid (IsF (filB (l.drop k)) (some (l.drop k))) := ⟨hokd, (fun e he => HSq.out e ((List.drop_sublist k l).mem he)), rfl⟩
          have hri := ((okA_iff l).1 ((okF_iff l).1 hok).1).2.2
          have hTD : l.take k ++ l.drop k = l := List.take_append_drop k l
          have HGe : Hid (getE l m.k m.s = (getE (l.take k) m.k m.s).or (getE (l.drop k) m.k m.s)) := by
            have := getE_app (S := l.take k) (T := l.drop k) (by rw [hTD]; exact hri) m.k m.s
            rw [hTD] at this; exact this
          have HFe : Hid (fromM l m = fromM (l.take k) m ++ fromM (l.drop k) m) := by
            have := fromM_app (S := l.take k) (T := l.drop k) (by rw [hTD]; exact hri) m
            rw [hTD] at this; exact this
          have G3 := Lib.hid (fun W' (hb : Below w5.heap.size w5 W') => sget_any A3 n3 c3 (filB l) (some l) m.k m.s W' I3.out ((L3.out.below hb).more hb.size) nc3 (by omega) (by omega))
          have G4 := Lib.hid (fun W' (hb : Below w5.heap.size w5 W') => sget_any A4 n4 c4 (filB (l.take k)) (some (l.take k)) m.k m.s W' I4.out ((L4.out.below hb).more hb.size) nc4 (by omega) (by omega))
          have G5 := Lib.hid (fun W' (hb : Below w5.heap.size w5 W') => sget_any A5 n5 c5 (filB (l.drop k)) (some (l.drop k)) m.k m.s W' I5.out ((L5.out.below hb).more hb.size) nc5 (by omega) (by omega))
          have F3 := Lib.hid (fun W' (hb : Below w5.heap.size w5 W') => sfrom_any A3 n3 c3 (filB l) (some l) m 1000 (by decide) W' I3.out ((L3.out.below hb).more hb.size) nc3 (by omega) (by omega))
          have F4 := Lib.hid (fun W' (hb : Below w5.heap.size w5 W') => sfrom_any A4 n4 c4 (filB (l.take k)) (some (l.take k)) m 1000 (by decide) W' I4.out ((L4.out.below hb).more hb.size) nc4 (by omega) (by omega))
          have F5 := Lib.hid (fun W' (hb : Below w5.heap.size w5 W') => sfrom_any A5 n5 c5 (filB (l.drop k)) (some (l.drop k)) m 1000 (by decide) W' I5.out ((L5.out.below hb).more hb.size) nc5 (by omega) (by omega))
          have N3 : Hid (l.length ≤ 300) := by rw [Hid, HN.out]; exact hn300
          have N4 : Hid ((l.take k).length ≤ 300) := by unfold Hid; rw [List.length_take, HN.out]; omega
          have N5 : Hid ((l.drop k).length ≤ 300) := by unfold Hid; rw [List.length_drop, HN.out]; omega
          obtain ⟨X3, hX3⟩ : ∃ X, fromM l m = X := ⟨_, rfl⟩
          obtain ⟨X4, hX4⟩ : ∃ X, fromM (l.take k) m = X := ⟨_, rfl⟩
          obtain ⟨X5, hX5⟩ : ∃ X, fromM (l.drop k) m = X := ⟨_, rfl⟩
          rw [hX3, hX4, hX5] at HFe
          have l4 := fromM_le (l.take k) m
          have l5 := fromM_le (l.drop k) m
          rw [hX4] at l4; rw [hX5] at l5
          obtain ⟨r4, hr4⟩ : ∃ r, X4.length = r := ⟨_, rfl⟩
          obtain ⟨r5, hr5⟩ : ∃ r, X5.length = r := ⟨_, rfl⟩
          obtain ⟨r3, hr3⟩ : ∃ r, r4 + r5 = r := ⟨_, rfl⟩
          have h3l : X3.length = r3 := by rw [HFe.out, List.length_append, hr4, hr5, hr3]
          have hr4b : r4 ≤ 300 := by have := N4.out; omega
          have hr5b : r5 ≤ 300 := by have := N5.out; omega
          have FA3 : Hid (∀ W', Below w5.heap.size w5 W' → Calls Try.prog 18 #[.slice A3 n3 c3, .agg #[.string m.k, .int .u64 (m.s : Int), .bool m.g], .int .i64 1000] W' fun e w' => ∃ b o, e = .returned (.tuple #[.slice (some ⟨b, o, none⟩) r3 r3, .int .i64 0]) ∧ Lies w' w'.heap.size 4 (some ⟨b, o, none⟩) r3 (ecs X3) ∧ Below W'.heap.size W' w') := fun W' hb => (F3.out W' hb).mono fun e w' h => by
            have := sfrom_all h N3.out
            rw [hX3, h3l] at this; exact this
          have FA4 : Hid (∀ W', Below w5.heap.size w5 W' → Calls Try.prog 18 #[.slice A4 n4 c4, .agg #[.string m.k, .int .u64 (m.s : Int), .bool m.g], .int .i64 1000] W' fun e w' => ∃ b o, e = .returned (.tuple #[.slice (some ⟨b, o, none⟩) r4 r4, .int .i64 0]) ∧ Lies w' w'.heap.size 4 (some ⟨b, o, none⟩) r4 (ecs X4) ∧ Below W'.heap.size W' w') := fun W' hb => (F4.out W' hb).mono fun e w' h => by
            have := sfrom_all h N4.out
            rw [hX4, hr4] at this; exact this
          have FA5 : Hid (∀ W', Below w5.heap.size w5 W' → Calls Try.prog 18 #[.slice A5 n5 c5, .agg #[.string m.k, .int .u64 (m.s : Int), .bool m.g], .int .i64 1000] W' fun e w' => ∃ b o, e = .returned (.tuple #[.slice (some ⟨b, o, none⟩) r5 r5, .int .i64 0]) ∧ Lies w' w'.heap.size 4 (some ⟨b, o, none⟩) r5 (ecs X5) ∧ Below W'.heap.size W' w') := fun W' hb => (F5.out W' hb).mono fun e w' h => by
            have := sfrom_all h N5.out
            rw [hX5, hr5] at this; exact this
          have HR3 := Lib.hid hr3
          clear hX3 hX4 hX5 l4 l5 hr4 hr5 hr3 h3l F3 F4 F5
          obtain ⟨k0, k1, k2, _⟩ := K5.out.cells
          obtain ⟨y3, hy3⟩ : ∃ y, getE l m.k m.s = y := ⟨_, rfl⟩
          obtain ⟨y4, hy4⟩ : ∃ y, getE (l.take k) m.k m.s = y := ⟨_, rfl⟩
          obtain ⟨y5, hy5⟩ : ∃ y, getE (l.drop k) m.k m.s = y := ⟨_, rfl⟩
          rw [hy3, hy4, hy5] at HGe
          have Y3 := Lib.hid hy3; have Y4 := Lib.hid hy4; have Y5 := Lib.hid hy5
          have BR5 : Hid (Below w5.heap.size w5 w5) := Below.refl _ _
          clear hok hokt hokd o3 o4 o5 s3 s4 s5 B45 hri hTD L3 L4 L5 hy3 hy4 hy5
          -- the first Get
          go_wp2_with fail
          with_reducible refine Calls.mono (G3.out _ BR5.out) ?_
          rintro e w6 ⟨hb6, hs6, _⟩
          have he6 := hs6 l rfl
          rw [Y3.out] at he6
          unfold En.v at he6
          subst he6
          obtain ⟨e3, he3⟩ : ∃ e, y3.getD noE = e := ⟨_, rfl⟩
          obtain ⟨b3, hb3'⟩ : ∃ b, y3.isSome = b := ⟨_, rfl⟩
          rw [he3, hb3']
          have E3 := Lib.hid he3; have Q3 := Lib.hid hb3'
          obtain ⟨Wa, Wb, hWa, ⟨z0, z1, z2, z3⟩, ⟨f0, f1, f2, f3⟩, hWb, hEn6, hbn6⟩ := newEn w6 e3
          have B6 := Lib.hid (hb6.trans (hbn6.mono hb6.size))
          have EN6 := Lib.hid hEn6
          obtain ⟨k0, k1, k2, _⟩ := (K5.out.below B6.out).cells
          have HS6 := hbn6.size
          clear hs6 hb6 he3 hb3' hEn6 hbn6
          go_wp2_with fail
          clear hWa hWb z0 z1 z2 z3 f0 f1 f2 f3 k0 k1 k2
          with_reducible refine Calls.mono (G4.out _ B6.out) ?_
          rintro e w7 ⟨hb7, hs7, _⟩
          have he7 := hs7 _ rfl
          rw [Y4.out] at he7
          unfold En.v at he7
          subst he7
          obtain ⟨g14, hg14⟩ : ∃ g, w6.heap.size = g := ⟨_, rfl⟩
          rw [hg14] at EN6
          have EN7 := Lib.hid (enAt_below EN6.out hb7)
          have B7 := Lib.hid (B6.out.trans (hb7.mono B6.out.size))
          have HS7 := hb7.size
          clear hs7 hb7
          cases y4 with
          | some v4 =>
            have h34 : y3 = some v4 := by rw [HGe.out]; rfl
            have e34 : v4 = e3 := by rw [← E3.out, h34]; rfl
            have b34 : b3 = true := by rw [← Q3.out, h34]; rfl
            subst e34
            subst b34
            obtain ⟨Wa, Wb, hWa, ⟨z0, z1, z2, z3⟩, ⟨f0, f1, f2, f3⟩, hWb, hEn8, hbn8⟩ := newEn w7 v4
            have B8 := Lib.hid (B7.out.trans (hbn8.mono B7.out.size))
            have EN14 := Lib.hid (enAt_below EN7.out hbn8)
            have EN17 := Lib.hid hEn8
            have h0 : ((some v4).getD noE) = v4 := rfl
            have h1 : ((some v4).isSome) = true := rfl
            clear hEn8 hbn8 h34
            rw [h0, h1]
            obtain ⟨k0, k1, k2, _⟩ := (K5.out.below B8.out).cells
            have HS8 := B8.out.size
            go_wp2_with fail
            clear hWa hWb z0 z1 z2 z3 f0 f1 f2 f3
            with_reducible refine Calls.mono (FA4.out _ B8.out) ?_
            rintro e w9 ⟨pb, po, rfl, lp, hb9⟩
            have B9 := Lib.hid (B8.out.trans (hb9.mono B8.out.size))
            have LP9 := Lib.hid lp
            have ENa := Lib.hid (enAt_below EN14.out hb9); have ENb := Lib.hid (enAt_below EN17.out hb9)
            clear k0 k1 k2 lp hb9 EN14 EN17 B8 HS8
            obtain ⟨k0, k1, k2, _⟩ := (K5.out.below B9.out).cells
            go_wp2_with fail
            with_reducible refine Calls.mono (FA5.out _ B9.out) ?_
            rintro e w10 ⟨qb, qo, rfl, lq, hb10⟩
            have B10 := Lib.hid (B9.out.trans (hb10.mono B9.out.size))
            have LP10 := Lib.hid ((LP9.out.below hb10).more hb10.size)
            have LQ10 := Lib.hid lq
            have ENa2 := Lib.hid (enAt_below ENa.out hb10); have ENb2 := Lib.hid (enAt_below ENb.out hb10)
            clear k0 k1 k2 lq hb10 ENa ENb B9 LP9
            obtain ⟨k0, k1, k2, _⟩ := (K5.out.below B10.out).cells
            go_wp2_with fail
            with_reducible refine Calls.mono (FA3.out _ B10.out) ?_
            rintro e w11 ⟨rb, ro, rfl, lr, hb11⟩
            have B11 := Lib.hid (B10.out.trans (hb11.mono B10.out.size))
            have lp := (LP10.out.below hb11).more hb11.size
            have lq := (LQ10.out.below hb11).more hb11.size
            obtain ⟨x0, x1, x2, x3⟩ := (enAt_below ENa2.out hb11).cell
            obtain ⟨u0, u1, u2, u3⟩ := (enAt_below ENb2.out hb11).cell
            obtain ⟨A7, c7, w12, hrun, hl12, hb12⟩ := appE_run w11 pb po r4 r5 r5 (some ⟨qb, qo, none⟩) X4 X5 lp lq (by omega)
            rw [HR3.out] at hrun hl12
            rw [← HFe.out] at hl12
            have hrun2 : (appS #[22, 22] 22 #[.slice (some ⟨pb, po, none⟩) r4 r4, .slice (some ⟨qb, qo, none⟩) r5 r5]).run Try.prog w11 = .ok (.slice A7 r3 c7) w12 := hrun
            have HSm := Lib.hid (sameE_yes (c := r3) (c2 := c7) ((lr.below hb12).more hb12.size) hl12 (by have := HR3.out; omega))
            have hqq : ∀ W, (binOp BinOp.eql 4 (.bool true) (.bool true)).run Try.prog W = .ok (.bool true) W := fun W => by go_simp
            have hen := fun W => en_eqS v4 W
            have H12 := Lib.hid (H5.out.trans ((B11.out.trans (hb12.mono B11.out.size)).mono H5.out.size))
            clear hrun lp lq lr hb11 hl12 hb12 k0 k1 k2 ENa2 ENb2
            go_wp2_with fail
            with_reducible refine Calls.mono HSm.out ?_
            rintro e w13 ⟨rfl, hb13⟩
            have HF := Lib.hid (H12.out.trans (hb13.mono H12.out.size))
            clear hb13
            go_wp2
            go_ret
            exact ⟨rfl, HF.out⟩
          | none =>
            have h35 : y3 = y5 := by rw [HGe.out]; rfl
            obtain ⟨Wa, Wb, hWa, ⟨z0, z1, z2, z3⟩, ⟨f0, f1, f2, f3⟩, hWb, hEn8, hbn8⟩ := newEn w7 noE
            have BB := Lib.hid (B7.out.trans (hbn8.mono B7.out.size))
            have ENc := Lib.hid (enAt_below EN7.out hbn8)
            have ENd := Lib.hid hEn8
            have h0 : ((none : Option En).getD noE) = noE := rfl
            have h1 : ((none : Option En).isSome) = false := rfl
            obtain ⟨k0, k1, k2, _⟩ := (K5.out.below BB.out).cells
            clear hEn8 hbn8
            rw [h0, h1]
            go_wp2_with fail
            clear hWa hWb z0 z1 z2 z3 f0 f1 f2 f3 k0 k1 k2
            with_reducible refine Calls.mono (G5.out _ BB.out) ?_
            rintro e w8' ⟨hb8, hs8, _⟩
            have he8 := hs8 _ rfl
            rw [Y5.out, ← h35, E3.out, Q3.out] at he8
            unfold En.v at he8
            subst he8
            have ENe := Lib.hid (enAt_below ENc.out hb8)
            have ENf := enAt_below ENd.out hb8
            obtain ⟨g17, hg17⟩ : ∃ g, w7.heap.size = g := ⟨_, rfl⟩
            rw [hg17] at ENf
            have hg1417 : g14 < g17 := by rw [← hg17]; exact (Array.getElem?_eq_some_iff.1 EN7.out).1
            have hw5g : w5.heap.size ≤ g17 := by rw [← hg17]; have := B7.out.size; omega
            obtain ⟨z0, z1, z2, z3⟩ := ENf.cell
            have f0 := enAt_thawed ENf 0; have f1 := enAt_thawed ENf 1; have f2 := enAt_thawed ENf 2; have f3 := enAt_thawed ENf 3
            obtain ⟨hx8, hbx8⟩ := four_setS ENf (Below.refl g17 w8') (Nat.le_refl _) (.string e3.m.k) (.int .u64 (e3.m.s : Int)) (.bool e3.m.g) (.string e3.x)
            obtain ⟨w8, hW8⟩ : ∃ W8, (((w8'.setCell ⟨g17, 0, none⟩ (.string e3.m.k)).setCell ⟨g17, 1, none⟩ (.int .u64 (e3.m.s : Int))).setCell ⟨g17, 2, none⟩ (.bool e3.m.g)).setCell ⟨g17, 3, none⟩ (.string e3.x) = W8 := ⟨_, rfl⟩
            rw [hW8] at hx8 hbx8
            have B8 := Lib.hid ((BB.out.trans (hb8.mono BB.out.size)).trans (hbx8.mono hw5g))
            have EN14 : Hid (EnAt w8 g14 e3) := (hbx8.block g14 hg1417).trans ENe.out
            have EN17 : Hid (EnAt w8 g17 e3) := hx8
            rw [hg17]
            clear hs8 hb8 hx8 hbx8 ENf h35 hg17 hg1417 hw5g
            obtain ⟨k0, k1, k2, _⟩ := (K5.out.below B8.out).cells
            have HS8 := B8.out.size
            go_wp2_with fail
            clear hW8 z0 z1 z2 z3 f0 f1 f2 f3
            with_reducible refine Calls.mono (FA4.out _ B8.out) ?_
            rintro e w9 ⟨pb, po, rfl, lp, hb9⟩
            have B9 := Lib.hid (B8.out.trans (hb9.mono B8.out.size))
            have LP9 := Lib.hid lp
            have ENa := Lib.hid (enAt_below EN14.out hb9); have ENb := Lib.hid (enAt_below EN17.out hb9)
            clear k0 k1 k2 lp hb9 EN14 EN17 B8 HS8
            obtain ⟨k0, k1, k2, _⟩ := (K5.out.below B9.out).cells
            go_wp2_with fail
            with_reducible refine Calls.mono (FA5.out _ B9.out) ?_
            rintro e w10 ⟨qb, qo, rfl, lq, hb10⟩
            have B10 := Lib.hid (B9.out.trans (hb10.mono B9.out.size))
            have LP10 := Lib.hid ((LP9.out.below hb10).more hb10.size)
            have LQ10 := Lib.hid lq
            have ENa2 := Lib.hid (enAt_below ENa.out hb10); have ENb2 := Lib.hid (enAt_below ENb.out hb10)
            clear k0 k1 k2 lq hb10 ENa ENb B9 LP9
            obtain ⟨k0, k1, k2, _⟩ := (K5.out.below B10.out).cells
            go_wp2_with fail
            with_reducible refine Calls.mono (FA3.out _ B10.out) ?_
            rintro e w11 ⟨rb, ro, rfl, lr, hb11⟩
            have B11 := Lib.hid (B10.out.trans (hb11.mono B10.out.size))
            have lp := (LP10.out.below hb11).more hb11.size
            have lq := (LQ10.out.below hb11).more hb11.size
            obtain ⟨x0, x1, x2, x3⟩ := (enAt_below ENa2.out hb11).cell
            obtain ⟨u0, u1, u2, u3⟩ := (enAt_below ENb2.out hb11).cell
            obtain ⟨A7, c7, w12, hrun, hl12, hb12⟩ := appE_run w11 pb po r4 r5 r5 (some ⟨qb, qo, none⟩) X4 X5 lp lq (by omega)
            rw [HR3.out] at hrun hl12
            rw [← HFe.out] at hl12
            have hrun2 : (appS #[22, 22] 22 #[.slice (some ⟨pb, po, none⟩) r4 r4, .slice (some ⟨qb, qo, none⟩) r5 r5]).run Try.prog w11 = .ok (.slice A7 r3 c7) w12 := hrun
            have HSm := Lib.hid (sameE_yes (c := r3) (c2 := c7) ((lr.below hb12).more hb12.size) hl12 (by have := HR3.out; omega))
            have hqq : ∀ W, (binOp BinOp.eql 4 (.bool b3) (.bool b3)).run Try.prog W = .ok (.bool true) W := fun W => by cases b3 <;> go_simp
            have hen := fun W => en_eqS e3 W
            have H12 := Lib.hid (H5.out.trans ((B11.out.trans (hb12.mono B11.out.size)).mono H5.out.size))
            clear hrun lp lq lr hb11 hl12 hb12 k0 k1 k2 ENa2 ENb2
            go_wp2_with fail
            with_reducible refine Calls.mono HSm.out ?_
            rintro e w13 ⟨rfl, hb13⟩
            have HF := Lib.hid (H12.out.trans (hb13.mono H12.out.size))
            clear hb13
            go_wp2
            go_ret
            exact ⟨rfl, HF.out⟩
        · have ha : okA l = false := by
            cases h : okA l with
            | false => rfl
            | true => exact absurd ((okF_iff l).2 ⟨h, by rw [HN.out]; omega⟩) hok
          obtain rfl := Z3.out ha
          clear hok ha P3 P4 P5
          go_wp2
          go_ret
          exact ⟨rfl, H5.out⟩
end
end Go.Proofs.Ytghfhojpnbpjoaa
