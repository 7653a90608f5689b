/-
  The walk of SumsOn.
-/
import Derived.Test.YtcbeimoolndomaaSumsBytesW
import Derived.Deep.RegionWith
namespace Go.Proofs.Ytcbeimoolndomaa
open Go.RowKit
set_option linter.unusedVariables false

theorem run_head (w : World) (A : Option Addr) (n c l : Nat) (h : l ≤ c) :
    (Instr.slice 26 (.slice A n c) none (some (.int .i64 (l : Int))) none).run Try.prog w = .ok (.slice A l c) w := by
  obtain ⟨i0, hi, hz0, hz1, hz2⟩ := info_parts byte_info
  unfold Instr.slice
  simp [run_underlying Try.underlying26, Instr.sliceBounds, Instr.sliceBound, asIntOf, sizeOf, typeInfo, hi, h]
  intro _
  cases A with
  | none => rfl
  | some ad => simp [Addr.add]
/-- the first four of five numbers, by value -/
theorem built4 (a b c d : Nat) : Try.prog.built 27 [(0, nv a), (1, nv b), (2, nv c), (3, nv d)] = some (arr [a, b, c, d]) := by kernel_rfl

set_option maxHeartbeats 4000000 in
set_option maxRecDepth 100000 in
theorem sumsOn_walk (A : Option Addr) (n c : Nat) (b : List UInt8) (cut : Nat) (l : List Nat) (w : World) (L : Lies w w.heap.size 1 A n (b.map bv)) (hnc : n ≤ c) (hc : c ≤ 140737488351232) (hcut : cut < 65536) (hl : l.length = 5) (hsm : Crc.Small l) :
    Calls Try.prog 5 #[.slice A n c, .int .u16 (cut : Int), .agg (arr l)] w fun e w' => e = .returned (.bool true) ∧ Below w.heap.size w w' := by
  have HL := Lib.hid (L.alloc (Nat.le_refl _) (.cells (arr l) 36)); clear L
  have HLB : Hid (∀ w', Below (w.alloc (.cells (arr l) 36)).heap.size (w.alloc (.cells (arr l) 36)) w' → Below w.heap.size w w') := fun w' h => lit_below w _ h
  by_cases hbig : 100000 < n
  · have hg : decide ((100000 : Int) < (n : Int)) = true := by simp; omega
    go_enter Try.func5, Try.ntmps5
    go_wp2_with fail
    refine (alive2_any _).mono ?_
    rintro e w1 ⟨rfl, hb1⟩
    have H1 := Lib.hid (HLB.out _ hb1); clear hb1
    go_wp2_with fail
    refine (alive2_any w1).mono ?_
    rintro e w2 ⟨rfl, hb2⟩
    have H2 := Lib.hid (H1.out.trans (hb2.mono H1.out.size)); clear hb2
    go_wp2
    go_ret
    exact ⟨rfl, H2.out⟩
  · have hg : decide ((100000 : Int) < (n : Int)) = false := by simp; omega
    obtain ⟨x0, hx0⟩ : ∃ p, l[0]? = some p := ⟨_, List.getElem?_eq_getElem (by omega)⟩
    obtain ⟨x1, hx1⟩ : ∃ p, l[1]? = some p := ⟨_, List.getElem?_eq_getElem (by omega)⟩
    obtain ⟨x2, hx2⟩ : ∃ p, l[2]? = some p := ⟨_, List.getElem?_eq_getElem (by omega)⟩
    obtain ⟨x3, hx3⟩ : ∃ p, l[3]? = some p := ⟨_, List.getElem?_eq_getElem (by omega)⟩
    obtain ⟨s, hs⟩ : ∃ p, l[4]? = some p := ⟨_, List.getElem?_eq_getElem (by omega)⟩
    have hsl := hsm s (List.mem_of_getElem? hs)
    have hsm4 : Crc.Small [x0, x1, x2, x3] := by
      intro y hy
      simp only [List.mem_cons, List.not_mem_nil, or_false] at hy
      rcases hy with rfl | rfl | rfl | rfl
      · exact hsm _ (List.mem_of_getElem? hx0)
      · exact hsm _ (List.mem_of_getElem? hx1)
      · exact hsm _ (List.mem_of_getElem? hx2)
      · exact hsm _ (List.mem_of_getElem? hx3)
    obtain ⟨k, hk⟩ : ∃ k, k = cut % (n + 1) := ⟨_, rfl⟩
    have hkn : k ≤ n := by have := Nat.mod_lt cut (show 0 < n + 1 by omega); omega
    have ek : (cut : Int) % ((n : Int) + 1) = (k : Int) := by rw [hk]; rfl
    have en : ((n : Int) + 1 == 0) = false := by simp; omega
    have en2 : (n : Int) + 1 ≠ 0 := by omega
    clear hk
    obtain ⟨T, hT⟩ : ∃ T, T = tabOf [x0, x1, x2, x3] := ⟨_, rfl⟩
    have hTl : T.length = 256 := by rw [hT]; exact tabOf_len _
    have HTs := Lib.hid (show Crc.Small T by rw [hT]; exact tabOf_small hsm4)
    have HSM := Lib.hid hsm4; have HTT := Lib.hid hT
    clear hsm4 hT hsm
    go_enter Try.func5, Try.ntmps5
    go_wp2_with fail
    refine (alive2_any _).mono ?_
    rintro e w1 ⟨rfl, hb1⟩
    have H1 := Lib.hid (HLB.out _ hb1)
    have HP1 := Lib.hid ((Tab.new w 36 l).below hb1 (by simp))
    have HL1 := Lib.hid (HL.out.below (hb1.mono (by simp)))
    clear hb1 HL HLB
    go_wp2_with fail
    refine (table_any w1).mono ?_
    rintro e w2 ⟨rfl, hb2⟩
    have hb2' := H1.out.trans (hb2.mono H1.out.size)
    have HT := Lib.hid (lay_tab w2 Crc.tab)
    have HB := Lib.hid (lay_below hb2' hb2'.size Crc.tab)
    have HA := Lib.hid ((HL1.out.below (hb2.mono H1.out.size)).lay hb2'.size Crc.tab)
    have HP := Lib.hid ((HP1.out.below hb2 HP1.out.lt).lay Crc.tab)
    clear hb2 hb2' H1 HL1 HP1
    have c0 := HP.out.cell hx0
    have c1 := HP.out.cell hx1
    have c2 := HP.out.cell hx2
    have c3 := HP.out.cell hx3
    go_wp2_with (first
      | refine wpList_lay rfl rfl ?_
      | refine wpList_laid rfl _ _ rfl noughts Crc.tab rfl rfl noughts_len Crc.tab_len ?_
      | refine wpList_build rfl _ _ rfl (by rfl) ?_)
    refine (tableOf_any [x0, x1, x2, x3] _ rfl HSM.out).mono ?_
    rintro e w3 ⟨rfl, hb3⟩
    rw [← HTT.out]
    have HT3 := Lib.hid ((HT.out.below hb3 HT.out.lt).lay T)
    have HU3 := Lib.hid (lay_tab w3 T)
    have hb3' := HB.out.trans (hb3.mono HB.out.size)
    have HB3 := Lib.hid (lay_below hb3' hb3'.size T)
    have HA3 := Lib.hid ((HA.out.below (hb3.mono HB.out.size)).lay hb3'.size T)
    have HP3 := Lib.hid ((HP.out.below hb3 HP.out.lt).lay T)
    clear hb3 hb3' HT HB HA HP c0 c1 c2 c3 HSM HTT hx0 hx1 hx2 hx3
    have c4 := HP3.out.cell hs
    go_wp2_with (first
      | refine wpList_lay rfl rfl ?_
      | refine wpList_laid rfl _ _ rfl noughts T rfl rfl noughts_len hTl ?_)
    obtain ⟨g, hg0⟩ : ∃ g, w2.heap.size = g := ⟨_, rfl⟩
    obtain ⟨gu, hgu⟩ : ∃ g, w3.heap.size = g := ⟨_, rfl⟩
    rw [hg0] at HT3 ⊢
    rw [hgu] at HU3 ⊢
    generalize lay w3 T = W at *
    clear hg0 hgu
    have hh := fun W => run_head W A n c k (by omega)
    have hc2 := fun W => run_cut W A n c k hkn
    have lk := lies_take HA3.out hkn
    have lc := HA3.out.cutA hkn hnc
    have eb : b.take k ++ b.drop k = b := List.take_append_drop k b
    have q1 := Crc.on_append Crc.tab Crc.small_tab 0 (b.take k) (b.drop k)
    have q2 := Crc.on_append T HTs.out s (b.take k) (b.drop k)
    have q3 := Crc.on_append Crc.tab Crc.small_tab s (b.take k) (b.drop k)
    rw [eb] at q1 q2 q3
    have n1 := Crc.on_nil Crc.tab s hsl
    have C1 : Hid (∀ N, Calls Try.prog 17 #[.pointer (some ⟨g, 0, none⟩), .slice A n c] (W.drewN N) fun e w' => e = .returned (.int .u32 ((Crc.on Crc.tab 0 b : Nat) : Int)) ∧ w' = W.drewN N) := fun N =>
      of_any g n c _ A b Crc.tab _ (HT3.out.drewN N) Crc.tab_len Crc.small_tab (HA3.out.drewN N) (by omega)
    have C2 : Hid (∀ N, Calls Try.prog 17 #[.pointer (some ⟨g, 0, none⟩), .slice A k c] (W.drewN N) fun e w' => e = .returned (.int .u32 ((Crc.on Crc.tab 0 (b.take k) : Nat) : Int)) ∧ w' = W.drewN N) := fun N =>
      of_any g k c _ A (b.take k) Crc.tab _ (HT3.out.drewN N) Crc.tab_len Crc.small_tab (lk.drewN N) (by omega)
    have C3 : Hid (∀ N, Calls Try.prog 19 #[.pointer (some ⟨g, 0, none⟩), .int .u32 ((Crc.on Crc.tab 0 (b.take k) : Nat) : Int), .slice (cutA A c k) (n - k) (c - k)] (W.drewN N) fun e w' => e = .returned (.int .u32 ((Crc.on Crc.tab 0 b : Nat) : Int)) ∧ w' = W.drewN N) := fun N => by
      rw [q1]; exact on_any g _ (n - k) (c - k) _ _ (b.drop k) Crc.tab _ (HT3.out.drewN N) Crc.tab_len Crc.small_tab (Crc.on_lt _ _ _) (lc.drewN N) (by omega)
    have C4 : Hid (∀ N, Calls Try.prog 19 #[.pointer (some ⟨gu, 0, none⟩), .int .u32 (s : Int), .slice A n c] (W.drewN N) fun e w' => e = .returned (.int .u32 ((Crc.on T s b : Nat) : Int)) ∧ w' = W.drewN N) := fun N =>
      on_any gu s n c _ A b T _ (HU3.out.drewN N) hTl HTs.out hsl (HA3.out.drewN N) (by omega)
    have C5 : Hid (∀ N, Calls Try.prog 19 #[.pointer (some ⟨gu, 0, none⟩), .int .u32 (s : Int), .slice A k c] (W.drewN N) fun e w' => e = .returned (.int .u32 ((Crc.on T s (b.take k) : Nat) : Int)) ∧ w' = W.drewN N) := fun N =>
      on_any gu s k c _ A (b.take k) T _ (HU3.out.drewN N) hTl HTs.out hsl (lk.drewN N) (by omega)
    have C6 : Hid (∀ N, Calls Try.prog 19 #[.pointer (some ⟨gu, 0, none⟩), .int .u32 ((Crc.on T s (b.take k) : Nat) : Int), .slice (cutA A c k) (n - k) (c - k)] (W.drewN N) fun e w' => e = .returned (.int .u32 ((Crc.on T s b : Nat) : Int)) ∧ w' = W.drewN N) := fun N => by
      rw [q2]; exact on_any gu _ (n - k) (c - k) _ _ (b.drop k) T _ (HU3.out.drewN N) hTl HTs.out (Crc.on_lt _ _ _) (lc.drewN N) (by omega)
    have D1 : Hid (∀ W2 : World, (∃ M, W2 = W.drewN M) → ∀ N, Calls Try.prog 19 #[.pointer (some ⟨g, 0, none⟩), .int .u32 (s : Int), .slice none 0 0] (W2.drewN N) fun e w' => e = .returned (.int .u32 (s : Int)) ∧ w' = W2.drewN N) := by
      rintro W2 ⟨M, rfl⟩ N
      have := on_any g s 0 0 0 none [] Crc.tab ((W.drewN M).drewN N) ((HT3.out.drewN M).drewN N) Crc.tab_len Crc.small_tab hsl (Lies.none_ _ _ _ _) (by omega)
      rw [n1] at this
      exact this
    have D2 : Hid (∀ W2 : World, (∃ M, W2 = W.drewN M) → ∀ N, Calls Try.prog 19 #[.pointer (some ⟨g, 0, none⟩), .int .u32 (s : Int), .slice A n c] (W2.drewN N) fun e w' => e = .returned (.int .u32 ((Crc.on Crc.tab s b : Nat) : Int)) ∧ w' = W2.drewN N) := by
      rintro W2 ⟨M, rfl⟩ N
      exact on_any g s n c _ A b Crc.tab _ ((HT3.out.drewN M).drewN N) Crc.tab_len Crc.small_tab hsl ((HA3.out.drewN M).drewN N) (by omega)
    have D3 : Hid (∀ W2 : World, (∃ M, W2 = W.drewN M) → ∀ N, Calls Try.prog 19 #[.pointer (some ⟨g, 0, none⟩), .int .u32 (s : Int), .slice A k c] (W2.drewN N) fun e w' => e = .returned (.int .u32 ((Crc.on Crc.tab s (b.take k) : Nat) : Int)) ∧ w' = W2.drewN N) := by
      rintro W2 ⟨M, rfl⟩ N
      exact on_any g s k c _ A (b.take k) Crc.tab _ ((HT3.out.drewN M).drewN N) Crc.tab_len Crc.small_tab hsl ((lk.drewN M).drewN N) (by omega)
    have D4 : Hid (∀ W2 : World, (∃ M, W2 = W.drewN M) → ∀ N, Calls Try.prog 19 #[.pointer (some ⟨g, 0, none⟩), .int .u32 ((Crc.on Crc.tab s (b.take k) : Nat) : Int), .slice (cutA A c k) (n - k) (c - k)] (W2.drewN N) fun e w' => e = .returned (.int .u32 ((Crc.on Crc.tab s b : Nat) : Int)) ∧ w' = W2.drewN N) := by
      rintro W2 ⟨M, rfl⟩ N
      rw [q3]; exact on_any g _ (n - k) (c - k) _ _ (b.drop k) Crc.tab _ ((HT3.out.drewN M).drewN N) Crc.tab_len Crc.small_tab (Crc.on_lt _ _ _) ((lc.drewN M).drewN N) (by omega)
    have E4 : Hid (∀ M, (W.drewN M).cell? ⟨w.heap.size, 4, none⟩ = some (nv s)) := fun M => c4
    clear q1 q2 q3 n1 eb lk lc HT3 HU3 HA3 HP3
    generalize Crc.on Crc.tab 0 b = r1 at *
    generalize Crc.on Crc.tab 0 (b.take k) = r2 at *
    generalize Crc.on T s b = r3 at *
    generalize Crc.on T s (b.take k) = r4 at *
    generalize Crc.on Crc.tab s b = r5 at *
    generalize Crc.on Crc.tab s (b.take k) = r6 at *
    go_quiet (first
      | (go_at_call_of 17 (Value.slice A n c); exact Calls.quiet_of_same (C1.out _))
      | (go_at_call_of 17 (Value.slice A k c); exact Calls.quiet_of_same (C2.out _))
      | (go_at_call_of 19 (Value.int IntKind.u32 (r2 : Int)); exact Calls.quiet_of_same (C3.out _))
      | (go_at_call_of 19 (Value.slice A n c); exact Calls.quiet_of_same (C4.out _))
      | (go_at_call_of 19 (Value.slice A k c); exact Calls.quiet_of_same (C5.out _))
      | (go_at_call_of 19 (Value.int IntKind.u32 (r4 : Int)); exact Calls.quiet_of_same (C6.out _)))
    have c5 := E4.out nq
    have F1 := Lib.hid (D1.out _ ⟨nq, rfl⟩)
    have F2 := Lib.hid (D2.out _ ⟨nq, rfl⟩)
    have F3 := Lib.hid (D3.out _ ⟨nq, rfl⟩)
    have F4 := Lib.hid (D4.out _ ⟨nq, rfl⟩)
    have B5 := Lib.hid (below_drewN HB3.out nq)
    clear D1 D2 D3 D4 E4 C1 C2 C3 C4 C5 C6 HB3 c4
    generalize W.drewN nq = W2 at c5 F1 F2 F3 F4 B5 ⊢
    go_wp2_with fail
    go_quiet (first
      | (go_at_call_of 19 (Value.slice none 0 0); exact Calls.quiet_of_same (F1.out _))
      | (go_at_call_of 19 (Value.slice A n c); exact Calls.quiet_of_same (F2.out _))
      | (go_at_call_of 19 (Value.slice A k c); exact Calls.quiet_of_same (F3.out _))
      | (go_at_call_of 19 (Value.int IntKind.u32 (r6 : Int)); exact Calls.quiet_of_same (F4.out _)))
    go_wp2
    go_ret
    exact ⟨by simp, below_drewN B5.out _⟩
end Go.Proofs.Ytcbeimoolndomaa
