/-
  The walk of SumsApart.
-/
import Derived.Test.YtcbeimoolndomaaSumsSealedW
import Derived.Test.YtcbeimoolndomaaLaw2C
import Derived.Test.YtcbeimoolndomaaStep
namespace Go.Proofs.Ytcbeimoolndomaa
open Go.RowKit
set_option linter.unusedVariables false

theorem app_nil {W w5 : World} (h : W.grownBy w5 (Value.slice none 0 0).ownBlock) : Below W.heap.size W w5 := (Below.refl _ _).grown h (Nat.le_refl _) (by simp [Value.ownBlock])
theorem undrew {B : Nat} {a w : World} (h : Below B a.drew w) : Below B a w := ⟨h.os, h.tape, h.output, h.size, h.block⟩

set_option maxHeartbeats 4000000 in
set_option maxRecDepth 100000 in
theorem sumsApart_walk (A : Option Addr) (n c : Nat) (b : List UInt8) (l : List Nat) (cn : Nat) (w : World) (L : Lies w w.heap.size 1 A n (b.map bv)) (hnc : n ≤ c) (hc : c ≤ 140737488351232) (hl : l.length = 2) (hsm : Crc.Small l) (hcn : cn < 256) :
    Calls Try.prog 10 #[.slice A n c, .agg (arr l), .int .u8 (cn : Int)] w fun e w' => e = .returned (.bool true) ∧ Below w.heap.size w w' := by
  have HL := Lib.hid (L.alloc (Nat.le_refl _) (.cells (arr l) 45)); clear L
  have hlb := fun w' (h : Below (w.alloc (.cells (arr l) 45)).heap.size (w.alloc (.cells (arr l) 45)) w') => lit_below w (.cells (arr l) 45) h
  have hb00 : Below w.heap.size w (w.alloc (.cells (arr l) 45)) := (Below.refl _ _).alloc (Nat.le_refl _) _
  have HLB := Lib.hid hlb; clear hlb
  by_cases hbig : 100000 < n
  · have hg : decide ((100000 : Int) < (n : Int)) = true := by simp; omega
    go_enter Try.func10, Try.ntmps10
    go_wp2_with fail
    refine (alive2_any _).mono ?_
    rintro e w1 ⟨rfl, hb1⟩
    have H1 := Lib.hid (HLB.out _ hb1); clear hb1
    go_wp2_with fail
    refine (alive2_any w1).mono ?_
    rintro e w2 ⟨rfl, hb2⟩
    have H2 := Lib.hid (H1.out.trans (hb2.mono H1.out.size)); clear hb2
    go_wp2
    go_ret
    exact ⟨rfl, H2.out⟩
  · have hg : decide ((100000 : Int) < (n : Int)) = false := by simp; omega
    obtain ⟨cb, hcb⟩ : ∃ cb : UInt8, cb.toNat = cn := ⟨UInt8.ofNat cn, by rw [UInt8.toNat_ofNat']; omega⟩
    obtain ⟨p, hp⟩ : ∃ p, l[0]? = some p := ⟨_, List.getElem?_eq_getElem (by omega)⟩
    obtain ⟨q, hq⟩ : ∃ q, l[1]? = some q := ⟨_, List.getElem?_eq_getElem (by omega)⟩
    have hpl := hsm p (List.mem_of_getElem? hp)
    have hql := hsm q (List.mem_of_getElem? hq)
    obtain ⟨i0, hi, hz0, hz1, hz2⟩ := info_parts byte_info
    go_enter Try.func10, Try.ntmps10
    go_wp2_with fail
    refine (alive2_any _).mono ?_
    rintro e w1 ⟨rfl, hb1⟩
    have H1 := Lib.hid (HLB.out _ hb1)
    have HP1 := Lib.hid ((Tab.new w 45 l).below hb1 (by simp))
    have HL1 := Lib.hid (HL.out.below (hb1.mono (by simp)))
    clear hb1 HL HLB hb00
    go_wp2_with fail
    refine (table_any w1).mono ?_
    rintro e w2 ⟨rfl, hb2⟩
    have hb2' := H1.out.trans (hb2.mono H1.out.size)
    have HT := Lib.hid (lay_tab w2 Crc.tab)
    have HB := Lib.hid (lay_below hb2' hb2'.size Crc.tab)
    have HA := Lib.hid ((HL1.out.below (hb2.mono H1.out.size)).lay hb2'.size Crc.tab)
    have HP := Lib.hid ((HP1.out.below hb2 HP1.out.lt).lay Crc.tab)
    clear hb2 hb2' H1 HL1 HP1
    have cp := HP.out.cell hp
    have cq := HP.out.cell hq
    have C1 := Lib.hid (on_any w2.heap.size p n c _ A b Crc.tab (lay w2 Crc.tab) HT.out Crc.tab_len Crc.small_tab hpl HA.out (by omega))
    have C2 := Lib.hid (on_any w2.heap.size q n c _ A b Crc.tab (lay w2 Crc.tab) HT.out Crc.tab_len Crc.small_tab hql HA.out (by omega))
    go_wp2_with (first
      | refine wpList_lay rfl rfl ?_
      | refine wpList_laid rfl _ _ rfl noughts Crc.tab rfl rfl noughts_len Crc.tab_len ?_)
    refine C1.out.mono ?_
    rintro e w3 ⟨rfl, rfl⟩
    go_wp2_with fail
    refine C2.out.mono ?_
    rintro e w4 ⟨rfl, rfl⟩
    have e1 := Crc.on_append Crc.tab Crc.small_tab p b [cb]
    obtain ⟨r0, hr0⟩ : ∃ r, Crc.on Crc.tab p b = r := ⟨_, rfl⟩
    obtain ⟨r1, hr1⟩ : ∃ r, Crc.on Crc.tab q b = r := ⟨_, rfl⟩
    have l0 := Crc.on_lt Crc.tab p b
    have l1 := Crc.on_lt Crc.tab q b
    have j1 : r0 = r1 → p = q := fun h => Crc.on_inj b hpl hql (by rw [hr0, hr1, h])
    have j2 : p = q → r0 = r1 := fun h => by rw [← hr0, ← hr1, h]
    rw [hr0] at e1 l0
    rw [hr1] at l1
    obtain ⟨s0, hs0⟩ : ∃ r, Crc.on Crc.tab r0 [cb] = r := ⟨_, rfl⟩
    obtain ⟨s1, hs1⟩ : ∃ r, Crc.on Crc.tab r1 [cb] = r := ⟨_, rfl⟩
    have j3 : s0 = s1 → r0 = r1 := fun h => Crc.on_inj [cb] l0 l1 (by rw [hs0, hs1, h])
    have j4 : r0 = r1 → s0 = s1 := fun h => by rw [← hs0, ← hs1, h]
    rw [hs0] at e1
    rw [hr0, hr1]
    obtain ⟨t, ht⟩ : ∃ t : Bool, ((p : Int) == (q : Int)) = t := ⟨_, rfl⟩
    have ht1 : ((r0 : Int) == (r1 : Int)) = t := by
      rw [← ht]
      by_cases h : p = q
      · have := j2 h; subst h this; simp
      · have h2 : r0 ≠ r1 := fun e => h (j1 e)
        rw [show ((p : Int) == (q : Int)) = false from by simp; omega, show ((r0 : Int) == (r1 : Int)) = false from by simp; omega]
    have ht2 : ((s0 : Int) == (s1 : Int)) = t := by
      rw [← ht1]
      by_cases h : r0 = r1
      · have := j4 h; subst h this; simp
      · have h2 : s0 ≠ s1 := fun e => h (j3 e)
        rw [show ((s0 : Int) == (s1 : Int)) = false from by simp; omega, show ((r0 : Int) == (r1 : Int)) = false from by simp; omega]
    have E1 := Lib.hid e1; have S0 := Lib.hid hs0; have S1 := Lib.hid hs1
    clear j1 j2 j3 j4 hr0 hr1 hs0 hs1 e1 C1 C2
    obtain ⟨g, hg0⟩ : ∃ g, w2.heap.size = g := ⟨_, rfl⟩
    rw [hg0] at HT ⊢
    generalize lay w2 Crc.tab = W at *
    clear hg0
    have hszW : w.heap.size ≤ W.heap.size := HB.out.size
    -- what On answers behind both appends
    have ONC : Hid (∀ (w6 : World) (A6 : Option Addr) (c6 : Nat), w6.ownsRow W.heap.size 5 1 (.slice A6 (n + 1) c6) (n + 1) (b.map bv ++ [.int .u8 (cn : Int)]) → Below W.heap.size W w6 →
        Calls Try.prog 19 #[.pointer (some ⟨g, 0, none⟩), .int .u32 (p : Int), .slice A6 (n + 1) c6] w6 fun e w' => e = .returned (.int .u32 (s0 : Int)) ∧ w' = w6) := by
      intro w6 A6 c6 ho hb6
      have e2 : b.map bv ++ [.int .u8 (cn : Int)] = (b ++ [cb]).map bv := by rw [List.map_append, ← hcb]; rfl
      rw [e2] at ho
      have := on_any g p (n + 1) c6 _ A6 (b ++ [cb]) Crc.tab w6 (HT.out.below hb6 HT.out.lt) Crc.tab_len Crc.small_tab hpl (Lies.of_own ho) (by omega)
      rw [E1.out] at this
      exact this
    have hlitA : Hid (∀ w5 : World, Lies (w5.alloc (.cells #[.int .u8 (cn : Int)] 5)) (w5.heap.size + 1) 1 (some ⟨w5.heap.size, 0, none⟩) 1 [.int .u8 (cn : Int)]) := fun w5 => one_lies rfl _ _
    have hCell : Hid (∀ w6 : World, Below W.heap.size W w6 → w6.cell? ⟨w.heap.size, 0, none⟩ = some (nv p)) := fun w6 h => (HP.out.below h HP.out.lt).cell hp
    go_wp2_with fail
    go_region_held3 (fun w' => w'.cell? ⟨w.heap.size, 0, none⟩ = some (nv p)) (first | assumption | exact cp | exact hCell.out _ hb6 | exact hCell.out _ (hb5.alloc hb5.size _) | exact hCell.out _ hb5 | exact hCell.out _ (below_drew (Below.refl _ _)) | exact hCell.out _ (Below.alloc (below_drew (Below.refl _ _)) (Nat.le_refl _) _))
      (first
      | (go_at_call 19; refine (ONC.out w6 A6 c6 hown6 hb6).mono ?_; rintro e w7 ⟨rfl, rfl⟩)
      | (refine step_app _ (by rfl) (.const (.slice none 0 0)) (.tmp 30) 26 (by rfl) W.heap.size 5 i0 _ 1 1 Try.underlying26 hi hz0 hz1 hz2 rfl (by decide) (.slice none 0 0) 0 [] (by rfl) (own_nil _ _ _) w.heap.size A n c (b.map bv) (by rfl) HA.out.drew (bv_one _) (by unfold maxLen; omega) (by omega) (Nat.le_refl _) ?_; intro v5 w5 hown5 hg5 _; simp only [Nat.zero_add, List.nil_append] at hown5; have hb5 : Below W.heap.size W w5 := undrew (app_nil hg5); obtain ⟨A5, c5, rfl, _⟩ := own_shape hown5)
      | (refine step_app _ (by rfl) (.const (.slice none 0 0)) (.tmp 30) 26 (by rfl) W.heap.size 5 i0 _ 1 1 Try.underlying26 hi hz0 hz1 hz2 rfl (by decide) (.slice none 0 0) 0 [] (by rfl) (own_nil _ _ _) w.heap.size A n c (b.map bv) (by rfl) (Lies.alloc HA.out.drew hszW _) (bv_one _) (by unfold maxLen; omega) (by omega) (by simp) ?_; intro v5 w5 hown5 hg5 _; simp only [Nat.zero_add, List.nil_append] at hown5; have hbx := app_nil hg5; have hl5 := (hlitA.out W.drew).below (hbx.mono (by simp)); have hb5 : Below W.heap.size W w5 := undrew (lit_below W.drew _ hbx); obtain ⟨A5, c5, rfl, _⟩ := own_shape hown5)
      | (refine step_app _ (by rfl) (.tmp 31) (.tmp 33) 26 (by rfl) W.heap.size 5 i0 _ 1 1 Try.underlying26 hi hz0 hz1 hz2 rfl (by decide) (.slice A5 n c5) n (b.map bv) (by rfl) (World.ownsRow.alloc hown5 _) (w5.heap.size + 1) (some ⟨w5.heap.size, 0, none⟩) 1 1 [.int .u8 (cn : Int)] (by rfl) (hlitA.out w5) (by intro u hu; simp at hu; subst hu; rfl) (by unfold maxLen; omega) (by omega) (by have := hb5.size; simp; omega) ?_; intro v6 w6 hown6 hg6 _; have hb6 : Below W.heap.size W w6 := (hb5.alloc hb5.size _).grown hg6 (by have := hb5.size; simp; omega) (fun k hk => (hown5.lt k hk).1); obtain ⟨A6, c6, rfl, _⟩ := own_shape hown6)
      | (refine step_app _ (by rfl) (.tmp 31) (.tmp 33) 26 (by rfl) W.heap.size 5 i0 _ 1 1 Try.underlying26 hi hz0 hz1 hz2 rfl (by decide) (.slice A5 n c5) n (b.map bv) (by rfl) hown5 (W.drew.heap.size + 1) (some ⟨W.drew.heap.size, 0, none⟩) 1 1 [.int .u8 (cn : Int)] (by rfl) hl5 (by intro u hu; simp at hu; subst hu; rfl) (by unfold maxLen; omega) (by omega) hb5.size ?_; intro v6 w6 hown6 hg6 _; have hb6 : Below W.heap.size W w6 := hb5.grown hg6 hb5.size (fun k hk => (hown5.lt k hk).1); obtain ⟨A6, c6, rfl, _⟩ := own_shape hown6)
      | fail)
    all_goals (
      have HT6 := Lib.hid (HT.out.below hb6 HT.out.lt)
      have hp6 := HP.out.below hb6 HP.out.lt
      have cp6 := hp6.cell hp
      have cq6 := hp6.cell hq
      have HB6 := Lib.hid (HB.out.trans (hb6.mono hszW))
      clear hp6 hb6 hown6 hg6 hb5 hown5 hg5 HT HP HB HA ONC hlitA hCell cp cq hszW E1 hsm
      obtain rfl := hcb
      go_wp2_with fail
      refine (on_lit [cb] g r0 s0 Crc.tab w7 (0, 0) HT6.out Crc.tab_len Crc.small_tab l0 (by simp) S0.out).mono ?_
      rintro e w8 ⟨rfl, hb8⟩
      have HT8 := Lib.hid (HT6.out.below hb8 HT6.out.lt)
      have HB8 := Lib.hid (HB6.out.trans (hb8.mono HB6.out.size))
      clear hb8 HT6 HB6
      go_wp2_with fail
      refine (on_lit [cb] g r1 s1 Crc.tab w8 (0, 0) HT8.out Crc.tab_len Crc.small_tab l1 (by simp) S1.out).mono ?_
      rintro e w9 ⟨rfl, hb9⟩
      have HB9 := Lib.hid (HB8.out.trans (hb9.mono HB8.out.size))
      clear hb9 HT8 HB8
      go_wp2
      go_ret
      exact ⟨by simp, HB9.out⟩)
end Go.Proofs.Ytcbeimoolndomaa
