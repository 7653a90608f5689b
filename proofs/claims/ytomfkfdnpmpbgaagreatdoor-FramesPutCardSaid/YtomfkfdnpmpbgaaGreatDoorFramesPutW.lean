/-
  The walk of FramesPut.
-/
import Derived.Test.YtomfkfdnpmpbgaaGreatDoorBookI
import Derived.Test.YtomfkfdnpmpbgaaGreatDoorRef3
import Derived.Test.YtomfkfdnpmpbgaaGreatDoorHelpB
namespace Go.Proofs.YtomfkfdnpmpbgaaGreatDoor
open Go.RowKit
set_option linter.unusedVariables false

/-- what Put answers -/
def putF (l : List UInt8) : List UInt8 × Nat := if 65536 < l.length then ([], 3) else (fr l, 0)
theorem own_nil0 (w : World) (base : Nat) : w.ownsRow base 5 1 (.slice none 0 0) 0 (([] : List UInt8).map bv) := ⟨rfl, .inl ⟨rfl, rfl⟩⟩
theorem framesPut_res (A : Option Addr) (n c : Nat) (l : List UInt8) (w : World) (h : Lies w w.heap.size 1 A n (l.map bv)) (hn : n ≤ 1099511627776) (m e : Nat) (L : List UInt8) (hp : putF l = (L, e)) (hm : L.length = m) :
    Calls Tryz.prog 6 #[.slice A n c] w fun en w' => ∃ A' c', en = .returned (.tuple #[.slice A' m c', .int .i64 (e : Int)]) ∧ Res w m L A' c' w' := by
  have hl := h.blen
  subst hm
  unfold putF at hp
  by_cases hb : 65536 < n
  · rw [hl, if_pos hb] at hp
    injection hp with h1 h2
    subst h1 h2
    exact (framesPut_bad A n c w hb hn).mono fun en w' ⟨he, hw⟩ => ⟨none, 0, he, Nat.le_refl _, Nat.zero_le _, own_nil0 _ _, by rw [hw]; exact Below.refl _ _⟩
  · rw [hl, if_neg hb] at hp
    injection hp with h1 h2
    subst h1 h2
    have hf := fr_len l
    rw [hl] at hf
    rw [hf]
    exact (framesPut_ok A n c l w h (by omega)).mono fun en w' ⟨g, he, ho, hb⟩ => ⟨_, _, he, Nat.le_refl _, by unfold maxLen; omega, ho, hb⟩
theorem rput_res (A : Option Addr) (n c : Nat) (l : List UInt8) (w : World) (h : Lies w w.heap.size 1 A n (l.map bv)) (hn : n ≤ 1099511627776) (m e : Nat) (L : List UInt8) (hp : putF l = (L, e)) (hm : L.length = m) :
    Calls Tryz.prog 7 #[.slice A n c] w fun en w' => ∃ A' c', en = .returned (.tuple #[.slice A' m c', .int .i64 (e : Int)]) ∧ Res w m L A' c' w' := by
  have hl := h.blen
  subst hm
  unfold putF at hp
  by_cases hb : 65536 < n
  · rw [hl, if_pos hb] at hp
    injection hp with h1 h2
    subst h1 h2
    exact (rput_bad A n c w hb hn).mono fun en w' ⟨he, hw⟩ => ⟨none, 0, he, Nat.le_refl _, Nat.zero_le _, own_nil0 _ _, by rw [hw]; exact Below.refl _ _⟩
  · rw [hl, if_neg hb] at hp
    injection hp with h1 h2
    subst h1 h2
    have hf := fr_len l
    rw [hl] at hf
    rw [hf]
    exact (rput_ok A n c l w h (by omega)).mono fun en w' ⟨A', c', he, h1, h2, ho, hb⟩ => ⟨_, _, he, h1, h2, ho, hb⟩

set_option maxHeartbeats 2000000 in
theorem framesPut_yes (A : Option Addr) (n c : Nat) (w : World) (z : n ≤ c) (x : c ≤ 140737488351232) (hbig : 70000 < n) :
    Calls Tryz.prog 3 #[.slice A n c] w fun e w' => e = .returned (.bool true) ∧ Below w.heap.size w w' := by
  go_enter Tryz.func3, Tryz.ntmps3
  go_wp2
  go_ret
  exact ⟨rfl, Below.refl _ _⟩

set_option maxRecDepth 100000 in
set_option maxHeartbeats 4000000 in
theorem framesPut_no (A : Option Addr) (n c : Nat) (l : List UInt8) (w : World) (y : Lies w w.heap.size 1 A n (l.map bv)) (hbig : n ≤ 70000) :
    Calls Tryz.prog 3 #[.slice A n c] w fun e w' => e = .returned (.bool true) ∧ Below w.heap.size w w' := by
  have Y := Lib.hid y
  rcases hp : putF l with ⟨L, er⟩
  obtain ⟨m, hm⟩ : ∃ m, L.length = m := ⟨_, rfl⟩
  have hml : m ≤ 70000 := by
    have hl := y.blen
    unfold putF at hp
    by_cases hb : 65536 < l.length
    · rw [if_pos hb] at hp; injection hp with h1 _; subst h1; simp at hm; omega
    · rw [if_neg hb] at hp; injection hp with h1 _; subst h1; rw [fr_len] at hm; omega
  have HX : Hid (∀ (w : World) (A : Option Addr) (c : Nat), Lies w w.heap.size 1 A n (l.map bv) → Calls Tryz.prog 6 #[.slice A n c] w fun en w' => ∃ A' c', en = .returned (.tuple #[.slice A' m c', .int .i64 (er : Int)]) ∧ Res w m L A' c' w') :=
    fun w A c h => framesPut_res A n c l w h (by omega) m er L hp hm
  have RX : Hid (∀ (w : World) (A : Option Addr) (c : Nat), Lies w w.heap.size 1 A n (l.map bv) → Calls Tryz.prog 7 #[.slice A n c] w fun en w' => ∃ A' c', en = .returned (.tuple #[.slice A' m c', .int .i64 (er : Int)]) ∧ Res w m L A' c' w') :=
    fun w A c h => rput_res A n c l w h (by omega) m er L hp hm
  have hee : ((er : Int) != (er : Int)) = false := by simp
  clear y hp hm
  go_enter Tryz.func3, Tryz.ntmps3
  go_wp2_with fail
  refine (twin_any A n c l w Y.out (by omega)).mono ?_
  rintro e w2 ⟨gt, ct, rfl, hownT, hb2⟩
  have HGT := Lib.hid (hownT.lt gt rfl)
  obtain ⟨_, _, eT, hctn, hctm, _⟩ := own_shape hownT
  injection eT with eT1 eT2 eT3
  subst eT3
  clear eT1 eT2
  have OT := Lib.hid hownT; clear hownT
  have HB := Lib.hid hb2; clear hb2
  have tl : ∀ (w' : World) (B : Nat), w'.ownsRow B 5 1 (.slice (some ⟨gt, 0, none⟩) (n + 1) ct) (n + 1) ((l ++ [77]).map bv) → Lies w' w'.heap.size 1 (some ⟨gt, 0, none⟩) n (l.map bv) := by
    intro w' B h
    rw [List.map_append] at h
    exact Lies.of_own (own_less h)
  have TL := Lib.hid tl; clear tl
  go_wp2_with fail
  refine (HX.out w2 (some ⟨gt, 0, none⟩) ct (TL.out _ _ OT.out)).mono ?_
  rintro e w3 ⟨A3, c3, rfl, hxc, hxm, hown, hb⟩
  have HG3 := Lib.hid hown.lt
  have HS3 := Lib.hid hb.size
  have O3 := Lib.hid (own_base hown HB.out.size); clear hown
  replace HB := Lib.hid (HB.out.trans (hb.mono HB.out.size))
  replace OT := Lib.hid (own_below OT.out hb)
  clear hb
  go_wp2_with fail
  refine (HX.out w3 (some ⟨gt, 0, none⟩) ct (TL.out _ _ OT.out)).mono ?_
  rintro e w4 ⟨A4, c4, rfl, hyc, hym, hown, hb⟩
  have HG4 := Lib.hid hown.lt
  have O4 := Lib.hid (own_base hown HB.out.size); clear hown
  replace HB := Lib.hid (HB.out.trans (hb.mono HB.out.size))
  replace OT := Lib.hid (own_below OT.out hb)
  replace O3 := Lib.hid (own_below O3.out hb)
  clear hb
  go_wp2_with fail
  refine (RX.out w4 A c ((Y.out.below HB.out).more HB.out.size)).mono ?_
  rintro e w5 ⟨A5, c5, rfl, hzc, hzm, hown, hb⟩
  replace HB := Lib.hid (HB.out.trans (hb.mono HB.out.size))
  replace OT := Lib.hid (own_below OT.out hb)
  replace O3 := Lib.hid (own_below O3.out hb)
  replace O4 := Lib.hid (own_below O4.out hb)
  have O5 := Lib.hid hown
  clear hb hown
  go_wp2_with fail
  refine (same_yes A3 A5 m c3 c5 _ _ L w5 O3.out O5.out (by omega)).mono ?_
  rintro e w6 ⟨rfl, hq⟩
  have hb : Below w5.heap.size w5 w6 := by obtain ⟨q, rfl⟩ := hq; exact below_drewN (Below.refl _ _) q
  clear hq
  replace HB := Lib.hid (HB.out.trans (hb.mono HB.out.size))
  replace OT := Lib.hid (own_below OT.out hb)
  replace O3 := Lib.hid (own_below O3.out hb)
  replace O4 := Lib.hid (own_below O4.out hb)
  replace O5 := Lib.hid (own_below O5.out hb)
  clear hb
  go_wp2_with fail
  refine (same_yes A4 A5 m c4 c5 _ _ L w6 O4.out O5.out (by omega)).mono ?_
  rintro e w7 ⟨rfl, hq⟩
  have hb : Below w6.heap.size w6 w7 := by obtain ⟨q, rfl⟩ := hq; exact below_drewN (Below.refl _ _) q
  clear hq
  replace HB := Lib.hid (HB.out.trans (hb.mono HB.out.size))
  replace OT := Lib.hid (own_below OT.out hb)
  replace O3 := Lib.hid (own_below O3.out hb)
  replace O4 := Lib.hid (own_below O4.out hb)
  clear hb O5
  go_wp2_with fail
  refine (left_any A gt 0 n ct c w7.heap.size l w7 (Lies.of_own (c := ct) OT.out) (by omega) (by assumption) ((Y.out.below HB.out).more HB.out.size)).mono ?_
  rintro e w9 ⟨rfl, hq⟩
  have hb : Below w7.heap.size w7 w9 := by obtain ⟨q, rfl⟩ := hq; exact below_drewN (Below.refl _ _) q
  clear hq
  replace HB := Lib.hid (HB.out.trans (hb.mono HB.out.size))
  replace OT := Lib.hid (own_below OT.out hb)
  replace O3 := Lib.hid (own_below O3.out hb)
  replace O4 := Lib.hid (own_below O4.out hb)
  clear hb
  have BK : Hid (∃ vb, BkS w w.heap.size w9.heap.size [] [⟨some ⟨gt, 0, none⟩, n, ct, 1⟩, ⟨A3, m, c3, 2⟩, ⟨A4, m, c4, 3⟩] (w9.alloc (.cells (bookCells 0 nilS) 42)) vb) := by
    refine ⟨_, bk_start HB.out HB.out.size ?_⟩
    intro b hb
    simp only [List.mem_cons, List.not_mem_nil, or_false] at hb
    rcases hb with rfl | rfl | rfl
    · exact ⟨_, by have h := OT.out; rw [List.map_append] at h; exact own_less h⟩
    · exact ⟨_, O3.out⟩
    · exact ⟨_, O4.out⟩
  clear OT O3 O4 HX RX TL Y HB
  go_wp2_with fail
  refine (bk_step BK.out.choose_spec (some ⟨gt, 0, none⟩) n ct (by simp)).mono ?_
  clear BK
  rintro e w10 ⟨rfl, BK0⟩
  have BK := Lib.hid BK0; clear BK0
  go_wp2_with fail
  refine (bk_step BK.out.choose_spec A3 m c3 (by simp)).mono ?_
  clear BK
  rintro e w11 ⟨rfl, BK0⟩
  have BK := Lib.hid BK0; clear BK0
  go_wp2_with fail
  refine (bk_step BK.out.choose_spec A4 m c4 (by simp)).mono ?_
  clear BK
  rintro e w12 ⟨rfl, BK0⟩
  have BK := Lib.hid BK0; clear BK0
  have DI : Hid (Dis [⟨some ⟨gt, 0, none⟩, n, ct, 1⟩, ⟨A3, m, c3, 2⟩, ⟨A4, m, c4, 3⟩]) := by
    have h1 := HGT.out; have h2 := HG3.out; have h3 := HG4.out
    exact dis3 (g1 := gt) (M := w3.heap.size) rfl (fun g hg => by have := h2 g hg; omega) (by have := HS3.out; omega) (fun g hg => (h3 g hg).1)
  have FIN := Lib.hid (bk_apart BK.out.choose_spec DI.out (by simp) (by
    intro b hb
    simp only [List.mem_append, List.mem_cons, List.not_mem_nil, or_false, List.nil_append] at hb
    rcases hb with (rfl | rfl) | rfl <;> simp <;> omega))
  clear BK DI
  go_wp2_with fail
  refine FIN.out.mono ?_
  clear FIN
  rintro e w14 ⟨rfl, hb⟩
  have HB := Lib.hid hb; clear hb
  go_wp2
  go_ret
  exact ⟨rfl, HB.out⟩

theorem framesPut_walk (A : Option Addr) (n c : Nat) (l : List UInt8) (w : World) (y : Lies w w.heap.size 1 A n (l.map bv)) (z : n ≤ c) (x : c ≤ 140737488351232) :
    Calls Tryz.prog 3 #[.slice A n c] w fun e w' => e = .returned (.bool true) ∧ Below w.heap.size w w' := by
  rcases Nat.lt_or_ge 70000 n with h | h
  · exact framesPut_yes A n c w z x h
  · exact framesPut_no A n c l w y h
end Go.Proofs.YtomfkfdnpmpbgaaGreatDoor
