/-
  The walk of FramesGet.
-/
import Derived.Test.YtomfkfdnpmpbgaaGreatDoorBookI
import Derived.Test.YtomfkfdnpmpbgaaGreatDoorRef3G
import Derived.Test.YtomfkfdnpmpbgaaGreatDoorHelpB
namespace Go.Proofs.YtomfkfdnpmpbgaaGreatDoor
open Go.RowKit
set_option linter.unusedVariables false

theorem framesGet_res (A : Option Addr) (n c : Nat) (l : List UInt8) (w : World) (h : Lies w w.heap.size 1 A n (l.map bv)) (hnc : n ≤ c) (hn : n ≤ 1099511627776) (m t e : Nat) (L : List UInt8) (hg : gotF l = (L, t, e)) (hm : L.length = m) :
    Calls Tryz.prog 12 #[.slice A n c] w fun en w' => ∃ A' c', en = .returned (.tuple #[.slice A' m c', .int .i64 (t : Int), .int .i64 (e : Int)]) ∧ Res w m L A' c' w' := by
  have g := framesGet_any A n c l w h hnc (by omega)
  rw [hg] at g
  subst hm
  refine g.mono fun e w' ⟨v, he, ho, hb⟩ => ?_
  subst he
  obtain ⟨A, c, rfl, h1, h2, _⟩ := own_shape ho
  exact ⟨A, c, rfl, h1, h2, ho, hb⟩
theorem rget_res (A : Option Addr) (n c : Nat) (l : List UInt8) (w : World) (h : Lies w w.heap.size 1 A n (l.map bv)) (hnc : n ≤ c) (hc : c ≤ 140737488351232) (hn : n ≤ 1099511627776) (m t e : Nat) (L : List UInt8) (hg : gotF l = (L, t, e)) (hm : L.length = m) :
    Calls Tryz.prog 13 #[.slice A n c] w fun en w' => ∃ A' c', en = .returned (.tuple #[.slice A' m c', .int .i64 (t : Int), .int .i64 (e : Int)]) ∧ Res w m L A' c' w' :=
  (rget_any A n c l w h hnc hc hn m t e L hg hm).mono fun en w' ⟨A', c', he, h1, h2, ho, hb⟩ => ⟨A', c', he, h1, h2, ho, hb⟩
theorem got_len (l L : List UInt8) (t e : Nat) (h : gotF l = (L, t, e)) : L.length ≤ 65536 := by
  rcases got_err l with h0 | ⟨_, h0⟩
  · have := (got_back l h0).1
    rw [h] at this; exact this
  · rw [h] at h0
    injection h0 with h0 _
    rw [h0]; simp

set_option maxHeartbeats 2000000 in
theorem framesGet_yes (A : Option Addr) (n c : Nat) (w : World) (z : n ≤ c) (x : c ≤ 140737488351232) (hbig : 100000 < n) :
    Calls Tryz.prog 4 #[.slice A n c] w fun e w' => e = .returned (.bool true) ∧ Below w.heap.size w w' := by
  go_enter Tryz.func4, Tryz.ntmps4
  go_wp2
  go_ret
  exact ⟨rfl, Below.refl _ _⟩

set_option maxRecDepth 100000 in
set_option maxHeartbeats 4000000 in
theorem framesGet_no (A : Option Addr) (n c : Nat) (l : List UInt8) (w : World) (y : Lies w w.heap.size 1 A n (l.map bv)) (z : n ≤ c) (x : c ≤ 140737488351232) (hbig : n ≤ 100000) :
    Calls Tryz.prog 4 #[.slice A n c] w fun e w' => e = .returned (.bool true) ∧ Below w.heap.size w w' := by
  have Y := Lib.hid y
  rcases hp : gotF l with ⟨L, t, er⟩
  obtain ⟨m, hm⟩ : ∃ m, L.length = m := ⟨_, rfl⟩
  have hml : m ≤ 65536 := by rw [← hm]; exact got_len l L t er hp
  have HX : Hid (∀ (w : World) (A : Option Addr) (c : Nat), n ≤ c → Lies w w.heap.size 1 A n (l.map bv) → Calls Tryz.prog 12 #[.slice A n c] w fun en w' => ∃ A' c', en = .returned (.tuple #[.slice A' m c', .int .i64 (t : Int), .int .i64 (er : Int)]) ∧ Res w m L A' c' w') :=
    fun w A c hc h => framesGet_res A n c l w h hc (by omega) m t er L hp hm
  have RX : Hid (∀ (w : World), Lies w w.heap.size 1 A n (l.map bv) → Calls Tryz.prog 13 #[.slice A n c] w fun en w' => ∃ A' c', en = .returned (.tuple #[.slice A' m c', .int .i64 (t : Int), .int .i64 (er : Int)]) ∧ Res w m L A' c' w') :=
    fun w h => rget_res A n c l w h z x (by omega) m t er L hp hm
  have hee : ((er : Int) != (er : Int)) = false := by simp
  have htt : ((t : Int) != (t : Int)) = false := by simp
  clear y hp hm
  go_enter Tryz.func4, Tryz.ntmps4
  go_wp2_with fail
  refine (twin_any A n c l w Y.out (by omega)).mono ?_
  rintro e w2 ⟨gt, ct, rfl, hownT, hb2⟩
  have HGT := Lib.hid (hownT.lt gt rfl)
  obtain ⟨_, _, eT, hctn, hctm, _⟩ := own_shape hownT
  injection eT with eT1 eT2 eT3
  subst eT3
  clear eT1 eT2
  have OT := Lib.hid hownT; clear hownT
  have HB := Lib.hid hb2; clear hb2
  have tl : ∀ (w' : World) (B : Nat), w'.ownsRow B 5 1 (.slice (some ⟨gt, 0, none⟩) (n + 1) ct) (n + 1) ((l ++ [77]).map bv) → Lies w' w'.heap.size 1 (some ⟨gt, 0, none⟩) n (l.map bv) := by
    intro w' B h
    rw [List.map_append] at h
    exact Lies.of_own (own_less h)
  have TL := Lib.hid tl; clear tl
  go_wp2_with fail
  refine (HX.out w2 (some ⟨gt, 0, none⟩) ct (by omega) (TL.out _ _ OT.out)).mono ?_
  rintro e w3 ⟨A3, c3, rfl, hxc, hxm, hown, hb⟩
  have HG3 := Lib.hid hown.lt
  have HS3 := Lib.hid hb.size
  have O3 := Lib.hid (own_base hown HB.out.size); clear hown
  replace HB := Lib.hid (HB.out.trans (hb.mono HB.out.size))
  replace OT := Lib.hid (own_below OT.out hb)
  clear hb
  go_wp2_with fail
  refine (HX.out w3 (some ⟨gt, 0, none⟩) ct (by omega) (TL.out _ _ OT.out)).mono ?_
  rintro e w4 ⟨A4, c4, rfl, hyc, hym, hown, hb⟩
  have HG4 := Lib.hid hown.lt
  have O4 := Lib.hid (own_base hown HB.out.size); clear hown
  replace HB := Lib.hid (HB.out.trans (hb.mono HB.out.size))
  replace OT := Lib.hid (own_below OT.out hb)
  replace O3 := Lib.hid (own_below O3.out hb)
  clear hb
  go_wp2_with fail
  refine (RX.out w4 ((Y.out.below HB.out).more HB.out.size)).mono ?_
  rintro e w5 ⟨A5, c5, rfl, hzc, hzm, hown, hb⟩
  replace HB := Lib.hid (HB.out.trans (hb.mono HB.out.size))
  replace OT := Lib.hid (own_below OT.out hb)
  replace O3 := Lib.hid (own_below O3.out hb)
  replace O4 := Lib.hid (own_below O4.out hb)
  have O5 := Lib.hid hown
  clear hb hown
  go_wp2_with fail
  refine (same_yes A3 A5 m c3 c5 _ _ L w5 O3.out O5.out (by omega)).mono ?_
  rintro e w6 ⟨rfl, hq⟩
  have hb : Below w5.heap.size w5 w6 := by obtain ⟨q, rfl⟩ := hq; exact below_drewN (Below.refl _ _) q
  clear hq
  replace HB := Lib.hid (HB.out.trans (hb.mono HB.out.size))
  replace OT := Lib.hid (own_below OT.out hb)
  replace O3 := Lib.hid (own_below O3.out hb)
  replace O4 := Lib.hid (own_below O4.out hb)
  replace O5 := Lib.hid (own_below O5.out hb)
  clear hb
  go_wp2_with fail
  refine (same_yes A4 A5 m c4 c5 _ _ L w6 O4.out O5.out (by omega)).mono ?_
  rintro e w7 ⟨rfl, hq⟩
  have hb : Below w6.heap.size w6 w7 := by obtain ⟨q, rfl⟩ := hq; exact below_drewN (Below.refl _ _) q
  clear hq
  replace HB := Lib.hid (HB.out.trans (hb.mono HB.out.size))
  replace OT := Lib.hid (own_below OT.out hb)
  replace O3 := Lib.hid (own_below O3.out hb)
  replace O4 := Lib.hid (own_below O4.out hb)
  clear hb O5
  go_wp2_with fail
  refine (left_any A gt 0 n ct c w7.heap.size l w7 (Lies.of_own (c := ct) OT.out) (by omega) (by assumption) ((Y.out.below HB.out).more HB.out.size)).mono ?_
  rintro e w9 ⟨rfl, hq⟩
  have hb : Below w7.heap.size w7 w9 := by obtain ⟨q, rfl⟩ := hq; exact below_drewN (Below.refl _ _) q
  clear hq
  replace HB := Lib.hid (HB.out.trans (hb.mono HB.out.size))
  replace OT := Lib.hid (own_below OT.out hb)
  replace O3 := Lib.hid (own_below O3.out hb)
  replace O4 := Lib.hid (own_below O4.out hb)
  clear hb
  have BK : Hid (∃ vb, BkS w w.heap.size w9.heap.size [] [⟨some ⟨gt, 0, none⟩, n, ct, 1⟩, ⟨A3, m, c3, 2⟩, ⟨A4, m, c4, 3⟩] (w9.alloc (.cells (bookCells 0 nilS) 42)) vb) := by
    refine ⟨_, bk_start HB.out HB.out.size ?_⟩
    intro b hb
    simp only [List.mem_cons, List.not_mem_nil, or_false] at hb
    rcases hb with rfl | rfl | rfl
    · exact ⟨_, by have h := OT.out; rw [List.map_append] at h; exact own_less h⟩
    · exact ⟨_, O3.out⟩
    · exact ⟨_, O4.out⟩
  clear OT O3 O4 HX RX TL Y HB
  go_wp2_with fail
  refine (bk_step BK.out.choose_spec (some ⟨gt, 0, none⟩) n ct (by simp)).mono ?_
  clear BK
  rintro e w10 ⟨rfl, BK0⟩
  have BK := Lib.hid BK0; clear BK0
  go_wp2_with fail
  refine (bk_step BK.out.choose_spec A3 m c3 (by simp)).mono ?_
  clear BK
  rintro e w11 ⟨rfl, BK0⟩
  have BK := Lib.hid BK0; clear BK0
  go_wp2_with fail
  refine (bk_step BK.out.choose_spec A4 m c4 (by simp)).mono ?_
  clear BK
  rintro e w12 ⟨rfl, BK0⟩
  have BK := Lib.hid BK0; clear BK0
  have DI : Hid (Dis [⟨some ⟨gt, 0, none⟩, n, ct, 1⟩, ⟨A3, m, c3, 2⟩, ⟨A4, m, c4, 3⟩]) := by
    have h1 := HGT.out; have h2 := HG3.out; have h3 := HG4.out
    exact dis3 (g1 := gt) (M := w3.heap.size) rfl (fun g hg => by have := h2 g hg; omega) (by have := HS3.out; omega) (fun g hg => (h3 g hg).1)
  have FIN := Lib.hid (bk_apart BK.out.choose_spec DI.out (by simp) (by
    intro b hb
    simp only [List.mem_append, List.mem_cons, List.not_mem_nil, or_false, List.nil_append] at hb
    rcases hb with (rfl | rfl) | rfl <;> simp <;> omega))
  clear BK DI
  go_wp2_with fail
  refine FIN.out.mono ?_
  clear FIN
  rintro e w14 ⟨rfl, hb⟩
  have HB := Lib.hid hb; clear hb
  go_wp2
  go_ret
  exact ⟨rfl, HB.out⟩

theorem framesGet_walk (A : Option Addr) (n c : Nat) (l : List UInt8) (w : World) (y : Lies w w.heap.size 1 A n (l.map bv)) (z : n ≤ c) (x : c ≤ 140737488351232) :
    Calls Tryz.prog 4 #[.slice A n c] w fun e w' => e = .returned (.bool true) ∧ Below w.heap.size w w' := by
  rcases Nat.lt_or_ge 100000 n with h | h
  · exact framesGet_yes A n c w z x h
  · exact framesGet_no A n c l w y z x h
end Go.Proofs.YtomfkfdnpmpbgaaGreatDoor
