/-
  The walk of OrderPut.
-/
import Derived.Test.YtjeijgkkobmdbaaGreatDoorBookI
import Derived.Test.YtjeijgkkobmdbaaGreatDoorRefPut4
import Derived.Test.YtjeijgkkobmdbaaGreatDoorHelpB
import Derived.Test.YtjeijgkkobmdbaaGreatDoorBeyond
import Derived.Deep.Cut
namespace Go.Proofs.YtjeijgkkobmdbaaGreatDoor
open Go.RowKit
set_option linter.unusedVariables false
set_option maxRecDepth 100000

set_option maxHeartbeats 2000000 in
theorem orderPut_yes (A : Option Addr) (n c : Nat) (k v : ByteArray) (s : Nat) (g : Bool) (w : World) (hk : k.size ≤ 140737488351232) (hv : v.size ≤ 140737488351232) (hnc : n ≤ c) (hc : c ≤ 140737488351232) (hbig : 1048576 < n + k.size + v.size) :
    Calls Tryz.prog 3 #[.slice A n c, .agg #[.string k, .int .u64 (s : Int), .bool g, .string v]] w fun e w' => e = .returned (.bool true) ∧ Below w.heap.size w w' := by
  have HE := Lib.hid (EnIn.new w ⟨⟨k, s, g⟩, v⟩)
  have HB : Hid (Kept w (w.alloc (.cells #[.string k, .int .u64 (s : Int), .bool g, .string v] 27))) := (Kept.self w).new _
  have HD := Lib.hid (decide_eq_true hbig)
  clear hbig
  go_enter Tryz.func3, Tryz.ntmps3
  go_upto_region 1 with fail
  generalize (w.alloc (.cells #[.string k, .int .u64 (s : Int), .bool g, .string v] 27)) = W at *
  have q0 := HE.out.1.cell
  go_wp2_with fail
  refine (beyond_z _ (n + k.size + v.size) W _ rfl (by omega) (by omega) true HD.out).mono ?_
  rintro e w2 ⟨rfl, hb2⟩
  have HB2 := Lib.hid (HB.out.on hb2)
  clear hb2 HB HE q0
  go_wp2
  go_ret
  exact ⟨rfl, HB2.out⟩

set_option maxHeartbeats 4000000 in
theorem orderPut_no (A : Option Addr) (n c : Nat) (l : List UInt8) (k v : ByteArray) (s : Nat) (g : Bool) (w : World) (y : Lies w w.heap.size 1 A n (l.map bv)) (hs : s < 18446744073709551616) (hsm : ¬ 1048576 < n + k.size + v.size) :
    Calls Tryz.prog 3 #[.slice A n c, .agg #[.string k, .int .u64 (s : Int), .bool g, .string v]] w fun e w' => e = .returned (.bool true) ∧ Below w.heap.size w w' := by
  have Y := Lib.hid y
  have hln := y.blen
  have HE := Lib.hid (EnIn.new w ⟨⟨k, s, g⟩, v⟩)
  have HB : Hid (Kept w (w.alloc (.cells #[.string k, .int .u64 (s : Int), .bool g, .string v] 27))) := (Kept.self w).new _
  have HD := Lib.hid (decide_eq_false hsm)
  obtain ⟨L, hL⟩ : ∃ L, l ++ encE ⟨⟨k, s, g⟩, v⟩ = L := ⟨_, rfl⟩
  obtain ⟨m, hm⟩ : ∃ m, L.length = m := ⟨_, rfl⟩
  have hml : m ≤ 1048640 := by
    have h1 := (encE_len ⟨⟨k, s, g⟩, v⟩).2
    have h2 := congrArg List.length hL
    rw [List.length_append] at h2
    dsimp only at h1
    omega
  have HX : Hid (∀ (W : World) (A : Option Addr) (c : Nat), Lies W W.heap.size 1 A n (l.map bv) → Calls Tryz.prog 6 #[.slice A n c, .agg #[.string k, .int .u64 (s : Int), .bool g, .string v]] W fun en w' => ∃ A' c', en = .returned (.slice A' m c') ∧ m ≤ c' ∧ c' ≤ maxLen ∧ w'.ownsRow W.heap.size 5 1 (.slice A' m c') m (L.map bv) ∧ Below W.heap.size W w') :=
    fun W A c h => (oput_any A n c l ⟨⟨k, s, g⟩, v⟩ W h hs (by show n + k.size + v.size ≤ _; omega)).mono fun en w' ⟨u, he, ho, hb⟩ => by
      rw [hL, hm] at ho
      obtain ⟨A', c', rfl, h1, h2, _⟩ := own_shape ho
      exact ⟨A', c', he, h1, h2, ho, hb⟩
  have RX : Hid (∀ (W : World), Lies W W.heap.size 1 A n (l.map bv) → Calls Tryz.prog 7 #[.slice A n c, .agg #[.string k, .int .u64 (s : Int), .bool g, .string v]] W fun en w' => ∃ A' c', en = .returned (.slice A' m c') ∧ m ≤ c' ∧ c' ≤ maxLen ∧ w'.ownsRow W.heap.size 5 1 (.slice A' m c') m (L.map bv) ∧ Below W.heap.size W w') :=
    fun W h => (rput4_any A n c l k v s g W h hs (by omega)).mono fun en w' ⟨u, he, ho, hb⟩ => by
      rw [hL, hm] at ho
      obtain ⟨A', c', rfl, h1, h2, _⟩ := own_shape ho
      exact ⟨A', c', he, h1, h2, ho, hb⟩
  clear y hL hm hln
  go_enter Tryz.func3, Tryz.ntmps3
  go_upto_region 1 with fail
  generalize (w.alloc (.cells #[.string k, .int .u64 (s : Int), .bool g, .string v] 27)) = W at *
  have q0 := HE.out.1.cell
  go_wp2_with fail
  refine (beyond_z _ (n + k.size + v.size) W _ rfl (by omega) (by omega) false HD.out).mono ?_
  rintro e w1 ⟨rfl, hb1⟩
  have HE1 := Lib.hid (HE.out.on hb1)
  replace HB := Lib.hid (HB.out.on hb1)
  clear hb1 HE HD q0
  go_wp2_with fail
  refine (twin_any A n c l w1 (Kept.lies HB.out Y.out) (by omega)).mono ?_
  rintro e w2 ⟨gt, ct, rfl, hownT, hb2⟩
  have HGT := Lib.hid (hownT.lt gt rfl)
  obtain ⟨_, _, eT, hctn, hctm, _⟩ := own_shape hownT
  injection eT with eT1 eT2 eT3
  subst eT3
  clear eT1 eT2
  have OT := Lib.hid (own_base hownT HB.out.size); clear hownT
  have HE2 := Lib.hid (HE1.out.on hb2)
  replace HB := Lib.hid (HB.out.on hb2); clear hb2 HE1
  have tl : ∀ (w' : World) (B : Nat), w'.ownsRow B 5 1 (.slice (some ⟨gt, 0, none⟩) (n + 1) ct) (n + 1) ((l ++ [77]).map bv) → Lies w' w'.heap.size 1 (some ⟨gt, 0, none⟩) n (l.map bv) := by
    intro w' B h
    rw [List.map_append] at h
    exact Lies.of_own (own_less h)
  have TL := Lib.hid tl; clear tl
  have q2 := HE2.out.1.cell
  go_wp2_with fail
  refine (HX.out w2 (some ⟨gt, 0, none⟩) ct (TL.out _ _ OT.out)).mono ?_
  rintro e w3 ⟨A3, c3, rfl, hxc, hxm, hown, hb⟩
  have HG3 := Lib.hid hown.lt
  have HS3 := Lib.hid hb.size
  have O3 := Lib.hid (own_base hown HB.out.size); clear hown
  replace HB := Lib.hid (HB.out.on hb)
  replace OT := Lib.hid (own_below OT.out hb)
  have HE3 := Lib.hid (HE2.out.on hb)
  clear hb q2 HE2
  have q3 := HE3.out.1.cell
  go_wp2_with fail
  refine (HX.out w3 (some ⟨gt, 0, none⟩) ct (TL.out _ _ OT.out)).mono ?_
  rintro e w4 ⟨A4, c4, rfl, hyc, hym, hown, hb⟩
  have HG4 := Lib.hid hown.lt
  have O4 := Lib.hid (own_base hown HB.out.size); clear hown
  replace HB := Lib.hid (HB.out.on hb)
  replace OT := Lib.hid (own_below OT.out hb)
  replace O3 := Lib.hid (own_below O3.out hb)
  have HE4 := Lib.hid (HE3.out.on hb)
  clear hb q3 HE3
  have q4 := HE4.out.1.cell
  go_wp2_with fail
  refine (RX.out w4 (Kept.lies HB.out Y.out)).mono ?_
  rintro e w5 ⟨A5, c5, rfl, hzc, hzm, hown, hb⟩
  replace HB := Lib.hid (HB.out.on hb)
  replace OT := Lib.hid (own_below OT.out hb)
  replace O3 := Lib.hid (own_below O3.out hb)
  replace O4 := Lib.hid (own_below O4.out hb)
  have O5 := Lib.hid hown
  clear hb hown q4 HE4
  go_wp2_with fail
  refine (same_yes A3 A5 m c3 c5 _ _ L w5 O3.out O5.out (by omega)).mono ?_
  rintro e w6 ⟨rfl, hq⟩
  have hb : Below w5.heap.size w5 w6 := by obtain ⟨q, rfl⟩ := hq; exact below_drewN (Below.refl _ _) q
  clear hq
  replace HB := Lib.hid (HB.out.on hb)
  replace OT := Lib.hid (own_below OT.out hb)
  replace O3 := Lib.hid (own_below O3.out hb)
  replace O4 := Lib.hid (own_below O4.out hb)
  replace O5 := Lib.hid (own_below O5.out hb)
  clear hb
  go_wp2_with fail
  refine (same_yes A4 A5 m c4 c5 _ _ L w6 O4.out O5.out (by omega)).mono ?_
  rintro e w7 ⟨rfl, hq⟩
  have hb : Below w6.heap.size w6 w7 := by obtain ⟨q, rfl⟩ := hq; exact below_drewN (Below.refl _ _) q
  clear hq
  replace HB := Lib.hid (HB.out.on hb)
  replace OT := Lib.hid (own_below OT.out hb)
  replace O3 := Lib.hid (own_below O3.out hb)
  replace O4 := Lib.hid (own_below O4.out hb)
  clear hb O5
  go_wp2_with fail
  refine (left_any A gt 0 n ct c w7.heap.size l w7 (Lies.of_own (c := ct) OT.out) (by omega) (by assumption) (Kept.lies HB.out Y.out)).mono ?_
  rintro e w9 ⟨rfl, hq⟩
  have hb : Below w7.heap.size w7 w9 := by obtain ⟨q, rfl⟩ := hq; exact below_drewN (Below.refl _ _) q
  clear hq
  replace HB := Lib.hid (HB.out.on hb)
  replace OT := Lib.hid (own_below OT.out hb)
  replace O3 := Lib.hid (own_below O3.out hb)
  replace O4 := Lib.hid (own_below O4.out hb)
  clear hb
  have BK : Hid (∃ vb, BkS w w.heap.size w9.heap.size [] [⟨some ⟨gt, 0, none⟩, n, ct, 1⟩, ⟨A3, m, c3, 2⟩, ⟨A4, m, c4, 3⟩] (w9.alloc (.cells (bookCells 0 nilS) 46)) vb) := by
    refine ⟨_, bk_start HB.out HB.out.size ?_⟩
    intro b hb
    simp only [List.mem_cons, List.not_mem_nil, or_false] at hb
    rcases hb with rfl | rfl | rfl
    · exact ⟨_, by have h := OT.out; rw [List.map_append] at h; exact own_less h⟩
    · exact ⟨_, O3.out⟩
    · exact ⟨_, O4.out⟩
  clear OT O3 O4 HX RX TL Y HB
  go_wp2_with fail
  refine (bk_step BK.out.choose_spec (some ⟨gt, 0, none⟩) n ct (by simp)).mono ?_
  clear BK
  rintro e w10 ⟨rfl, BK0⟩
  have BK := Lib.hid BK0; clear BK0
  go_wp2_with fail
  refine (bk_step BK.out.choose_spec A3 m c3 (by simp)).mono ?_
  clear BK
  rintro e w11 ⟨rfl, BK0⟩
  have BK := Lib.hid BK0; clear BK0
  go_wp2_with fail
  refine (bk_step BK.out.choose_spec A4 m c4 (by simp)).mono ?_
  clear BK
  rintro e w12 ⟨rfl, BK0⟩
  have BK := Lib.hid BK0; clear BK0
  have DI : Hid (Dis [⟨some ⟨gt, 0, none⟩, n, ct, 1⟩, ⟨A3, m, c3, 2⟩, ⟨A4, m, c4, 3⟩]) := by
    have h1 := HGT.out; have h2 := HG3.out; have h3 := HG4.out
    exact dis3 (g1 := gt) (M := w3.heap.size) rfl (fun g hg => by have := h2 g hg; omega) (by have := HS3.out; omega) (fun g hg => (h3 g hg).1)
  have FIN := Lib.hid (bk_apart BK.out.choose_spec DI.out (by simp) (by
    intro b hb
    simp only [List.mem_append, List.mem_cons, List.not_mem_nil, or_false, List.nil_append] at hb
    rcases hb with (rfl | rfl) | rfl <;> simp <;> omega))
  clear BK DI
  go_wp2_with fail
  refine FIN.out.mono ?_
  clear FIN
  rintro e w14 ⟨rfl, hb⟩
  have HB := Lib.hid hb; clear hb
  go_wp2
  go_ret
  exact ⟨rfl, HB.out⟩

theorem orderPut_walk (A : Option Addr) (n c : Nat) (l : List UInt8) (x : En) (w : World) (y : Lies w w.heap.size 1 A n (l.map bv)) (hnc : n ≤ c) (hc : c ≤ 140737488351232) (hs : x.m.s < 18446744073709551616) (hk : x.m.k.size ≤ 140737488351232) (hv : x.x.size ≤ 140737488351232) :
    Calls Tryz.prog 3 #[.slice A n c, x.v] w fun e w' => e = .returned (.bool true) ∧ Below w.heap.size w w' := by
  by_cases h : 1048576 < n + x.m.k.size + x.x.size
  · exact orderPut_yes A n c x.m.k x.x x.m.s x.m.g w hk hv hnc hc h
  · exact orderPut_no A n c l x.m.k x.x x.m.s x.m.g w y hs h
end Go.Proofs.YtjeijgkkobmdbaaGreatDoor
