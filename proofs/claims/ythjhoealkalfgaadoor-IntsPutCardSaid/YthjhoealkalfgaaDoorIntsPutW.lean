/-
  The walk of IntsPut.
-/
import Derived.Test.YthjhoealkalfgaaDoorLaw1A
import Derived.Test.YthjhoealkalfgaaDoorRefP1
import Derived.Test.YthjhoealkalfgaaDoorBookH
namespace Go.Proofs.YthjhoealkalfgaaDoor
open Go.RowKit
set_option linter.unusedVariables false

theorem dis4 {b1 b2 b3 b4 : BL} {g1 g2 g3 g4 : Nat} (e1 : b1.v.ownBlock = some g1) (e2 : b2.v.ownBlock = some g2) (e3 : b3.v.ownBlock = some g3) (e4 : b4.v.ownBlock = some g4) (h12 : g1 < g2) (h23 : g2 < g3) (h34 : g3 < g4) : Dis [b1, b2, b3, b4] := by
  intro i j bi bj hij hi hj
  right
  rcases i with _ | _ | _ | _ | i <;> rcases j with _ | _ | _ | _ | j <;> simp at hi hj hij <;> subst hi <;> subst hj <;> simp only [e1, e2, e3, e4, ne_eq, Option.some.injEq] <;> omega
set_option maxHeartbeats 2000000 in
theorem intsPut_yes (A : Option Addr) (n0 c0 n : Nat) (s : ByteArray) (w : World) (hs : s.size ≤ 140737488351232) (x1 : c0 ≤ 140737488351232) (z1 : n0 ≤ c0) (hbig : 1048576 < n0 + s.size) :
    Calls Tryd.prog 3 #[.slice A n0 c0, .int .u64 (n : Int), .string s] w fun e w' => e = .returned (.bool true) ∧ Below w.heap.size w w' := by
  go_enter Tryd.func3, Tryd.ntmps3
  go_wp2_with fail
  refine (beyond_yes (n0 + s.size) w (by omega) hbig).mono ?_
  rintro e w2 ⟨rfl, hb2⟩
  have HB := Lib.hid hb2; clear hb2
  go_wp2
  go_ret
  exact ⟨rfl, HB.out⟩

/-- the same bytes -/
theorem same_yes (A A2 : Option Addr) (n c c2 : Nat) (base base2 : Nat) (l : List UInt8) (w : World) (h1 : w.ownsRow base 5 1 (.slice A n c) n (l.map bv)) (h2 : w.ownsRow base2 5 1 (.slice A2 n c2) n (l.map bv)) (hn : n ≤ 4611686018427387904) :
    Calls Tryd.prog 9 #[.slice A n c, .slice A2 n c2] w fun e w' => e = .returned (.bool true) ∧ ∃ q, w' = w.drewN q := by
  have h := same_any A A2 n n c c2 w.heap.size l l w (Lies.of_own h1) (Lies.of_own h2) hn
  rw [sameB_self] at h
  exact h

set_option maxRecDepth 100000 in
set_option maxHeartbeats 8000000 in
theorem intsPut_no (A : Option Addr) (n0 c0 n : Nat) (s : ByteArray) (l : List UInt8) (w : World) (hn : n < 18446744073709551616) (y : Lies w w.heap.size 1 A n0 (l.map bv)) (hbig : n0 + s.size ≤ 1048576) :
    Calls Tryd.prog 3 #[.slice A n0 c0, .int .u64 (n : Int), .string s] w fun e w' => e = .returned (.bool true) ∧ Below w.heap.size w w' := by
  have Y := Lib.hid y; clear y
  have HN := Lib.hid hn; clear hn
  obtain ⟨m, hm⟩ : ∃ m, n % 4294967296 = m := ⟨_, rfl⟩
  have HML : Hid (m < 4294967296) := by unfold Hid; omega
  have hmi : (n : Int) % 4294967296 = (m : Int) := by omega
  clear hm
  have q1 := Vi.enc_len n
  have q2 := Vi.enc_len s.size
  have q3 := Vi.enc_pos n
  have q4 := Vi.enc_pos s.size
  obtain ⟨nx, hnx⟩ : ∃ z, n0 + (Vi.enc n).length = z := ⟨_, rfl⟩
  obtain ⟨nz, hnz⟩ : ∃ z, n0 + ((Vi.enc s.size).length + s.size) = z := ⟨_, rfl⟩
  obtain ⟨lx, hlx⟩ : ∃ z, l ++ Vi.enc n = z := ⟨_, rfl⟩
  obtain ⟨lz, hlz⟩ : ∃ z, l ++ (Vi.enc s.size ++ s.data.toList) = z := ⟨_, rfl⟩
  obtain ⟨ly, hly⟩ : ∃ z, l ++ four m = z := ⟨_, rfl⟩
  have bx : nx ≤ 1048600 := by omega
  have bz : nz ≤ 1048600 := by omega
  have bn : n0 ≤ 1048576 := by omega
  have HX : Hid (∀ (w : World) (A : Option Addr) (c : Nat), Lies w w.heap.size 1 A n0 (l.map bv) → Calls Tryd.prog 6 #[.slice A n0 c, .int .u64 (n : Int)] w fun e w' => GotS w nx lx e w') := by
    intro w A c h
    have := put_some A n0 c n l w h HN.out (by omega)
    rw [hnx, hlx] at this; exact this
  have HY : Hid (∀ (w : World) (A : Option Addr) (c : Nat), Lies w w.heap.size 1 A n0 (l.map bv) → Calls Tryd.prog 7 #[.slice A n0 c, .int .u32 (m : Int)] w fun e w' => GotS w (n0 + 4) ly e w') := by
    intro w A c h
    have := putFour_some A n0 c m l w h HML.out (by omega)
    rw [hly] at this; exact this
  have HZ : Hid (∀ (w : World) (A : Option Addr) (c : Nat), Lies w w.heap.size 1 A n0 (l.map bv) → Calls Tryd.prog 8 #[.slice A n0 c, .string s] w fun e w' => GotS w nz lz e w') := by
    intro w A c h
    have := putText_some A n0 c s l w h (by omega)
    rw [hnz, hlz] at this; exact this
  have RX : Hid (∀ (w : World) (A : Option Addr) (c : Nat), Lies w w.heap.size 1 A n0 (l.map bv) → Calls Tryd.prog 10 #[.slice A n0 c, .int .u64 (n : Int)] w fun e w' => Got w nx lx e w') := by
    intro w A c h
    have := (ref_put A n0 c n l w h HN.out (by omega)).mono fun e w' ⟨v, he, ho, hb⟩ => (by subst he; exact got_of ho hb : Got w _ _ e w')
    rw [hnx, hlx] at this; exact this
  have RY : Hid (∀ (w : World) (A : Option Addr) (c : Nat), Lies w w.heap.size 1 A n0 (l.map bv) → Calls Tryd.prog 11 #[.slice A n0 c, .int .u32 (m : Int)] w fun e w' => Got w (n0 + 4) ly e w') := by
    intro w A c h
    have := (ref_putFour A n0 c m l w h HML.out (by omega)).mono fun e w' ⟨v, he, ho, hb⟩ => (by subst he; exact got_of ho hb : Got w _ _ e w')
    rw [hly] at this; exact this
  have RZ : Hid (∀ (w : World) (A : Option Addr) (c : Nat), Lies w w.heap.size 1 A n0 (l.map bv) → Calls Tryd.prog 12 #[.slice A n0 c, .string s] w fun e w' => Got w nz lz e w') := by
    intro w A c h
    have := (ref_putText A n0 c s l w h (by omega)).mono fun e w' ⟨v, he, ho, hb⟩ => (by subst he; exact got_of ho hb : Got w _ _ e w')
    rw [hnz, hlz] at this; exact this
  clear hnx hnz hlx hly hlz q1 q2 q3 q4
  go_enter Tryd.func3, Tryd.ntmps3
  go_wp2_with fail
  refine (beyond_no (n0 + s.size) w hbig).mono ?_
  rintro e w1 ⟨rfl, hb1⟩
  have HB := Lib.hid hb1; clear hb1 hbig
  go_wp2_with fail
  refine (twin_any A n0 c0 l w1 ((Y.out.below HB.out).more HB.out.size) (by omega)).mono ?_
  rintro e w2 ⟨gt, ct, rfl, hownT, hb2⟩
  have lt1 := hownT.lt gt rfl
  obtain ⟨_, _, eT, hctn, hctm, _⟩ := own_shape hownT
  injection eT with eT1 eT2 eT3
  subst eT3
  clear eT1 eT2
  have hwB := HB.out.size
  have OT := Lib.hid (own_base hownT hwB); clear hownT
  replace HB := Lib.hid (HB.out.trans (hb2.mono HB.out.size)); clear hb2
  have hgt : gt < w2.heap.size := lt1.2
  have HGT : Hid (w.heap.size ≤ gt ∧ gt < w2.heap.size) := ⟨by omega, hgt⟩
  clear lt1 hwB hgt
  have tl : ∀ (w' : World) (B : Nat), w'.ownsRow B 5 1 (.slice (some ⟨gt, 0, none⟩) (n0 + 1) ct) (n0 + 1) ((l ++ [77]).map bv) → Lies w' w'.heap.size 1 (some ⟨gt, 0, none⟩) n0 (l.map bv) := by
    intro w' B h
    rw [List.map_append] at h
    exact Lies.of_own (own_less h)
  have TL := Lib.hid tl; clear tl
  go_wp2_with fail
  refine (HX.out w2 (some ⟨gt, 0, none⟩) ct (TL.out _ _ OT.out)).mono ?_
  rintro e w3 ⟨gx, cx, rfl, hxc, hxm, hown, hb⟩
  have HGX := Lib.hid (hown.lt gx rfl)
  have OX := Lib.hid (own_base hown HB.out.size); clear hown
  replace HB := Lib.hid (HB.out.trans (hb.mono HB.out.size))
  replace OT := Lib.hid (own_below OT.out hb)
  clear hb
  go_wp2_with fail
  refine (HY.out w3 (some ⟨gt, 0, none⟩) ct (TL.out _ _ OT.out)).mono ?_
  rintro e w4 ⟨gy, cy, rfl, hyc, hym, hown, hb⟩
  have HGY := Lib.hid (hown.lt gy rfl)
  have OY := Lib.hid (own_base hown HB.out.size); clear hown
  replace HB := Lib.hid (HB.out.trans (hb.mono HB.out.size))
  replace OT := Lib.hid (own_below OT.out hb)
  replace OX := Lib.hid (own_below OX.out hb)
  clear hb
  go_wp2_with fail
  refine (HZ.out w4 (some ⟨gt, 0, none⟩) ct (TL.out _ _ OT.out)).mono ?_
  rintro e w5 ⟨gz, cz, rfl, hzc, hzm, hown, hb⟩
  have HGZ := Lib.hid (hown.lt gz rfl)
  have OZ := Lib.hid (own_base hown HB.out.size); clear hown
  replace HB := Lib.hid (HB.out.trans (hb.mono HB.out.size))
  replace OT := Lib.hid (own_below OT.out hb)
  replace OX := Lib.hid (own_below OX.out hb)
  replace OY := Lib.hid (own_below OY.out hb)
  clear hb
  go_wp2_with fail
  refine (RX.out w5 A c0 ((Y.out.below HB.out).more HB.out.size)).mono ?_
  rintro e w6 ⟨A', c', rfl, h1, h2, hown, hb⟩
  replace HB := Lib.hid (HB.out.trans (hb.mono HB.out.size))
  replace OT := Lib.hid (own_below OT.out hb)
  replace OX := Lib.hid (own_below OX.out hb)
  replace OY := Lib.hid (own_below OY.out hb)
  replace OZ := Lib.hid (own_below OZ.out hb)
  have SY := Lib.hid (same_yes (some ⟨gx, 0, none⟩) A' nx cx c' _ _ _ w6 OX.out hown (by omega))
  clear hb hown h1 h2
  go_wp2_with fail
  refine SY.out.mono ?_
  clear SY
  rintro e wdw6 ⟨rfl, hq⟩
  have hb : Below w6.heap.size w6 wdw6 := by obtain ⟨q, rfl⟩ := hq; exact below_drewN (Below.refl _ _) q
  clear hq
  replace HB := Lib.hid (HB.out.trans (hb.mono HB.out.size))
  replace OT := Lib.hid (own_below OT.out hb)
  replace OX := Lib.hid (own_below OX.out hb)
  replace OY := Lib.hid (own_below OY.out hb)
  replace OZ := Lib.hid (own_below OZ.out hb)
  clear hb
  go_wp2_with fail
  refine (RY.out wdw6 A c0 ((Y.out.below HB.out).more HB.out.size)).mono ?_
  rintro e w7 ⟨A', c', rfl, h1, h2, hown, hb⟩
  replace HB := Lib.hid (HB.out.trans (hb.mono HB.out.size))
  replace OT := Lib.hid (own_below OT.out hb)
  replace OX := Lib.hid (own_below OX.out hb)
  replace OY := Lib.hid (own_below OY.out hb)
  replace OZ := Lib.hid (own_below OZ.out hb)
  have SY := Lib.hid (same_yes (some ⟨gy, 0, none⟩) A' (n0 + 4) cy c' _ _ _ w7 OY.out hown (by omega))
  clear hb hown h1 h2
  go_wp2_with fail
  refine SY.out.mono ?_
  clear SY
  rintro e wdw7 ⟨rfl, hq⟩
  have hb : Below w7.heap.size w7 wdw7 := by obtain ⟨q, rfl⟩ := hq; exact below_drewN (Below.refl _ _) q
  clear hq
  replace HB := Lib.hid (HB.out.trans (hb.mono HB.out.size))
  replace OT := Lib.hid (own_below OT.out hb)
  replace OX := Lib.hid (own_below OX.out hb)
  replace OY := Lib.hid (own_below OY.out hb)
  replace OZ := Lib.hid (own_below OZ.out hb)
  clear hb
  go_wp2_with fail
  refine (RZ.out wdw7 A c0 ((Y.out.below HB.out).more HB.out.size)).mono ?_
  rintro e w8 ⟨A', c', rfl, h1, h2, hown, hb⟩
  replace HB := Lib.hid (HB.out.trans (hb.mono HB.out.size))
  replace OT := Lib.hid (own_below OT.out hb)
  replace OX := Lib.hid (own_below OX.out hb)
  replace OY := Lib.hid (own_below OY.out hb)
  replace OZ := Lib.hid (own_below OZ.out hb)
  have SY := Lib.hid (same_yes (some ⟨gz, 0, none⟩) A' nz cz c' _ _ _ w8 OZ.out hown (by omega))
  clear hb hown h1 h2
  go_wp2_with fail
  refine SY.out.mono ?_
  clear SY
  rintro e wdw8 ⟨rfl, hq⟩
  have hb : Below w8.heap.size w8 wdw8 := by obtain ⟨q, rfl⟩ := hq; exact below_drewN (Below.refl _ _) q
  clear hq
  replace HB := Lib.hid (HB.out.trans (hb.mono HB.out.size))
  replace OT := Lib.hid (own_below OT.out hb)
  replace OX := Lib.hid (own_below OX.out hb)
  replace OY := Lib.hid (own_below OY.out hb)
  replace OZ := Lib.hid (own_below OZ.out hb)
  clear hb
  go_wp2_with fail
  refine (left_any A gt 0 n0 ct c0 wdw8.heap.size l wdw8 (Lies.of_own (c := ct) OT.out) (by omega) (by assumption) ((Y.out.below HB.out).more HB.out.size)).mono ?_
  rintro e w9 ⟨rfl, hq⟩
  have hb : Below wdw8.heap.size wdw8 w9 := by obtain ⟨q, rfl⟩ := hq; exact below_drewN (Below.refl _ _) q
  clear hq
  replace HB := Lib.hid (HB.out.trans (hb.mono HB.out.size))
  replace OT := Lib.hid (own_below OT.out hb)
  replace OX := Lib.hid (own_below OX.out hb)
  replace OY := Lib.hid (own_below OY.out hb)
  replace OZ := Lib.hid (own_below OZ.out hb)
  clear hb
  have BK : Hid (∃ vb, BkS w w.heap.size w9.heap.size [] [⟨some ⟨gt, 0, none⟩, n0, ct, 1⟩, ⟨some ⟨gx, 0, none⟩, nx, cx, 2⟩, ⟨some ⟨gy, 0, none⟩, n0 + 4, cy, 3⟩, ⟨some ⟨gz, 0, none⟩, nz, cz, 4⟩] (w9.alloc (.cells (bookCells 0 nilS) 45)) vb) := by
    refine ⟨_, bk_start HB.out HB.out.size ?_⟩
    intro b hb
    simp only [List.mem_cons, List.not_mem_nil, or_false] at hb
    rcases hb with rfl | rfl | rfl | rfl
    · exact ⟨_, by have h := OT.out; rw [List.map_append] at h; exact own_less h⟩
    · exact ⟨_, OX.out⟩
    · exact ⟨_, OY.out⟩
    · exact ⟨_, OZ.out⟩
  clear OT OX OY OZ HX HY HZ RX RY RZ TL Y HB
  go_wp2_with fail
  refine (bk_step BK.out.choose_spec (some ⟨gt, 0, none⟩) n0 ct (by simp)).mono ?_
  clear BK
  rintro e w10 ⟨rfl, BK0⟩
  have BK := Lib.hid BK0; clear BK0
  go_wp2_with fail
  refine (bk_step BK.out.choose_spec (some ⟨gx, 0, none⟩) nx cx (by simp)).mono ?_
  clear BK
  rintro e w11 ⟨rfl, BK0⟩
  have BK := Lib.hid BK0; clear BK0
  go_wp2_with fail
  refine (bk_step BK.out.choose_spec (some ⟨gy, 0, none⟩) (n0 + 4) cy (by simp)).mono ?_
  clear BK
  rintro e w12 ⟨rfl, BK0⟩
  have BK := Lib.hid BK0; clear BK0
  go_wp2_with fail
  refine (bk_step BK.out.choose_spec (some ⟨gz, 0, none⟩) nz cz (by simp)).mono ?_
  clear BK
  rintro e w13 ⟨rfl, BK0⟩
  have BK := Lib.hid BK0; clear BK0
  have DI : Hid (Dis [⟨some ⟨gt, 0, none⟩, n0, ct, 1⟩, ⟨some ⟨gx, 0, none⟩, nx, cx, 2⟩, ⟨some ⟨gy, 0, none⟩, n0 + 4, cy, 3⟩, ⟨some ⟨gz, 0, none⟩, nz, cz, 4⟩]) := by
    have h1 := HGT.out; have h2 := HGX.out; have h3 := HGY.out; have h4 := HGZ.out
    exact dis4 (g1 := gt) (g2 := gx) (g3 := gy) (g4 := gz) rfl rfl rfl rfl (by omega) (by omega) (by omega)
  have FIN := Lib.hid (bk_apart BK.out.choose_spec DI.out (by simp) (by
    intro b hb
    simp only [List.mem_append, List.mem_cons, List.not_mem_nil, or_false, List.nil_append] at hb
    rcases hb with ((rfl | rfl) | rfl) | rfl <;> simp <;> omega))
  clear BK DI
  go_wp2_with fail
  refine FIN.out.mono ?_
  clear FIN
  rintro e w14 ⟨rfl, hb⟩
  have HB := Lib.hid hb; clear hb
  go_wp2
  go_ret
  exact ⟨rfl, HB.out⟩

theorem intsPut_walk (A : Option Addr) (n0 c0 n : Nat) (s : ByteArray) (l : List UInt8) (w : World) (hn : n < 18446744073709551616) (hs : s.size ≤ 140737488351232) (x1 : c0 ≤ 140737488351232) (z1 : n0 ≤ c0) (y : Lies w w.heap.size 1 A n0 (l.map bv)) :
    Calls Tryd.prog 3 #[.slice A n0 c0, .int .u64 (n : Int), .string s] w fun e w' => e = .returned (.bool true) ∧ Below w.heap.size w w' := by
  rcases Nat.lt_or_ge 1048576 (n0 + s.size) with h | h
  · exact intsPut_yes A n0 c0 n s w hs x1 z1 h
  · exact intsPut_no A n0 c0 n s l w hn y h
end Go.Proofs.YthjhoealkalfgaaDoor
