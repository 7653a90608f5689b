/-
  The document's own Get of layer 3.
-/
import Derived.Test.YtomfkfdnpmpbgaaGreatDoorRef3
namespace Go.Proofs.YtomfkfdnpmpbgaaGreatDoor
open Go.RowKit
set_option linter.unusedVariables false
set_option maxRecDepth 100000

/-- 's[8:h]', h of 32 bits -/
theorem run_cutU (w : World) (A : Option Addr) (n c h : Nat) (h1 : 8 ≤ h) (h3 : h ≤ c) :
    (Instr.slice 22 (.slice A n c) (some (.int .i64 8)) (some (.int .u32 (h : Int))) none).run Tryz.prog w = .ok (.slice (cutA A c 8) (h - 8) (c - 8)) w := by
  obtain ⟨i0, hi, hz0, hz1, hz2⟩ := info_parts byte_info
  have e1 : (8 : Int) ≤ (h : Int) := by omega
  unfold Instr.slice cutA
  simp [run_underlying Tryz.underlying22, Instr.sliceBounds, Instr.sliceBound, asIntOf, sizeOf, typeInfo, hi, hz1, h3, e1]
theorem run_headU (w : World) (A : Option Addr) (n c h : Nat) (h3 : h ≤ c) :
    (Instr.slice 22 (.slice A n c) none (some (.int .u32 (h : Int))) none).run Tryz.prog w = .ok (.slice A h c) w := by
  obtain ⟨i0, hi, hz0, hz1, hz2⟩ := info_parts byte_info
  unfold Instr.slice
  simp [run_underlying Tryz.underlying22, Instr.sliceBounds, Instr.sliceBound, asIntOf, sizeOf, typeInfo, hi, h3]
  cases A <;> simp [Addr.add]

theorem four_inj {a b : Nat} (ha : a < 4294967296) (hb : b < 4294967296) (h : four a = four b) : a = b := by
  have e1 := flen_four a [] ha
  have e2 := flen_four b [] hb
  rw [h] at e1
  omega
theorem fr_is (l : List UInt8) (h8 : 8 ≤ l.length) (hk : flen l ≤ 65536) (hs : 8 + flen l ≤ l.length) : (fr ((l.drop 8).take (flen l)) = l.take (8 + flen l)) ↔ flen (l.drop 4) = csum (l.take 4) ((l.drop 8).take (flen l)) := by
  have hlr : ((l.drop 8).take (flen l)).length = flen l := by simp; omega
  have e1 : l.take (8 + flen l) = l.take 4 ++ ((l.drop 4).take 4 ++ (l.drop 8).take (flen l)) := by
    rw [List.take_add, show (8 : Nat) = 4 + 4 from rfl, List.take_add, List.append_assoc]
  unfold fr
  rw [hlr, flen_eta l (by omega), e1]
  constructor
  · intro h
    have h2 := List.append_inj_right h rfl
    have h3 := List.append_inj_left h2 (by rw [four_len]; simp; omega)
    rw [← flen_eta (l.drop 4) (by simp; omega)] at h3
    exact (four_inj (csum_lt _ _) (flen_lt _) h3).symm
  · intro h
    rw [← h, flen_eta (l.drop 4) (by simp; omega)]

/-- what was answered -/
def GotG (w : World) (m : Nat) (r : List UInt8) (t e : Nat) (en : Ending) (w' : World) : Prop :=
  ∃ A c, en = .returned (.tuple #[.slice A m c, .int .i64 (t : Int), .int .i64 (e : Int)]) ∧ m ≤ c ∧ c ≤ maxLen ∧ w'.ownsRow w.heap.size 5 1 (.slice A m c) m (r.map bv) ∧ Below w.heap.size w w'
theorem gotG_none {w w' : World} {e : Nat} (hb : Below w.heap.size w w') : GotG w 0 [] 0 e (.returned (.tuple #[.slice none 0 0, .int .i64 0, .int .i64 (e : Int)])) w' :=
  ⟨none, 0, rfl, Nat.le_refl _, Nat.zero_le _, own_empty _ _, hb⟩

theorem rget_a (A : Option Addr) (n c : Nat) (w : World) (hn : n < 8) :
    Calls Tryz.prog 13 #[.slice A n c] w fun e w' => GotG w 0 [] 0 5 e w' := by
  go_enter Tryz.func13, Tryz.ntmps13
  go_wp2
  go_ret3
  exact gotG_none (Below.refl _ _)

theorem rgetFour_kept (A : Option Addr) (n c : Nat) (l : List UInt8) (w : World) (h : Lies w w.heap.size 1 A n (l.map bv)) (h4 : 4 ≤ n) :
    Calls Tryz.prog 59 #[.slice A n c] w fun e w' => e = .returned (.tuple #[.int .u32 (flen l : Int), .int .i64 0]) ∧ Below w.heap.size w w' := by
  have H := ref_getFour A n c _ l w h
  rw [getFour_yes2 l (by have := h.blen; omega)] at H
  exact H.mono fun e w' ⟨he, q, hq⟩ => ⟨he, by rw [hq]; exact below_drewN (Below.refl _ _) q⟩

set_option maxHeartbeats 1000000 in
theorem rget_b (A : Option Addr) (n c : Nat) (l : List UInt8) (w : World) (h : Lies w w.heap.size 1 A n (l.map bv)) (hn : n ≤ 1099511627776) (h8 : 8 ≤ n) (hk : 65536 < flen l) :
    Calls Tryz.prog 13 #[.slice A n c] w fun e w' => GotG w 0 [] 0 4 e w' := by
  have HF := Lib.hid (rgetFour_kept A n c l w h (by omega)); clear h
  have hkl := flen_lt l
  generalize flen l = k at *
  go_enter Tryz.func13, Tryz.ntmps13
  go_wp2_with fail
  refine HF.out.mono ?_
  rintro e w1 ⟨rfl, hb1⟩
  go_wp2
  go_ret3
  exact gotG_none hb1

set_option maxHeartbeats 1000000 in
theorem rget_c (A : Option Addr) (n c : Nat) (l : List UInt8) (w : World) (h : Lies w w.heap.size 1 A n (l.map bv)) (hn : n ≤ 1099511627776) (h8 : 8 ≤ n) (hk : flen l ≤ 65536) (hs : n < 8 + flen l) :
    Calls Tryz.prog 13 #[.slice A n c] w fun e w' => GotG w 0 [] 0 5 e w' := by
  have HF := Lib.hid (rgetFour_kept A n c l w h (by omega)); clear h
  have hkl := flen_lt l
  generalize flen l = k at *
  have hgt : (n : Int) - 8 < (k : Int) := by omega
  go_enter Tryz.func13, Tryz.ntmps13
  go_wp2_with fail
  refine HF.out.mono ?_
  rintro e w1 ⟨rfl, hb1⟩
  go_wp2
  go_ret3
  exact gotG_none hb1

set_option maxHeartbeats 4000000 in
theorem rget_d (A : Option Addr) (n c : Nat) (l : List UInt8) (w : World) (h : Lies w w.heap.size 1 A n (l.map bv)) (hnc : n ≤ c) (hc : c ≤ 140737488351232) (hn : n ≤ 1099511627776) (h8 : 8 ≤ n) (hk : flen l ≤ 65536) (hs : 8 + flen l ≤ n) (m t e : Nat) (r : List UInt8) (hg : gotF l = (r, t, e)) (hm : r.length = m) :
    Calls Tryz.prog 13 #[.slice A n c] w fun en w' => GotG w m r t e en w' := by
  obtain ⟨i0, hi, hz0, hz1, hz2⟩ := info_parts byte_info
  have hln := h.blen
  have HF := Lib.hid (rgetFour_kept A n c l w h (by omega))
  have his := fr_is l (by omega) hk (by omega)
  have hg2 : gotF l = if flen (l.drop 4) ≠ csum (l.take 4) ((l.drop 8).take (flen l)) then ([], 0, 4) else ((l.drop 8).take (flen l), 8 + flen l, 0) := by
    conv => lhs; unfold gotF
    rw [if_neg (by omega), if_neg (by omega), if_neg (by omega)]
  rw [hg] at hg2
  obtain ⟨k, hkk⟩ : ∃ k, flen l = k := ⟨_, rfl⟩
  obtain ⟨R, hR⟩ : ∃ R, (l.drop 8).take (flen l) = R := ⟨_, rfl⟩
  obtain ⟨F, hF⟩ : ∃ F, l.take (8 + flen l) = F := ⟨_, rfl⟩
  have hRl : R.length = k := by rw [← hR, ← hkk]; simp; omega
  rw [hR, hF] at his
  rw [hR] at hg2
  have LR : Lies w w.heap.size 1 (cutA A c 8) k (R.map bv) := by
    have h1 := h.cutA (m := 8) (c := c) h8 hnc
    have h2 := lies_take h1 (m := flen l) (by omega)
    rw [hR, hkk] at h2; exact h2
  have LF : Lies w w.heap.size 1 A (8 + k) (F.map bv) := by
    have h2 := lies_take h (m := 8 + flen l) (by omega)
    rw [hF, hkk] at h2; exact h2
  rw [hkk] at hk hs HF hg2
  have HR := Lib.hid LR; have HL := Lib.hid LF
  have HIS := Lib.hid his; have HG2 := Lib.hid hg2
  clear h LR LF hR hF hkk hg his hg2 hln
  have w8 : IntKind.u32.wrap (8 + (k : Int)) = 8 + (k : Int) := by rw [IntKind.wrap_u32']; omega
  have cut1 : ∀ W, (Instr.slice 22 (.slice A n c) (some (.int .i64 8)) (some (.int .u32 (8 + (k : Int)))) none).run Tryz.prog W = .ok (.slice (cutA A c 8) k (c - 8)) W := fun W => by
    have := run_cutU W A n c (8 + k) (by omega) (by omega)
    rw [show ((8 + k : Nat) : Int) = 8 + (k : Int) from by omega, show 8 + k - 8 = k from by omega] at this; exact this
  have cut2 : ∀ W, (Instr.slice 22 (.slice A n c) none (some (.int .u32 (8 + (k : Int)))) none).run Tryz.prog W = .ok (.slice A (8 + k) c) W := fun W => by
    have := run_headU W A n c (8 + k) (by omega)
    rw [show ((8 + k : Nat) : Int) = 8 + (k : Int) from by omega] at this; exact this
  have hgt : (k : Int) ≤ (n : Int) - 8 := by omega
  go_enter Tryz.func13, Tryz.ntmps13
  go_wp2_with fail
  refine HF.out.mono ?_
  rintro en w1 ⟨rfl, hb1⟩
  have HB1 := Lib.hid hb1
  have HR1 := Lib.hid ((HR.out.below hb1).more hb1.size)
  clear hb1 HF HR
  go_wp2_with (at_builtin; refine wpList_app _ rfl _ _ 22 rfl w.heap.size 5 i0 _ 1 1 Tryz.underlying22 hi hz0 hz1 hz2 rfl (by decide) (.slice none 0 0) 0 [] rfl ⟨rfl, .inl ⟨rfl, rfl⟩⟩ w1.heap.size (cutA A c 8) k (c - 8) (R.map bv) rfl HR1.out (bv_one _) (by unfold maxLen; omega) (by omega) HB1.out.size ?_)
  intro v2 w2 hown2 hg2 _
  have hb2 : Below w.heap.size w w2 := HB1.out.grown hg2 HB1.out.size (fun k hk => by cases hk)
  have O2 : w2.ownsRow w.heap.size 5 1 v2 k (R.map bv) := by simpa using hown2
  obtain ⟨A2, c2, rfl, hnc2, hcm2, _⟩ := own_shape O2
  have HO2 := Lib.hid O2; have HB2 := Lib.hid hb2
  clear hown2 hg2 hb2 O2 HR1 HB1
  go_wp2_with fail
  refine (rput_ok A2 k c2 R w2 (Lies.of_own HO2.out) hk).mono ?_
  rintro en w3 ⟨A3, c3, rfl, hnc3, hcm3, hown3, hb3⟩
  have HB3 := Lib.hid (HB2.out.trans (hb3.mono HB2.out.size))
  have HO3 := Lib.hid (own_below HO2.out hb3)
  obtain ⟨s1, hs1⟩ : ∃ s : ByteArray, s = ⟨(fr R).toArray⟩ := ⟨_, rfl⟩
  obtain ⟨s2, hs2⟩ : ∃ s : ByteArray, s = ⟨F.toArray⟩ := ⟨_, rfl⟩
  have hss : s1 = s2 ↔ fr R = F := by
    rw [hs1, hs2]
    constructor
    · intro h
      injection h with h
      exact List.toArray_inj h
    · intro h; rw [h]
  have HSS := Lib.hid hss
  have hl12 : s1.toList = s2.toList ↔ s1 = s2 := by
    rw [ByteArray.toList_eq, ByteArray.toList_eq]
    constructor
    · intro h
      have := Array.toList_inj.1 h
      cases s1; cases s2; simp_all
    · intro h; rw [h]
  have S1a : ∀ q, (convert 22 9 (.slice A3 (k + 8) c3)).run Tryz.prog (w3.drewN q) = .ok (.string s1) (w3.drewN q) := fun q => by rw [hs1]; exact run_str _ _ _ _ Tryz.underlying22 Tryz.underlying5 Tryz.underlying9 c3 ((Lies.of_own hown3).drewN q)
  have S2a : ∀ q, (convert 22 9 (.slice A (8 + k) c)).run Tryz.prog (w3.drewN q) = .ok (.string s2) (w3.drewN q) := fun q => by rw [hs2]; exact run_str _ _ _ _ Tryz.underlying22 Tryz.underlying5 Tryz.underlying9 c (((HL.out.below HB3.out).more HB3.out.size).drewN q)
  clear hs1 hs2 hss hb3 hown3 HB2 HO2 HL
  by_cases heq : s1 = s2
  · have hg := HG2.out
    rw [if_neg (by rw [ne_eq, Decidable.not_not]; exact HIS.out.1 (HSS.out.1 heq))] at hg
    injection hg with g1 g2
    injection g2 with g2 g3
    subst g1 g2 g3
    have hq1 : (s1.toList == s2.toList) = true := by simp [hl12.2 heq]
    clear heq hl12
    obtain rfl : k = m := by omega
    clear HSS HG2 HIS
    go_wp2_with fail
    go_quiet (fail)
    have HB4 := fun q => Lib.hid (below_drewN HB3.out q)
    have HO4 : ∀ q, Hid ((w3.drewN q).ownsRow w.heap.size 5 1 (.slice A2 k c2) k (r.map bv)) := fun q => HO3.out
    clear S1a S2a HO3 HB3
    go_wp2
    go_ret3
    exact ⟨A2, c2, by rw [show ((8 + k : Nat) : Int) = 8 + (k : Int) from by omega]; rfl, hnc2, hcm2, (HO4 _).out, (HB4 _).out⟩
  · have hg := HG2.out
    rw [if_pos (fun h => heq (HSS.out.2 (HIS.out.2 h)))] at hg
    injection hg with g1 g2
    injection g2 with g2 g3
    subst g1 g2 g3

    obtain rfl : m = 0 := hm.symm
    have hq1 : (s1.toList == s2.toList) = false := by simpa using fun h => heq (hl12.1 h)
    clear heq hl12
    clear HSS HG2 HIS
    go_wp2_with fail
    go_quiet (fail)
    have HB4 := fun q => Lib.hid (below_drewN HB3.out q)
    clear S1a S2a HO3 HB3
    go_wp2
    go_ret3
    exact gotG_none (HB4 _).out

theorem rget_any (A : Option Addr) (n c : Nat) (l : List UInt8) (w : World) (h : Lies w w.heap.size 1 A n (l.map bv)) (hnc : n ≤ c) (hc : c ≤ 140737488351232) (hn : n ≤ 1099511627776) (m t e : Nat) (r : List UInt8) (hg : gotF l = (r, t, e)) (hm : r.length = m) :
    Calls Tryz.prog 13 #[.slice A n c] w fun en w' => GotG w m r t e en w' := by
  have hl := h.blen
  by_cases h8 : n < 8
  · have e1 : gotF l = ([], 0, 5) := by unfold gotF; rw [if_pos (by omega)]
    rw [e1] at hg
    injection hg with g1 g2; injection g2 with g2 g3
    subst g1 g2 g3 hm
    exact rget_a A n c w h8
  by_cases hk : 65536 < flen l
  · have e1 : gotF l = ([], 0, 4) := by unfold gotF; rw [if_neg (by omega), if_pos hk]
    rw [e1] at hg
    injection hg with g1 g2; injection g2 with g2 g3
    subst g1 g2 g3 hm
    exact rget_b A n c l w h hn (by omega) hk
  by_cases hs : n < 8 + flen l
  · have e1 : gotF l = ([], 0, 5) := by unfold gotF; rw [if_neg (by omega), if_neg hk, if_pos (by omega)]
    rw [e1] at hg
    injection hg with g1 g2; injection g2 with g2 g3
    subst g1 g2 g3 hm
    exact rget_c A n c l w h hn (by omega) (by omega) hs
  exact rget_d A n c l w h hnc hc hn (by omega) (by omega) (by omega) m t e r hg hm
end Go.Proofs.YtomfkfdnpmpbgaaGreatDoor
