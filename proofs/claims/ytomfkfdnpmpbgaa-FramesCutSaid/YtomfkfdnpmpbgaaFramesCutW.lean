/-
  The walk of FramesCut.
-/
import Derived.Test.YtomfkfdnpmpbgaaFramesBackW
import Derived.Laws.OwnMore
namespace Go.Proofs.Ytomfkfdnpmpbgaa
open Go.RowKit
set_option linter.unusedVariables false

theorem set_parts {α : Type} (r : List α) (j : Nat) (x d : α) (hx : r[j]? = some x) : r = r.take j ++ (x :: r.drop (j + 1)) ∧ r.set j d = r.take j ++ (d :: r.drop (j + 1)) := by
  obtain ⟨hj, he⟩ := List.getElem?_eq_some_iff.1 hx
  refine ⟨?_, ?_⟩
  · subst he
    rw [← List.drop_eq_getElem_cons hj, List.take_append_drop]
  · exact List.set_eq_take_append_cons_drop .. |>.trans (by rw [if_pos hj])
/-- another byte, another sum -/
theorem csum_set (h r : List UInt8) (j : Nat) (x d : UInt8) (hx : r[j]? = some x) (hd : d ≠ x) : csum h (r.set j d) ≠ csum h r := by
  obtain ⟨e1, e2⟩ := set_parts r j x d hx
  unfold csum
  intro e
  rw [e2] at e
  conv at e => rhs; rw [e1]
  have c1 : ∀ y : UInt8, r.take j ++ (y :: r.drop (j + 1)) = r.take j ++ ([y] ++ r.drop (j + 1)) := fun y => rfl
  rw [c1, c1, Crc.on_append _ Crc.small_tab, Crc.on_append _ Crc.small_tab, Crc.on_append _ Crc.small_tab, Crc.on_append _ Crc.small_tab] at e
  have e3 := Crc.on_inj _ (Crc.on_lt _ _ _) (Crc.on_lt _ _ _) e
  have e4 := Crc.on_four (a := [d]) (b := [x]) _ rfl (by simp) e3
  injection e4 with e4 _
  exact hd e4
theorem got_set (r : List UInt8) (hr : r.length ≤ 65536) (k : Nat) (x d : UInt8) (hk : 4 ≤ k) (hkl : k < r.length + 8) (hx : (fr r)[k]? = some x) (hd : d ≠ x) : gotF ((fr r).set k d) = ([], 0, 4) := by
  have hl := fr_len r
  obtain ⟨s, hs⟩ : ∃ s, csum (four r.length) r = s := ⟨_, rfl⟩
  have hsl : s < 4294967296 := by rw [← hs]; exact csum_lt _ _
  have key : ∀ (b r' : List UInt8), b.length = 4 → r'.length = r.length → flen (b ++ r') ≠ csum (four r.length) r' → gotF (four r.length ++ (b ++ r')) = ([], 0, 4) := by
    intro b r' hb hr' hne
    have e1 : (four r.length ++ (b ++ r')).drop 4 = b ++ r' := rfl
    have e2 : (four r.length ++ (b ++ r')).take 4 = four r.length := rfl
    have e3 : (four r.length ++ (b ++ r')).drop 8 = r' := by
      rw [← List.append_assoc, List.drop_append, List.drop_eq_nil_of_le (by rw [List.length_append, four_len]; omega), List.nil_append, List.length_append, four_len, hb]; rfl
    unfold gotF
    rw [flen_four _ _ (by omega), e1, e2, e3, List.take_of_length_le (by omega)]
    rw [if_neg (by simp only [List.length_append, four_len]; omega), if_neg (by omega), if_neg (by simp only [List.length_append, four_len]; omega), if_pos hne]
  unfold fr at hx ⊢
  rw [hs] at hx ⊢
  rw [List.getElem?_append_right (by rw [four_len]; exact hk), four_len] at hx
  rw [List.set_append, if_neg (by rw [four_len]; omega), four_len]
  by_cases h8 : k < 8
  · rw [List.getElem?_append_left (by rw [four_len]; omega)] at hx
    rw [List.set_append, if_pos (by rw [four_len]; omega)]
    refine key _ _ (by rw [List.length_set, four_len]) rfl ?_
    rw [hs]
    intro e
    have e2 : flen (four s ++ r) = s := flen_four s r hsl
    have e3 := flen_inj (l := (four s).set (k - 4) d ++ r) (l' := four s ++ r) (by simp [four_len]) (by simp [four_len]) (e.trans e2.symm)
    rw [List.take_append_of_le_length (by rw [List.length_set, four_len]; omega), List.take_append_of_le_length (by rw [four_len]; omega), List.take_of_length_le (by rw [List.length_set, four_len]; omega), List.take_of_length_le (by rw [four_len]; omega)] at e3
    have e4 : ((four s).set (k - 4) d)[k - 4]? = some d := by rw [List.getElem?_set_self (by rw [four_len]; omega)]
    rw [e3, hx] at e4
    injection e4 with e4
    exact hd e4.symm
  · rw [List.getElem?_append_right (by rw [four_len]; omega), four_len] at hx
    rw [List.set_append, if_neg (by rw [four_len]; omega), four_len]
    refine key _ _ (four_len _) (by rw [List.length_set]) ?_
    rw [flen_four s _ hsl, ← hs]
    exact (csum_set _ r _ x d hx hd).symm

set_option maxHeartbeats 2000000 in
theorem framesCut_yes (A : Option Addr) (n c m1 m2 : Nat) (w : World) (z : n ≤ c) (x : c ≤ 140737488351232) (hbig : 65536 < n) :
    Calls Try.prog 4 #[.slice A n c, .int .u16 (m1 : Int), .int .u8 (m2 : Int)] w fun e w' => e = .returned (.bool true) ∧ Below w.heap.size w w' := by
  go_enter Try.func4, Try.ntmps4
  go_wp2_with fail
  refine (alive3_any w).mono ?_
  rintro e w1 ⟨rfl, hb1⟩
  have HB := Lib.hid hb1; clear hb1
  go_wp2_with fail
  refine (alive3_any w1).mono ?_
  rintro e w3 ⟨rfl, hb3⟩
  have HB3 := Lib.hid (HB.out.trans (hb3.mono HB.out.size)); clear hb3 HB
  go_wp2
  go_ret
  exact ⟨rfl, HB3.out⟩

set_option maxHeartbeats 4000000 in
theorem framesCut_no (A : Option Addr) (n c : Nat) (l : List UInt8) (m1 m2 : Nat) (w : World) (y : Lies w w.heap.size 1 A n (l.map bv)) (z : n ≤ c) (hn : n ≤ 65536) (h1 : m1 < 65536) (h2 : m2 < 256) :
    Calls Try.prog 4 #[.slice A n c, .int .u16 (m1 : Int), .int .u8 (m2 : Int)] w fun e w' => e = .returned (.bool true) ∧ Below w.heap.size w w' := by
  have hl := y.blen
  have Y := Lib.hid y; clear y
  obtain ⟨k, hk⟩ : ∃ k, k = m1 % (n + 8) := ⟨_, rfl⟩
  have hkl : k < n + 8 := by rw [hk]; exact Nat.mod_lt _ (by omega)
  have e1 : (m1 : Int) % ((n : Int) + 8) = (k : Int) := by rw [hk]; simp
  have e2 : Int.tmod (m1 : Int) ((n : Int) + 8) = (k : Int) := by rw [Int.tmod_eq_emod_of_nonneg (by omega), e1]
  have e3 : ((n : Int) + 8 == 0) = false := by simp; omega
  have e4 : ((n : Int) + 8) ≠ 0 := by omega
  have e5 : (k : Int) ≤ (n : Int) + 8 := by omega
  have e6 : (k : Int) < (n : Int) + 8 := by omega
  have HK := Lib.hid hk; clear hk
  go_enter Try.func4, Try.ntmps4
  go_wp2_with fail
  refine (alive3_any w).mono ?_
  rintro e w1 ⟨rfl, hb1⟩
  have HB := Lib.hid hb1; clear hb1
  go_wp2_with fail
  refine (framesPut_got A n c l w1 ((Y.out.below HB.out).more HB.out.size) hn).mono ?_
  rintro e w2 ⟨g2, rfl, hown2, hb2⟩
  have HB2 := Lib.hid (HB.out.trans (hb2.mono HB.out.size)); clear hb2
  have HO2 := Lib.hid (own_base hown2 HB.out.size); clear hown2 HB
  have GC := framesGet_cut (some ⟨g2, 0, none⟩) (n + 8) k (n + 8) l w2 (Lies.of_own HO2.out) (by rw [hl]) (by omega) hkl (by omega)
  have HGC := Lib.hid GC; clear GC
  go_wp2_with fail
  refine HGC.out.mono ?_
  rintro e w3 ⟨A3, c3, rfl, _, _, _, hb3⟩
  have HB3 := Lib.hid (HB2.out.trans (hb3.mono HB2.out.size))
  have HO3 := Lib.hid (own_below HO2.out hb3)
  clear hb3 HB2 HO2 HGC
  by_cases hm2 : m2 = 0
  · subst hm2
    go_wp2
    go_ret
    exact ⟨rfl, HB3.out⟩
  · by_cases hk4 : k < 4
    · have hm2b : ((m2 : Int) == 0) = false := by simp; omega
      have hk4b : decide ((k : Int) < 4) = true := by simp; omega
      go_wp2
      go_ret
      exact ⟨rfl, HB3.out⟩
    · have hm2b : ((m2 : Int) == 0) = false := by simp; omega
      have hk4b : decide ((k : Int) < 4) = false := by simp; omega
      have hfl := fr_len l
      obtain ⟨x, hx⟩ : ∃ x, (fr l)[k]? = some x := ⟨_, List.getElem?_eq_getElem (by omega)⟩
      have hcell : w3.cell? ⟨g2, k, none⟩ = some (.int .u8 (x.toNat : Int)) := by
        rw [HO3.out.cellAt k (by omega), List.getElem?_map, hx]; rfl
      have hfz := HO3.out.frozenAt k
      have hxl := x.toNat_lt
      have hxor := u8_xor_nat x.toNat m2 hxl h2
      have hyl : x.toNat ^^^ m2 < 256 := Nat.xor_lt_two_pow (n := 8) hxl h2
      obtain ⟨d, hd⟩ : ∃ d : UInt8, d.toNat = x.toNat ^^^ m2 := ⟨UInt8.ofNat (x.toNat ^^^ m2), by rw [UInt8.toNat_ofNat']; omega⟩
      have hdx : d ≠ x := by
        rintro rfl
        have e := Crc.xor_cancel d.toNat m2
        rw [← hd, Nat.xor_self] at e
        omega
      have hgs := got_set l (by omega) k x d (by omega) (by omega) hx hdx
      rw [← hd] at hxor
      have O4 := (HO3.out.stored k (bv d)).1
      rw [← List.map_set] at O4
      have hg2 : w.heap.size ≤ g2 := (HO3.out.lt g2 rfl).1
      have HB4 := Lib.hid (HB3.out.setCell (p := ⟨g2, k, none⟩) hg2 (bv d))
      have G4 := framesGet_is (some ⟨g2, 0, none⟩) (n + 8) (n + 8) ((fr l).set k d) _ (Lies.of_own O4) (Nat.le_refl _) (by omega) 0 [] 0 4 hgs rfl
      have HG4 := Lib.hid G4
      generalize x.toNat = xn at *
      clear G4 O4 hgs hdx hd hyl hx hfl
      go_wp2_with fail
      refine HG4.out.mono ?_
      rintro e w5 ⟨A5, c5, rfl, _, _, _, hb5⟩
      have HB5 := Lib.hid (HB4.out.trans (hb5.mono HB4.out.size))
      clear hb5 HG4 HB4
      go_wp2
      go_ret
      exact ⟨rfl, HB5.out⟩

theorem framesCut_walk (A : Option Addr) (n c : Nat) (l : List UInt8) (m1 m2 : Nat) (w : World) (y : Lies w w.heap.size 1 A n (l.map bv)) (z : n ≤ c) (x : c ≤ 140737488351232) (h1 : m1 < 65536) (h2 : m2 < 256) :
    Calls Try.prog 4 #[.slice A n c, .int .u16 (m1 : Int), .int .u8 (m2 : Int)] w fun e w' => e = .returned (.bool true) ∧ Below w.heap.size w w' := by
  by_cases hbig : 65536 < n
  · exact framesCut_yes A n c m1 m2 w z x hbig
  · exact framesCut_no A n c l m1 m2 w y z (by omega) h1 h2
end Go.Proofs.Ytomfkfdnpmpbgaa
