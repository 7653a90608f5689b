/-
  Walks of the document's own answers for layer 1: Get, GetFour, GetText.
  Walks of the document's own answers for layer 1: GetFour, GetText.
-/
import Derived.Test.YtbbimfbkllellaaGreatDoorRef1
import Derived.Test.YtbbimfbkllellaaGreatDoorSame
import Derived.Test.YtbbimfbkllellaaGreatDoorRdEnt
namespace Go.Proofs.YtbbimfbkllellaaGreatDoor
open Go.RowKit
set_option linter.unusedVariables false

/-- what the inner loop keeps -/
def RIn (l : List UInt8) (k : Nat) (x y : Value) : Prop :=
  (∃ j : Nat, j ≤ k ∧ y = .int .i64 (j : Int) ∧ x = .int .u64 (Vi.val ((l.take (k + 1)).drop (j + 1)) : Int)) ∨ (y = .int .i64 (-1) ∧ x = .int .u64 (Vi.val (l.take (k + 1)) : Int))
theorem val_step (l : List UInt8) (k j : Nat) (y : UInt8) (hjk : j ≤ k) (hy : l[j]? = some y) : Vi.val ((l.take (k + 1)).drop j) = Vi.val ((l.take (k + 1)).drop (j + 1)) * 128 + y.toNat % 128 := by
  have h : (l.take (k + 1))[j]? = some y := by rw [List.getElem?_take, if_pos (by omega)]; exact hy
  obtain ⟨hlt, he⟩ := List.getElem?_eq_some_iff.1 h
  rw [List.drop_eq_getElem_cons hlt, he]
  simp only [Vi.val]
  omega

set_option maxRecDepth 100000 in
set_option maxHeartbeats 4000000 in
theorem ref_get (A : Option Addr) (n c B : Nat) (l : List UInt8) (w : World) (h : Lies w B 1 A n (l.map bv)) (hn : n ≤ 4611686018427387904) :
    Calls Tryz.prog 21 #[.slice A n c] w fun e w' => e = .returned (.tuple #[.int .u64 ((Vi.get l).1 : Int), .int .i64 ((Vi.get l).2.1 : Int), .int .i64 ((Vi.get l).2.2 : Int)]) ∧ w = w' := by
  have HN := Lib.hid h; clear h
  go_enter Tryz.func21, Tryz.ntmps21
  go_wp2
  go_loop [5] (fun i => ∃ k : Nat, k ≤ n ∧ k ≤ 10 ∧ i = .int .i64 (k : Int) ∧ Hid (∀ j x, j < k → l[j]? = some x → 128 ≤ x.toNat)) (fun i => n - (intOf i).toNat)
  case atStart => exact ⟨0, Nat.zero_le _, by decide, rfl, fun j x h => by omega⟩
  case round =>
    obtain ⟨k, hk, hk10, rfl, HA⟩ := hrel
    by_cases hlt : k < n ∧ k < 10
    · obtain ⟨h1, h2⟩ := hlt
      obtain ⟨b, o, x, rfl, hbB, hx, hcell⟩ := HN.out.byte h1
      have hx256 := x.toNat_lt
      have hd1 : decide ((k : Int) < (n : Int)) = true := by simp; omega
      have hd1' : decide (k < n) = true := by simp; omega
      have hd2 : decide ((k : Int) < 10) = true := by simp; omega
      by_cases hge : 128 ≤ x.toNat
      · have HA2 : Hid (∀ j y, j < k + 1 → l[j]? = some y → 128 ≤ y.toNat) := by
          intro j y hj hy
          rcases Nat.lt_or_ge j k with hjk | hjk
          · exact HA j y hjk hy
          · have : j = k := by omega
            subst this
            rw [hx] at hy
            injection hy with hy
            subst hy
            exact hge
        clear hx
        generalize x.toNat = xn at *
        go_wp2
        go_round
        case rel => exact ⟨k + 1, by omega, by omega, by go_num, HA2⟩
        case measure => simp [intOf]; omega
      · have hend := Vi.get_end l k x h2 HA hx (by omega)
        have HX := Lib.hid hx
        clear hx
        obtain ⟨xn, hxn⟩ : ∃ y, y = x.toNat := ⟨_, rfl⟩
        rw [← hxn] at hend hcell hge hx256
        have hg128 : decide ((128 : Int) ≤ (xn : Int)) = false := by simp; omega
        by_cases hbad : 0 < k ∧ xn = 0 ∨ k = 9 ∧ 1 < xn
        · rw [if_pos hbad] at hend
          have HE := Lib.hid hend
          clear hend hxn
          rcases hbad with ⟨hb1, hb2⟩ | ⟨hb1, hb2⟩
          · have e1 : decide ((0 : Int) < (k : Int)) = true := by simp; omega
            have e2 : ((xn : Int) == 0) = true := by simp; omega
            clear hb2
            go_wp2
            go_ret3
            exact ⟨by rw [HE.out]; rfl, rfl⟩
          · have e1 : decide ((0 : Int) < (k : Int)) = true := by simp; omega
            have e2 : ((xn : Int) == 0) = false := by simp; omega
            have e3 : ((k : Int) == 9) = true := by simp; omega
            have e4 : decide ((1 : Int) < (xn : Int)) = true := by simp; omega
            have hk0 : 0 < k := by omega
            clear hb1
            go_wp2
            go_ret3
            exact ⟨by rw [HE.out]; rfl, rfl⟩
        · rw [if_neg hbad] at hend
          have HE := Lib.hid hend
          clear hend hxn
          have hlt64 : Vi.val (l.take (k + 1)) < 18446744073709551616 := by
            have := (Vi.get_lt l).1
            rw [HE.out] at this
            exact this
          have HV := Lib.hid hlt64
          clear hlt64
          rcases Nat.eq_zero_or_pos k with hk0 | hk0
          · have e1 : ¬ 0 < k := by omega
            have e3 : ((k : Int) == 9) = false := by simp; omega
            clear hk0 hbad
            go_wp2
            go_loop [6, 7] (fun x y => RIn l k x y) (fun _ y => ((intOf y) + 1).toNat)
            case atStart => exact .inl ⟨k, Nat.le_refl _, rfl, by rw [List.drop_eq_nil_of_le (List.length_take_le _ _)]; rfl⟩
            case round =>
              rcases hrel with ⟨j, hjk, rfl, rfl⟩ | ⟨rfl, rfl⟩
              · obtain ⟨b', o', y, hbo, _, hy, hc2⟩ := HN.out.byte (k := j) (by omega)
                injection hbo with hbo
                injection hbo with hb0 ho0
                subst hb0 ho0
                have hy256 := y.toNat_lt
                have hstep := val_step l k j y hjk hy
                have hle := Vi.val_drop (l.take (k + 1)) j
                have hv := HV.out
                have HS := Lib.hid hstep
                clear hstep hy
                obtain ⟨v, hv1⟩ : ∃ v, Vi.val ((l.take (k + 1)).drop (j + 1)) = v := ⟨_, rfl⟩
                rw [hv1] at HS ⊢
                have hbound : v * 128 + y.toNat % 128 < 18446744073709551616 := by rw [← HS.out]; omega
                clear hle hv hv1
                obtain ⟨yn, hyn⟩ : ∃ u, y.toNat = u := ⟨_, rfl⟩
                rw [hyn] at hbound hc2 hy256 HS
                clear hyn
                rcases Nat.eq_zero_or_pos j with h0 | h0
                · subst h0
                  rw [Nat.add_zero] at hc2
                  go_wp2
                  go_round
                  case rel => exact .inr ⟨by go_num, by rw [List.drop_zero] at HS; rw [HS.out]; go_num⟩
                  case measure => simp [intOf]
                · exact absurd hjk (by omega)
              · go_wp2
                go_ret3
                exact ⟨by rw [HE.out]; rfl, rfl⟩
          · have e2 : ((xn : Int) == 0) = false := by simp; omega
            by_cases hk9 : k = 9
            · have e3 : ((k : Int) == 9) = true := by simp; omega
              have e4 : decide ((1 : Int) < (xn : Int)) = false := by simp; omega
              clear hk9 hbad
              go_wp2
              go_loop [6, 7] (fun x y => RIn l k x y) (fun _ y => ((intOf y) + 1).toNat)
              case atStart => exact .inl ⟨k, Nat.le_refl _, rfl, by rw [List.drop_eq_nil_of_le (List.length_take_le _ _)]; rfl⟩
              case round =>
                rcases hrel with ⟨j, hjk, rfl, rfl⟩ | ⟨rfl, rfl⟩
                · obtain ⟨b', o', y, hbo, _, hy, hc2⟩ := HN.out.byte (k := j) (by omega)
                  injection hbo with hbo
                  injection hbo with hb0 ho0
                  subst hb0 ho0
                  have hy256 := y.toNat_lt
                  have hstep := val_step l k j y hjk hy
                  have hle := Vi.val_drop (l.take (k + 1)) j
                  have hv := HV.out
                  have HS := Lib.hid hstep
                  clear hstep hy
                  obtain ⟨v, hv1⟩ : ∃ v, Vi.val ((l.take (k + 1)).drop (j + 1)) = v := ⟨_, rfl⟩
                  rw [hv1] at HS ⊢
                  have hbound : v * 128 + y.toNat % 128 < 18446744073709551616 := by rw [← HS.out]; omega
                  clear hle hv hv1
                  obtain ⟨yn, hyn⟩ : ∃ u, y.toNat = u := ⟨_, rfl⟩
                  rw [hyn] at hbound hc2 hy256 HS
                  clear hyn
                  rcases Nat.eq_zero_or_pos j with h0 | h0
                  · subst h0
                    rw [Nat.add_zero] at hc2
                    go_wp2
                    go_round
                    case rel => exact .inr ⟨by go_num, by rw [List.drop_zero] at HS; rw [HS.out]; go_num⟩
                    case measure => simp [intOf]
                  · obtain ⟨i, rfl⟩ : ∃ i, j = i + 1 := ⟨j - 1, by omega⟩
                    go_wp2
                    go_round
                    case rel => exact .inl ⟨i, by omega, by go_num, by rw [HS.out]; go_num⟩
                    case measure => simp [intOf]; omega
                · go_wp2
                  go_ret3
                  exact ⟨by rw [HE.out]; rfl, rfl⟩
            · have e3 : ((k : Int) == 9) = false := by simp; omega
              clear hk9 hbad
              go_wp2
              go_loop [6, 7] (fun x y => RIn l k x y) (fun _ y => ((intOf y) + 1).toNat)
              case atStart => exact .inl ⟨k, Nat.le_refl _, rfl, by rw [List.drop_eq_nil_of_le (List.length_take_le _ _)]; rfl⟩
              case round =>
                rcases hrel with ⟨j, hjk, rfl, rfl⟩ | ⟨rfl, rfl⟩
                · obtain ⟨b', o', y, hbo, _, hy, hc2⟩ := HN.out.byte (k := j) (by omega)
                  injection hbo with hbo
                  injection hbo with hb0 ho0
                  subst hb0 ho0
                  have hy256 := y.toNat_lt
                  have hstep := val_step l k j y hjk hy
                  have hle := Vi.val_drop (l.take (k + 1)) j
                  have hv := HV.out
                  have HS := Lib.hid hstep
                  clear hstep hy
                  obtain ⟨v, hv1⟩ : ∃ v, Vi.val ((l.take (k + 1)).drop (j + 1)) = v := ⟨_, rfl⟩
                  rw [hv1] at HS ⊢
                  have hbound : v * 128 + y.toNat % 128 < 18446744073709551616 := by rw [← HS.out]; omega
                  clear hle hv hv1
                  obtain ⟨yn, hyn⟩ : ∃ u, y.toNat = u := ⟨_, rfl⟩
                  rw [hyn] at hbound hc2 hy256 HS
                  clear hyn
                  rcases Nat.eq_zero_or_pos j with h0 | h0
                  · subst h0
                    rw [Nat.add_zero] at hc2
                    go_wp2
                    go_round
                    case rel => exact .inr ⟨by go_num, by rw [List.drop_zero] at HS; rw [HS.out]; go_num⟩
                    case measure => simp [intOf]
                  · obtain ⟨i, rfl⟩ : ∃ i, j = i + 1 := ⟨j - 1, by omega⟩
                    go_wp2
                    go_round
                    case rel => exact .inl ⟨i, by omega, by go_num, by rw [HS.out]; go_num⟩
                    case measure => simp [intOf]; omega
                · go_wp2
                  go_ret3
                  exact ⟨by rw [HE.out]; rfl, rfl⟩
    · have hout := Vi.get_on_out l k (by have := HN.out.blen; omega) HA
      rw [HN.out.blen] at hout
      have HO := Lib.hid hout
      clear hout
      by_cases hn10 : n < 10
      · have h1 : decide (k < n) = false := by simp; omega
        have h1' : decide ((k : Int) < (n : Int)) = false := by simp; omega
        go_wp2
        go_ret3
        exact ⟨by rw [HO.out, if_pos hn10]; rfl, rfl⟩
      · have h2 : decide ((k : Int) < 10) = false := by simp; omega
        by_cases hkn : k < n
        · have h1 : decide (k < n) = true := by simp; omega
          go_wp2
          go_ret3
          exact ⟨by rw [HO.out, if_neg hn10]; rfl, rfl⟩
        · have h1 : decide (k < n) = false := by simp; omega
          go_wp2
          go_ret3
          exact ⟨by rw [HO.out, if_neg hn10]; rfl, rfl⟩
end Go.Proofs.YtbbimfbkllellaaGreatDoor

namespace Go.Proofs.YtbbimfbkllellaaGreatDoor
open Go.RowKit
set_option linter.unusedVariables false
set_option maxRecDepth 100000

set_option maxHeartbeats 2000000 in
theorem ref_getText (A : Option Addr) (n c B : Nat) (l : List UInt8) (w : World) (h : Lies w B 1 A n (l.map bv)) (hn : n ≤ 4611686018427387904) (hnc : n ≤ c) (hc : c ≤ maxLen) :
    Calls Tryz.prog 22 #[.slice A n c] w fun e w' => e = .returned (.tuple #[.string ⟨(getText l).1.toArray⟩, .int .i64 ((getText l).2.1 : Int), .int .i64 ((getText l).2.2 : Int)]) ∧ w = w' := by
  have hln : l.length = n := by simpa using h.len
  have HC := ref_get A n c B l w h hn
  unfold maxLen at hc
  rcases hg : Vi.get l with ⟨k, t, e⟩
  rw [hg] at HC
  have H := Lib.hid HC
  clear HC
  by_cases he : e = 0
  · subst he
    have hback := Vi.get_back l k t hg
    have ht : t ≤ n := by omega
    have ht1 : 1 ≤ t := hback.2.1
    have hk : k < 18446744073709551616 := hback.1
    have hsub : ((n - t : Nat) : Int) = (n : Int) - (t : Int) := by omega
    by_cases hs : n - t < k
    · have e1 : getText l = ([], 0, 5) := by unfold getText; rw [hg, hln, if_neg (by simp), if_pos hs]
      rw [e1]
      clear e1 hback hg hln h hsub
      have hx : (n : Int) - (t : Int) < (k : Int) := by omega
      go_enter Tryz.func22, Tryz.ntmps22
      go_wp2_with fail
      refine H.out.mono ?_
      rintro e1 w1 ⟨rfl, rfl⟩
      go_wp2
      go_ret3
      exact ⟨rfl, rfl⟩
    · have e1 : getText l = ((l.drop t).take k, t + k, 0) := by unfold getText; rw [hg, hln, if_neg (by simp), if_neg hs]
      rw [e1]
      obtain ⟨b, o, u, rfl, hbB, _, _⟩ := h.at_ (j := 0) (by omega)
      have hd : Lies w B 1 (some ⟨b, o + t, none⟩) k (((l.drop t).take k).map bv) := by
        have := (h.drop_ ht).take_ (m := k) (by omega)
        simp only [Option.map_some, add_lit] at this
        rw [List.map_take, List.map_drop]
        exact this
      clear e1 hback hg hln h hsub
      have hx : ¬ (n : Int) - (t : Int) < (k : Int) := by omega
      obtain ⟨r, hr0⟩ : ∃ r, (l.drop t).take k = r := ⟨_, rfl⟩
      rw [hr0] at hd
      have HR := Lib.hid hr0
      clear hr0
      go_enter Tryz.func22, Tryz.ntmps22
      go_wp2_with fail
      refine H.out.mono ?_
      rintro e1 w1 ⟨rfl, rfl⟩
      by_cases hct : c = t
      · have hk0 : k = 0 := by omega
        subst hk0
        have hr : r = [] := by have := hd.len; simpa using this
        subst hr
        have hstr := run_str (P := Tryz.prog) w 22 9 5 Tryz.underlying22 Tryz.underlying5 Tryz.underlying9 (l := []) 0 (Lies.none_ w B 1 (some ⟨b, o, none⟩))
        clear hd H
        go_wp2
        go_ret3
        exact ⟨by rw [HR.out]; rfl, rfl⟩
      · have hstr := run_str (P := Tryz.prog) w 22 9 5 Tryz.underlying22 Tryz.underlying5 Tryz.underlying9 (c - t) hd
        clear hd H
        go_wp2
        go_ret3
        exact ⟨by rw [HR.out]; rfl, rfl⟩
  · have e1 : getText l = ([], 0, e) := by unfold getText; rw [hg, if_pos he]
    rw [e1]
    clear e1 hg hln h
    have hne : ((e : Int) != 0) = true := by simp; omega
    go_enter Tryz.func22, Tryz.ntmps22
    go_wp2_with fail
    refine H.out.mono ?_
    rintro e1 w1 ⟨rfl, rfl⟩
    go_wp2
    go_ret3
    exact ⟨rfl, rfl⟩
end Go.Proofs.YtbbimfbkllellaaGreatDoor

