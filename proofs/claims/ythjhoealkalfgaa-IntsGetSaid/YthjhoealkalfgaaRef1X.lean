/-
  Walks of the document's own answers for layer 1: GetFour, GetText.
-/
import Derived.Test.YthjhoealkalfgaaRef1W
import Derived.Test.YthjhoealkalfgaaLaw1
namespace Go.Proofs.Ythjhoealkalfgaa
open Go.RowKit
set_option linter.unusedVariables false

theorem wrap_u32_nat (q : Nat) (h : q < 4294967296) : IntKind.u32.wrap (q : Int) = (q : Int) := by
  rw [IntKind.wrap_u32']; omega

set_option maxHeartbeats 2000000 in
theorem ref_getFour_yes (A : Option Addr) (n c B : Nat) (x0 x1 x2 x3 : UInt8) (l : List UInt8) (w : World) (h : Lies w B 1 A n ((x0 :: x1 :: x2 :: x3 :: l).map bv)) :
    Calls Try.prog 17 #[.slice A n c] w fun e w' => e = .returned (.tuple #[.int .u32 ((x0.toNat * 16777216 + x1.toNat * 65536 + x2.toNat * 256 + x3.toNat : Nat) : Int), .int .i64 0]) ∧ ∃ q, w' = w.drewN q := by
  have hl4 : 4 ≤ n := by have := h.len; simp at this; omega
  obtain ⟨b, o, u, rfl, hbB, hu0, hc0⟩ := h.at_ (j := 0) (by omega)
  have hcell : ∀ (i : Nat) (x : UInt8), (x0 :: x1 :: x2 :: x3 :: l)[i]? = some x → w.cell? ⟨b, o + i, none⟩ = some (.int .u8 (x.toNat : Int)) := by
    intro i x hx
    obtain ⟨ad, v, e, _, hv, hcc⟩ := h.spot i (by rcases List.getElem?_eq_some_iff.1 hx with ⟨hh, _⟩; simpa using hh)
    injection e with e
    subst e
    rw [add_lit] at hcc
    rw [List.getElem?_map, hx] at hv
    injection hv with hv
    rw [hcc, ← hv]
  have c0 : w.cell? ⟨b, o, none⟩ = some (.int .u8 (x0.toNat : Int)) := hcell 0 x0 rfl
  have c1 := hcell 1 x1 rfl
  have c2 := hcell 2 x2 rfl
  have c3 := hcell 3 x3 rfl
  have y0 := x0.toNat_lt
  have y1 := x1.toNat_lt
  have y2 := x2.toNat_lt
  have y3 := x3.toNat_lt
  clear hcell h hu0 hc0
  generalize x0.toNat = a0 at *
  generalize x1.toNat = a1 at *
  generalize x2.toNat = a2 at *
  generalize x3.toNat = a3 at *
  have m0 : IntKind.u32.wrap (16777216 * (a0 : Int)) = ((16777216 * a0 : Nat) : Int) := by rw [← wrap_u32_nat (16777216 * a0) (by omega)]; simp
  have m1 : IntKind.u32.wrap (65536 * (a1 : Int)) = ((65536 * a1 : Nat) : Int) := by rw [← wrap_u32_nat (65536 * a1) (by omega)]; simp
  have m2 : IntKind.u32.wrap (256 * (a2 : Int)) = ((256 * a2 : Nat) : Int) := by rw [← wrap_u32_nat (256 * a2) (by omega)]; simp
  have b0 : (0 : Int) < (n : Int) := by omega
  have b1 : (1 : Int) < (n : Int) := by omega
  have b2 : (2 : Int) < (n : Int) := by omega
  have b3 : (3 : Int) < (n : Int) := by omega
  go_enter Try.func17, Try.ntmps17
  go_wp2
  go_quiet (fail)
  go_wp2
  go_ret2
  exact ⟨congrArg (fun x => Ending.returned (.tuple #[.int .u32 x, .int .i64 0])) (by simp; omega), _, rfl⟩
theorem ref_getFour_no (A : Option Addr) (n c : Nat) (w : World) (hn : n < 4) :
    Calls Try.prog 17 #[.slice A n c] w fun e w' => e = .returned (.tuple #[.int .u32 0, .int .i64 5]) ∧ ∃ q, w' = w.drewN q := by
  go_enter Try.func17, Try.ntmps17
  go_wp2
  go_ret2
  exact ⟨rfl, 0, rfl⟩
theorem ref_getFour (A : Option Addr) (n c B : Nat) (l : List UInt8) (w : World) (h : Lies w B 1 A n (l.map bv)) :
    Calls Try.prog 17 #[.slice A n c] w fun e w' => e = .returned (.tuple #[.int .u32 ((getFour l).1 : Int), .int .i64 ((getFour l).2 : Int)]) ∧ ∃ q, w' = w.drewN q := by
  have hln : l.length = n := by simpa using h.len
  match l, h, hln with
  | x0 :: x1 :: x2 :: x3 :: l, h, _ => exact ref_getFour_yes A n c B x0 x1 x2 x3 l w h
  | [], _, hln => exact ref_getFour_no A n c w (by simp at hln; omega)
  | [_], _, hln => exact ref_getFour_no A n c w (by simp at hln; omega)
  | [_, _], _, hln => exact ref_getFour_no A n c w (by simp at hln; omega)
  | [_, _, _], _, hln => exact ref_getFour_no A n c w (by simp at hln; omega)

set_option maxHeartbeats 2000000 in
theorem ref_getText (A : Option Addr) (n c B : Nat) (l : List UInt8) (w : World) (h : Lies w B 1 A n (l.map bv)) (hn : n ≤ 4611686018427387904) (hnc : n ≤ c) (hc : c ≤ maxLen) :
    Calls Try.prog 19 #[.slice A n c] w fun e w' => e = .returned (.tuple #[.string ⟨(getText l).1.toArray⟩, .int .i64 ((getText l).2.1 : Int), .int .i64 ((getText l).2.2 : Int)]) ∧ w = w' := by
  have hln : l.length = n := by simpa using h.len
  have HC := ref_get A n c B l w h hn
  unfold maxLen at hc
  rcases hg : Vi.get l with ⟨k, t, e⟩
  rw [hg] at HC
  have H := Lib.hid HC
  clear HC
  by_cases he : e = 0
  · subst he
    have hback := Vi.get_back l k t hg
    have ht : t ≤ n := by omega
    have ht1 : 1 ≤ t := hback.2.1
    have hk : k < 18446744073709551616 := hback.1
    have hsub : ((n - t : Nat) : Int) = (n : Int) - (t : Int) := by omega
    by_cases hs : n - t < k
    · have e1 : getText l = ([], 0, 5) := by unfold getText; rw [hg, hln, if_neg (by simp), if_pos hs]
      rw [e1]
      clear e1 hback hg hln h hsub
      have hx : (n : Int) - (t : Int) < (k : Int) := by omega
      go_enter Try.func19, Try.ntmps19
      go_wp2_with fail
      refine H.out.mono ?_
      rintro e1 w1 ⟨rfl, rfl⟩
      go_wp2
      go_ret3
      exact ⟨rfl, rfl⟩
    · have e1 : getText l = ((l.drop t).take k, t + k, 0) := by unfold getText; rw [hg, hln, if_neg (by simp), if_neg hs]
      rw [e1]
      obtain ⟨b, o, u, rfl, hbB, _, _⟩ := h.at_ (j := 0) (by omega)
      have hd : Lies w B 1 (some ⟨b, o + t, none⟩) k (((l.drop t).take k).map bv) := by
        have := (h.drop_ ht).take_ (m := k) (by omega)
        simp only [Option.map_some, add_lit] at this
        rw [List.map_take, List.map_drop]
        exact this
      clear e1 hback hg hln h hsub
      have hx : ¬ (n : Int) - (t : Int) < (k : Int) := by omega
      obtain ⟨r, hr0⟩ : ∃ r, (l.drop t).take k = r := ⟨_, rfl⟩
      rw [hr0] at hd
      have HR := Lib.hid hr0
      clear hr0
      go_enter Try.func19, Try.ntmps19
      go_wp2_with fail
      refine H.out.mono ?_
      rintro e1 w1 ⟨rfl, rfl⟩
      by_cases hct : c = t
      · have hk0 : k = 0 := by omega
        subst hk0
        have hr : r = [] := by have := hd.len; simpa using this
        subst hr
        have hstr := run_str (P := Try.prog) w 22 9 5 Try.underlying22 Try.underlying5 Try.underlying9 (l := []) 0 (Lies.none_ w B 1 (some ⟨b, o, none⟩))
        clear hd H
        go_wp2
        go_ret3
        exact ⟨by rw [HR.out]; rfl, rfl⟩
      · have hstr := run_str (P := Try.prog) w 22 9 5 Try.underlying22 Try.underlying5 Try.underlying9 (c - t) hd
        clear hd H
        go_wp2
        go_ret3
        exact ⟨by rw [HR.out]; rfl, rfl⟩
  · have e1 : getText l = ([], 0, e) := by unfold getText; rw [hg, if_pos he]
    rw [e1]
    clear e1 hg hln h
    have hne : ((e : Int) != 0) = true := by simp; omega
    go_enter Try.func19, Try.ntmps19
    go_wp2_with fail
    refine H.out.mono ?_
    rintro e1 w1 ⟨rfl, rfl⟩
    go_wp2
    go_ret3
    exact ⟨rfl, rfl⟩
end Go.Proofs.Ythjhoealkalfgaa
