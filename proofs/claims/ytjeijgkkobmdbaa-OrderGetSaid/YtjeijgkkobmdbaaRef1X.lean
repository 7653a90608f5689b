/-
  Walks of the document's own answers for layer 1: GetFour, GetText.
-/
import Derived.Test.YtjeijgkkobmdbaaRef1W
import Derived.Test.YtjeijgkkobmdbaaGetT
namespace Go.Proofs.Ytjeijgkkobmdbaa
open Go.RowKit
set_option linter.unusedVariables false

set_option maxHeartbeats 2000000 in
theorem ref_getText (A : Option Addr) (n c B : Nat) (l : List UInt8) (w : World) (h : Lies w B 1 A n (l.map bv)) (hn : n ≤ 4611686018427387904) (hnc : n ≤ c) (hc : c ≤ maxLen) :
    Calls Try.prog 38 #[.slice A n c] w fun e w' => e = .returned (.tuple #[.string ⟨(getText l).1.toArray⟩, .int .i64 ((getText l).2.1 : Int), .int .i64 ((getText l).2.2 : Int)]) ∧ w = w' := by
  have hln : l.length = n := by simpa using h.len
  have HC := ref_get A n c B l w h hn
  unfold maxLen at hc
  rcases hg : Vi.get l with ⟨k, t, e⟩
  rw [hg] at HC
  have H := Lib.hid HC
  clear HC
  by_cases he : e = 0
  · subst he
    have hback := Vi.get_back l k t hg
    have ht : t ≤ n := by omega
    have ht1 : 1 ≤ t := hback.2.1
    have hk : k < 18446744073709551616 := hback.1
    have hsub : ((n - t : Nat) : Int) = (n : Int) - (t : Int) := by omega
    by_cases hs : n - t < k
    · have e1 : getText l = ([], 0, 5) := by unfold getText; rw [hg, hln, if_neg (by simp), if_pos hs]
      rw [e1]
      clear e1 hback hg hln h hsub
      have hx : (n : Int) - (t : Int) < (k : Int) := by omega
      go_enter Try.func38, Try.ntmps38
      go_wp2_with fail
      refine H.out.mono ?_
      rintro e1 w1 ⟨rfl, rfl⟩
      go_wp2
      go_ret3
      exact ⟨rfl, rfl⟩
    · have e1 : getText l = ((l.drop t).take k, t + k, 0) := by unfold getText; rw [hg, hln, if_neg (by simp), if_neg hs]
      rw [e1]
      obtain ⟨b, o, u, rfl, hbB, _, _⟩ := h.at_ (j := 0) (by omega)
      have hd : Lies w B 1 (some ⟨b, o + t, none⟩) k (((l.drop t).take k).map bv) := by
        have := (h.drop_ ht).take_ (m := k) (by omega)
        simp only [Option.map_some, add_lit] at this
        rw [List.map_take, List.map_drop]
        exact this
      clear e1 hback hg hln h hsub
      have hx : ¬ (n : Int) - (t : Int) < (k : Int) := by omega
      obtain ⟨r, hr0⟩ : ∃ r, (l.drop t).take k = r := ⟨_, rfl⟩
      rw [hr0] at hd
      have HR := Lib.hid hr0
      clear hr0
      go_enter Try.func38, Try.ntmps38
      go_wp2_with fail
      refine H.out.mono ?_
      rintro e1 w1 ⟨rfl, rfl⟩
      by_cases hct : c = t
      · have hk0 : k = 0 := by omega
        subst hk0
        have hr : r = [] := by have := hd.len; simpa using this
        subst hr
        have hstr := run_str (P := Try.prog) w 28 9 5 Try.underlying28 Try.underlying5 Try.underlying9 (l := []) 0 (Lies.none_ w B 1 (some ⟨b, o, none⟩))
        clear hd H
        go_wp2
        go_ret3
        exact ⟨by rw [HR.out]; rfl, rfl⟩
      · have hstr := run_str (P := Try.prog) w 28 9 5 Try.underlying28 Try.underlying5 Try.underlying9 (c - t) hd
        clear hd H
        go_wp2
        go_ret3
        exact ⟨by rw [HR.out]; rfl, rfl⟩
  · have e1 : getText l = ([], 0, e) := by unfold getText; rw [hg, if_pos he]
    rw [e1]
    clear e1 hg hln h
    have hne : ((e : Int) != 0) = true := by simp; omega
    go_enter Try.func38, Try.ntmps38
    go_wp2_with fail
    refine H.out.mono ?_
    rintro e1 w1 ⟨rfl, rfl⟩
    go_wp2
    go_ret3
    exact ⟨rfl, rfl⟩
end Go.Proofs.Ytjeijgkkobmdbaa
