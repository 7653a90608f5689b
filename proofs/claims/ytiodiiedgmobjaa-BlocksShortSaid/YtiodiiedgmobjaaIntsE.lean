/-
  Contracts of package ints: GetText.
-/
import Derived.Test.YtiodiiedgmobjaaStr
import Derived.Test.YtiodiiedgmobjaaIntsB
import Derived.Test.YtiodiiedgmobjaaIntsD
namespace Go.Proofs.Ytiodiiedgmobjaa
open Go.RowKit
set_option linter.unusedVariables false
set_option maxRecDepth 100000

/-- what GetText answers -/
def getText (l : List UInt8) : List UInt8 × Nat × Nat :=
  if (Vi.get l).2.2 ≠ 0 then ([], 0, (Vi.get l).2.2)
  else if l.length - (Vi.get l).2.1 < (Vi.get l).1 then ([], 0, 5)
  else ((l.drop (Vi.get l).2.1).take (Vi.get l).1, (Vi.get l).2.1 + (Vi.get l).1, 0)

set_option maxHeartbeats 1000000 in
theorem getText_bad (A : Option Addr) (n c : Nat) (l : List UInt8) (w : World) (h : Lies w w.heap.size 1 A n (l.map bv)) (hnc : n ≤ c) (hc : c ≤ maxLen) (k t e : Nat) (hg : Vi.get l = (k, t, e)) (he : e ≠ 0) :
    Calls Try.prog 60 #[.slice A n c] w fun e' w' => e' = .returned (.tuple #[.string ⟨#[]⟩, .int .i64 0, .int .i64 (e : Int)]) ∧ Below w.heap.size w w' := by
  have HC := get_any A n c l w h hnc hc
  rw [hg] at HC
  have H := Lib.hid HC
  clear HC h hg
  have hne : ((e : Int) != 0) = true := by simp; omega
  go_enter Try.func60, Try.ntmps60
  go_wp2_with fail
  refine H.out.mono ?_
  rintro e1 w1 ⟨rfl, hb⟩
  go_wp2
  go_ret3
  exact ⟨rfl, hb⟩
set_option maxHeartbeats 1000000 in
theorem getText_short (A : Option Addr) (n c : Nat) (l : List UInt8) (w : World) (h : Lies w w.heap.size 1 A n (l.map bv)) (hnc : n ≤ c) (hc : c ≤ maxLen) (k t : Nat) (hg : Vi.get l = (k, t, 0)) (hs : n - t < k) :
    Calls Try.prog 60 #[.slice A n c] w fun e' w' => e' = .returned (.tuple #[.string ⟨#[]⟩, .int .i64 0, .int .i64 5]) ∧ Below w.heap.size w w' := by
  have HC := get_any A n c l w h hnc hc
  rw [hg] at HC
  have H := Lib.hid HC
  have hback := Vi.get_back l k t hg
  have hln : l.length = n := by simpa using h.len
  have ht : t ≤ n := by omega
  have hk : k < 18446744073709551616 := hback.1
  unfold maxLen at hc
  clear HC h hg hback hln
  go_enter Try.func60, Try.ntmps60
  go_wp2_with fail
  refine H.out.mono ?_
  rintro e1 w1 ⟨rfl, hb⟩
  go_wp2
  all_goals go_ret3
  all_goals exact ⟨rfl, hb⟩
set_option maxHeartbeats 1000000 in
theorem getText_ok (A : Option Addr) (n c : Nat) (l : List UInt8) (w : World) (h : Lies w w.heap.size 1 A n (l.map bv)) (hnc : n ≤ c) (hc : c ≤ maxLen) (k t : Nat) (hg : Vi.get l = (k, t, 0)) (hs : k ≤ n - t) :
    Calls Try.prog 60 #[.slice A n c] w fun e' w' => e' = .returned (.tuple #[.string ⟨((l.drop t).take k).toArray⟩, .int .i64 ((t + k : Nat) : Int), .int .i64 0]) ∧ Below w.heap.size w w' := by
  have HC := get_any A n c l w h hnc hc
  rw [hg] at HC
  have H := Lib.hid HC
  have hback := Vi.get_back l k t hg
  have hln : l.length = n := by simpa using h.len
  have ht : t ≤ n := by omega
  have hk : k < 18446744073709551616 := hback.1
  obtain ⟨b, o, u, rfl, hbB, _, _⟩ := h.at_ (j := 0) (by omega)
  have hd : Lies w w.heap.size 1 (some ⟨b, o + t, none⟩) k (((l.drop t).take k).map bv) := by
    have := (h.drop_ ht).take_ hs
    simp only [Option.map_some, add_lit] at this
    rw [List.map_take, List.map_drop]
    exact this
  unfold maxLen at hc
  clear HC hg hback hln h
  go_enter Try.func60, Try.ntmps60
  go_wp2_with fail
  refine H.out.mono ?_
  rintro e1 w1 ⟨rfl, hb⟩
  have hd2 := hd.below hb
  clear hd
  obtain ⟨r, hr0⟩ : ∃ r, (l.drop t).take k = r := ⟨_, rfl⟩
  rw [hr0] at hd2
  have HR := Lib.hid hr0
  clear hr0
  by_cases hct : c = t
  · have hk0 : k = 0 := by omega
    subst hk0
    have hr : r = [] := by have := hd2.len; simpa using this
    subst hr
    have hstr := run_str (P := Try.prog) w1 23 9 5 Try.underlying23 Try.underlying5 Try.underlying9 (l := []) 0 (Lies.none_ w1 w.heap.size 1 (some ⟨b, o, none⟩))
    clear hd2 H
    go_wp2
    go_ret3
    exact ⟨by rw [HR.out]; rfl, hb⟩
  · have hstr := run_str (P := Try.prog) w1 23 9 5 Try.underlying23 Try.underlying5 Try.underlying9 (c - t) hd2
    clear hd2 H
    go_wp2
    go_ret3
    exact ⟨by rw [HR.out]; rfl, hb⟩
theorem getText_any (A : Option Addr) (n c : Nat) (l : List UInt8) (w : World) (h : Lies w w.heap.size 1 A n (l.map bv)) (hnc : n ≤ c) (hc : c ≤ maxLen) :
    Calls Try.prog 60 #[.slice A n c] w fun e' w' => e' = .returned (.tuple #[.string ⟨(getText l).1.toArray⟩, .int .i64 ((getText l).2.1 : Int), .int .i64 ((getText l).2.2 : Int)]) ∧ Below w.heap.size w w' := by
  have hln : l.length = n := by simpa using h.len
  rcases hg : Vi.get l with ⟨k, t, e⟩
  by_cases he : e = 0
  · subst he
    by_cases hs : n - t < k
    · have e1 : getText l = ([], 0, 5) := by unfold getText; rw [hg, hln, if_neg (by simp), if_pos hs]
      rw [e1]
      exact getText_short A n c l w h hnc hc k t hg hs
    · have e1 : getText l = ((l.drop t).take k, t + k, 0) := by unfold getText; rw [hg, hln, if_neg (by simp), if_neg hs]
      rw [e1]
      exact getText_ok A n c l w h hnc hc k t hg (by omega)
  · have e1 : getText l = ([], 0, e) := by unfold getText; rw [hg, if_pos he]
    rw [e1]
    exact getText_bad A n c l w h hnc hc k t e hg he

end Go.Proofs.Ytiodiiedgmobjaa
