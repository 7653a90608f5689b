/-
  The walk of IntsAgain.
-/
import Derived.Test.YthjhoealkalfgaaIntsJoinW
import Derived.Deep.RegionWith
import Derived.Deep.RegionHeld3
namespace Go.Proofs.Ythjhoealkalfgaa
open Go.RowKit
set_option linter.unusedVariables false

/-- what is known of a slice of bytes that was answered, under one name -/
def Held (w : World) (l : List UInt8) (m g c : Nat) (w' : World) : Prop :=
  m = l.length ∧ w'.ownsRow w.heap.size 5 1 (.slice (some ⟨g, 0, none⟩) m c) m (l.map bv) ∧ Below w.heap.size w w'
theorem put_held (k : Nat) (w : World) (hk : k < 18446744073709551616) :
    Calls Try.prog 22 #[.slice none 0 0, .int .u64 (k : Int)] w fun e w' => ∃ m g c, e = .returned (.slice (some ⟨g, 0, none⟩) m c) ∧ Held w (Vi.enc k) m g c w' :=
  (put_one k w hk).mono fun e w' ⟨g, c, he, _, _, ho, hb⟩ => ⟨_, g, c, he, rfl, ho, hb⟩
theorem putText_held (s : ByteArray) (w : World) (hs : s.size ≤ 549755813888) :
    Calls Try.prog 24 #[.slice none 0 0, .string s] w fun e w' => ∃ m g c, e = .returned (.slice (some ⟨g, 0, none⟩) m c) ∧ Held w (Vi.enc s.size ++ s.data.toList) m g c w' :=
  (putText_one s w hs).mono fun e w' ⟨g, c, he, _, _, ho, hb⟩ => ⟨_, g, c, he, by rw [List.length_append, slen], ho, hb⟩

/-- nothing is asked of the world (a region without loads) -/
def Fine (_ : World) : Prop := True
theorem fine (w : World) : Fine w := trivial

set_option maxRecDepth 100000 in
set_option maxHeartbeats 4000000 in
theorem intsAgain_ok (A : Option Addr) (n c k t : Nat) (l : List UInt8) (w : World) (y : Lies w w.heap.size 1 A n (l.map bv)) (hnc : n ≤ c) (hc : c ≤ 140737488351232) (hbig : n ≤ 1048576) (hg : Vi.get l = (k, t, 0)) :
    Calls Try.prog 6 #[.slice A n c] w fun e w' => e = .returned (.bool true) ∧ Below w.heap.size w w' := by
  have Y := Lib.hid y; clear y
  have HCM : Hid (c ≤ maxLen) := by unfold maxLen Hid; omega
  have hback := Vi.get_back l k t hg
  have hln := Y.out.blen
  have ht1 : 1 ≤ t := hback.2.1
  have ht10 : t ≤ 10 := hback.2.2.1
  have htn : t ≤ n := by omega
  have hk : k < 18446744073709551616 := hback.1
  have HT := Lib.hid hback.2.2.2.2
  have HG := Lib.hid hg
  have HK := Lib.hid hk
  clear hback hln hg hk
  have htc : (t : Int) ≤ (c : Int) := by omega
  have htc2 : t ≤ c := by omega
  have ht0 : (0 : Int) ≤ (t : Int) := by omega
  have d1 : decide ((t : Int) < 1) = false := by simp; omega
  have d2 : decide ((n : Int) < (t : Int)) = false := by simp; omega
  have d2' : decide (n < t) = false := by simp; omega
  have d3 : decide ((10 : Int) < (t : Int)) = false := by simp; omega
  go_enter Try.func6, Try.ntmps6
  go_wp2_with fail
  refine (alive_any w).mono ?_
  rintro e w1 ⟨rfl, hb1⟩
  go_wp2_with fail
  refine (beyond_no n w1 hbig).mono ?_
  rintro e w2 ⟨rfl, hb2⟩
  have HB2 := Lib.hid (hb1.trans (hb2.mono hb1.size)); clear hb1 hb2
  go_wp2_with fail
  have G := get_any A n c l w2 ((Y.out.below HB2.out).more HB2.out.size) hnc HCM.out
  rw [HG.out] at G
  refine G.mono ?_
  rintro e w3 ⟨rfl, hb3⟩
  have HB3 := Lib.hid (HB2.out.trans (hb3.mono HB2.out.size)); clear hb3 HB2 G
  have SF : Hid (∀ (w4 : World) (m4 g4 c4 : Nat), Held w3.drew (Vi.enc k) m4 g4 c4 w4 →
      Calls Try.prog 23 #[.slice (some ⟨g4, 0, none⟩) m4 c4, .slice A t c] w4 fun e w' => e = .returned (.bool true) ∧ ∃ q, w' = w4.drewN q) := by
    intro w4 m4 g4 c4 ⟨hm, ho, h⟩
    have hb := HB3.out.drew.trans (h.mono HB3.out.size)
    have hl := (((Y.out.below hb).more hb.size).take_ htn)
    rw [← List.map_take, HT.out] at hl
    have s := same_any (some ⟨g4, 0, none⟩) A _ t c4 c w4.heap.size (Vi.enc k) (Vi.enc k) w4 (Lies.of_own ho) hl (by have := Vi.enc_len k; omega)
    rw [sameB_self] at s
    exact s
  go_wp2_with fail
  go_region_held3 (fun w' => Fine w') (exact fine _)
    (first
    | (go_at_call 22; refine (put_held k _ HK.out).mono ?_; rintro e w4 ⟨m4, g4, c4, rfl, hf4⟩)
    | (go_at_call 23; refine (SF.out w4 m4 g4 c4 hf4).mono ?_; rintro e w5 ⟨rfl, q, rfl⟩))
  have HB5 : Hid (Below w.heap.size w (w4.drewN q)) := below_drewN (HB3.out.drew.trans (hf4.2.2.mono HB3.out.size)) q
  clear SF hf4 HB3
  have GT := getText_any A n c l (w4.drewN q) ((Y.out.below HB5.out).more HB5.out.size) hnc HCM.out
  by_cases hs : n - t < k
  · have e1 : getText l = ([], 0, 5) := by unfold getText; rw [HG.out, Y.out.blen, if_neg (by simp), if_pos hs]
    rw [e1] at GT
    have G5 := Lib.hid GT
    clear e1 GT
    have hx : (n : Int) - (t : Int) < (k : Int) := by omega
    go_wp2_with fail
    refine G5.out.mono ?_
    rintro e w6 ⟨rfl, hb6⟩
    have HB6 := Lib.hid (HB5.out.trans (hb6.mono HB5.out.size)); clear hb6 HB5 G5
    go_wp2
    go_ret
    exact ⟨rfl, HB6.out⟩
  · have e1 : getText l = ((l.drop t).take k, t + k, 0) := by unfold getText; rw [HG.out, Y.out.blen, if_neg (by simp), if_neg hs]
    rw [e1] at GT
    obtain ⟨sB, hsB⟩ : ∃ s : ByteArray, s = ⟨((l.drop t).take k).toArray⟩ := ⟨_, rfl⟩
    rw [← hsB] at GT
    have hlist : sB.data.toList = (l.drop t).take k := by rw [hsB]
    have hsz : sB.size = k := by
      have := slen sB
      rw [hlist] at this
      have hl := Y.out.blen
      simp at this
      omega
    have G5 := Lib.hid GT
    have HL := Lib.hid hlist
    have HSZ := Lib.hid hsz
    have hkk : k ≤ 1048576 := by omega
    have htk : t + k ≤ n := by omega
    clear e1 GT hsB hlist hsz
    go_wp2_with fail
    refine G5.out.mono ?_
    rintro e w6 ⟨rfl, hb6⟩
    have HB6 := Lib.hid (HB5.out.trans (hb6.mono HB5.out.size)); clear hb6 HB5 G5
    have hs47 : sB.size ≤ 1048576 := by rw [HSZ.out]; exact hkk
    have SF : Hid (∀ (w7 : World) (m7 g7 c7 : Nat), Held w6.drew (Vi.enc sB.size ++ sB.data.toList) m7 g7 c7 w7 →
        Calls Try.prog 23 #[.slice (some ⟨g7, 0, none⟩) m7 c7, .slice A (t + k) c] w7 fun e w' => e = .returned (.bool true) ∧ ∃ q, w' = w7.drewN q) := by
      intro w7 m7 g7 c7 ⟨hm, ho, h⟩
      have hb := HB6.out.drew.trans (h.mono HB6.out.size)
      have hl := (((Y.out.below hb).more hb.size).take_ htk)
      have hll := Y.out.blen
      have hm2 : m7 = t + k := by
        rw [hm, List.length_append, slen, HSZ.out]
        have := congrArg List.length HT.out
        simp at this
        omega
      have he : l.take (t + k) = Vi.enc sB.size ++ sB.data.toList := by
        rw [HL.out, HSZ.out, ← HT.out, List.take_add]
      rw [← List.map_take, he] at hl
      have s := same_any (some ⟨g7, 0, none⟩) A _ (t + k) c7 c w7.heap.size _ _ w7 (Lies.of_own ho) hl (by omega)
      rw [sameB_self] at s
      exact s
    have htc3 : ((t : Int) + (k : Int)) ≤ (c : Int) := by omega
    have htc4 : (0 : Int) ≤ (t : Int) + (k : Int) := by omega
    have htn5 : ((t : Int) + (k : Int)).toNat = t + k := by omega
    have PF : Hid (∀ W, Calls Try.prog 24 #[.slice none 0 0, .string sB] W fun e w' => ∃ m g c, e = .returned (.slice (some ⟨g, 0, none⟩) m c) ∧ Held W (Vi.enc sB.size ++ sB.data.toList) m g c w') := fun W => putText_held sB W (by omega)
    have hsz := HSZ.out
    have hwk : IntKind.u64.wrap (k : Int) = (k : Int) := wrap_u64_nat k (by omega)
    have hwi : IntKind.i64.wrap ((t : Int) + (k : Int)) = (t : Int) + (k : Int) := IntWalk.i64_in _ (by omega)
    clear HSZ hs47
    go_wp2_with fail
    go_region_held3 (fun w' => Fine w') (exact fine _)
      (first
      | (go_at_call 24; refine (PF.out _).mono ?_; rintro e w7 ⟨m7, g7, c7, rfl, hf7⟩)
      | (go_at_call 23; refine (SF.out w7 m7 g7 c7 hf7).mono ?_; rintro e w8 ⟨rfl, q8, rfl⟩))
    have HB8 : Hid (Below w.heap.size w (w7.drewN q8)) := below_drewN (HB6.out.drew.trans (hf7.2.2.mono HB6.out.size)) q8
    clear SF PF hf7 HB6
    go_wp2
    go_ret
    exact ⟨rfl, HB8.out⟩

set_option maxRecDepth 100000 in
set_option maxHeartbeats 4000000 in
theorem intsAgain_bad (A : Option Addr) (n c e : Nat) (l : List UInt8) (w : World) (y : Lies w w.heap.size 1 A n (l.map bv)) (hnc : n ≤ c) (hc : c ≤ 140737488351232) (hbig : n ≤ 1048576) (hg : Vi.get l = (0, 0, e)) (he : e = 5 ∧ n < 10 ∨ e = 4 ∧ 1 < n) :
    Calls Try.prog 6 #[.slice A n c] w fun e w' => e = .returned (.bool true) ∧ Below w.heap.size w w' := by
  have Y := Lib.hid y; clear y
  have HCM : Hid (c ≤ maxLen) := by unfold maxLen Hid; omega
  have HG := Lib.hid hg
  clear hg
  go_enter Try.func6, Try.ntmps6
  go_wp2_with fail
  refine (alive_any w).mono ?_
  rintro e w1 ⟨rfl, hb1⟩
  go_wp2_with fail
  refine (beyond_no n w1 hbig).mono ?_
  rintro e w2 ⟨rfl, hb2⟩
  have HB2 := Lib.hid (hb1.trans (hb2.mono hb1.size)); clear hb1 hb2
  go_wp2_with fail
  have G := get_any A n c l w2 ((Y.out.below HB2.out).more HB2.out.size) hnc HCM.out
  rw [HG.out] at G
  refine G.mono ?_
  rintro e' w3 ⟨rfl, hb3⟩
  have HB3 := Lib.hid (HB2.out.trans (hb3.mono HB2.out.size)); clear hb3 HB2 G
  rcases he with ⟨rfl, h10⟩ | ⟨rfl, h1⟩
  · have hd : decide ((n : Int) < 10) = true := by simp; omega
    go_wp2
    go_ret
    exact ⟨rfl, HB3.out⟩
  · have hd : decide ((1 : Int) < (n : Int)) = true := by simp; omega
    go_wp2
    go_ret
    exact ⟨rfl, HB3.out⟩

set_option maxHeartbeats 2000000 in
theorem intsAgain_yes (A : Option Addr) (n c : Nat) (w : World) (hnc : n ≤ c) (hc : c ≤ 140737488351232) (hbig : 1048576 < n) :
    Calls Try.prog 6 #[.slice A n c] w fun e w' => e = .returned (.bool true) ∧ Below w.heap.size w w' := by
  go_enter Try.func6, Try.ntmps6
  go_wp2_with fail
  refine (alive_any w).mono ?_
  rintro e w1 ⟨rfl, hb1⟩
  go_wp2_with fail
  refine (beyond_yes n w1 (by omega) hbig).mono ?_
  rintro e w2 ⟨rfl, hb2⟩
  have HB := Lib.hid (hb1.trans (hb2.mono hb1.size)); clear hb1 hb2
  go_wp2_with fail
  refine (alive_any w2).mono ?_
  rintro e w3 ⟨rfl, hb3⟩
  have HB3 := Lib.hid (HB.out.trans (hb3.mono HB.out.size)); clear hb3 HB
  go_wp2
  go_ret
  exact ⟨rfl, HB3.out⟩

theorem intsAgain_walk (A : Option Addr) (n c : Nat) (l : List UInt8) (w : World) (y : Lies w w.heap.size 1 A n (l.map bv)) (hnc : n ≤ c) (hc : c ≤ 140737488351232) :
    Calls Try.prog 6 #[.slice A n c] w fun e w' => e = .returned (.bool true) ∧ Below w.heap.size w w' := by
  by_cases hbig : 1048576 < n
  · exact intsAgain_yes A n c w hnc hc hbig
  · rcases hg : Vi.get l with ⟨k, t, e⟩
    by_cases he : e = 0
    · subst he
      exact intsAgain_ok A n c k t l w y hnc hc (by omega) hg
    · obtain ⟨rfl, rfl, h⟩ := Vi.get_bad l k t e hg he
      exact intsAgain_bad A n c e l w y hnc hc (by omega) hg (by have := y.blen; omega)
end Go.Proofs.Ythjhoealkalfgaa
