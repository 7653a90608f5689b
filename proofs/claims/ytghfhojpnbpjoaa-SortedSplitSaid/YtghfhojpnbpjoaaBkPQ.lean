/-
  Contracts of package blocks: Put, Get, Seek.
  Contracts of package blocks: Seek.
-/
import Derived.Test.YtghfhojpnbpjoaaBkFG
import Derived.Test.YtghfhojpnbpjoaaBkKO
import Derived.Test.YtghfhojpnbpjoaaCutE
import Derived.Test.YtghfhojpnbpjoaaInA
namespace Go.Proofs.Ytghfhojpnbpjoaa
open Go.RowKit
set_option linter.unusedVariables false
set_option maxRecDepth 100000

/-- what Put answers -/
def BPut (w : World) (S : List En) (e : Ending) (w' : World) : Prop :=
  Below w.heap.size w w' ∧ (okB S = true → ∃ A c, e = .returned (.tuple #[.slice A (encB S).length c, .int .i64 0]) ∧ w'.ownsRow w.heap.size 5 1 (.slice A (encB S).length c) (encB S).length ((encB S).map bv)) ∧
    (okB S = false → e = .returned (.tuple #[.slice none 0 0, .int .i64 1]))
set_option maxHeartbeats 1000000 in
theorem bput_any (S : List En) (hsq : ∀ e ∈ S, e.m.s < 18446744073709551616) (A : Option Addr) (n c B : Nat) (w : World) (hL : EL w B A n c S) :
    Calls Try.prog 74 #[.slice A n c] w (BPut w S) := by
  have HM := Lib.hid (make_any S A n c B w hL)
  have HL := Lib.hid hL; have HS := Lib.hid hsq
  obtain ⟨b, hb⟩ : ∃ b, okB S = b := ⟨_, rfl⟩
  have HOk := Lib.hid hb
  rw [hb] at HM
  clear hL hsq hb
  cases b
  · have HF : Hid (∀ w', Below w.heap.size w w' → BPut w S (.returned (.tuple #[.slice none 0 0, .int .i64 1])) w') := fun w' h => ⟨h, (fun q => by rw [HOk.out] at q; cases q), fun _ => rfl⟩
    go_enter Try.func74, Try.ntmps74
    go_wp2_with fail
    refine HM.out.mono ?_
    rintro e w1 ⟨rfl, hb1⟩
    have HF1 := Lib.hid (HF.out w1 hb1)
    clear hb1 HF HM
    go_wp2
    go_ret2
    exact HF1.out
  · go_enter Try.func74, Try.ntmps74
    go_wp2_with fail
    refine HM.out.mono ?_
    rintro e w1 ⟨rfl, hb1⟩
    have HE := Lib.hid (enc_any S HOk.out HS.out A n c B w1 (HL.out.below hb1))
    have HB1 := Lib.hid hb1
    clear hb1 HM
    go_wp2_with fail
    refine HE.out.mono ?_
    rintro e w2 ⟨v, rfl, ho, hb2⟩
    obtain ⟨A2, c2, rfl, _⟩ := own_shape ho
    have HF : Hid (BPut w S (.returned (.tuple #[.slice A2 (encB S).length c2, .int .i64 0])) w2) := ⟨HB1.out.trans (hb2.mono HB1.out.size), (fun _ => ⟨A2, c2, rfl, own_base ho HB1.out.size⟩), fun q => by rw [HOk.out] at q; cases q⟩
    clear ho hb2 HE HB1
    go_wp2
    go_ret2
    exact HF.out

theorem equal_any (A1 A2 : Option Addr) (n1 n2 c1 c2 B1 B2 : Nat) (l1 l2 : List UInt8) (w : World) (h1 : Lies w B1 1 A1 n1 (l1.map bv)) (h2 : Lies w B2 1 A2 n2 (l2.map bv)) :
    Calls Try.prog 31 #[.slice A1 n1 c1, .slice A2 n2 c2] w fun e w' => e = .returned (.bool (decide (l1 = l2))) ∧ w = w' := by
  have s1 := run_str (P := Try.prog) w 25 9 5 Try.underlying25 Try.underlying5 Try.underlying9 c1 h1
  have s2 := run_str (P := Try.prog) w 25 9 5 Try.underlying25 Try.underlying5 Try.underlying9 c2 h2
  have hq : ((⟨l1.toArray⟩ : ByteArray).toList == (⟨l2.toArray⟩ : ByteArray).toList) = decide (l1 = l2) := by
    rw [Lib.toList_data, Lib.toList_data, Bool.eq_iff_iff, beq_iff_eq, decide_eq_true_eq]
  have hq2 : (l1 == l2) = decide (l1 = l2) := by rw [Bool.eq_iff_iff, beq_iff_eq, decide_eq_true_eq]
  obtain ⟨b, hb⟩ : ∃ b, decide (l1 = l2) = b := ⟨_, rfl⟩
  rw [hb] at hq hq2 ⊢
  clear hb h1 h2
  go_enter Try.func31, Try.ntmps31
  go_wp2
  go_ret
  exact ⟨rfl, rfl⟩

/-- what Get answers -/
def BGet (w : World) (o : Option (List En)) (e : Ending) (w' : World) : Prop :=
  Below w.heap.size w w' ∧ (∀ S, o = some S → ∃ A c, e = .returned (.tuple #[.slice A S.length c, .int .i64 0]) ∧ w'.ownsRow w.heap.size 40 4 (.slice A S.length c) S.length (ecs S) ∧ ∀ x ∈ S, szE x) ∧
    (o = none → e = .returned (.tuple #[.slice none 0 0, .int .i64 4]))
set_option maxHeartbeats 2000000 in
theorem bget_any (A : Option Addr) (n c : Nat) (l : List UInt8) (w : World) (h : Lies w w.heap.size 1 A n (l.map bv)) (hnc : n ≤ c) (hc : c ≤ maxLen) (hl : n ≤ 1000000) :
    Calls Try.prog 11 #[.slice A n c] w (BGet w (getB l)) := by
  have HD := Lib.hid (decoded_any A n c l w h hnc hc hl)
  have HL := Lib.hid h
  obtain ⟨o, ho⟩ : ∃ o, getB l = o := ⟨_, rfl⟩
  have HO := Lib.hid ho
  rw [ho]
  rcases hT : decB l with ⟨S, ok⟩
  have HT := Lib.hid hT
  rw [hT] at HD
  have HF : Hid (o = none → ∀ w', Below w.heap.size w w' → BGet w o (.returned (.tuple #[.slice none 0 0, .int .i64 4])) w') := fun q w' hb => ⟨hb, (fun S e => by rw [q] at e; cases e), fun _ => rfl⟩
  clear h ho hT
  go_enter Try.func11, Try.ntmps11
  go_wp2_with fail
  refine HD.out.mono ?_
  rintro e w1 ⟨A1, n1, c1, rfl, hown, hsz, hb⟩
  have hS : n1 = S.length := by have := (Lies.of_own hown).elen; exact this.symm
  obtain ⟨A1', c1', hv, hn1, hcc, _⟩ := own_shape hown
  injection hv with e1 e2 e3
  subst e1 e3
  have HOw := Lib.hid hown; have HS := Lib.hid hS; have HSz := Lib.hid hsz; have HB := Lib.hid hb
  cases ok
  · have HN : Hid (o = none) := by unfold Hid; rw [← HO.out]; unfold getB; rw [HT.out, if_neg (by rintro ⟨q, _⟩; cases q)]
    have HF1 := Lib.hid (HF.out HN.out w1 hb)
    clear hown hS hsz hb HF HD
    go_wp2
    go_ret2
    exact HF1.out
  · have hEL : EL w1 w1.heap.size A1 n1 c1 S := ⟨Lies.of_own hown, Nat.le_refl _, hn1, hcc, fun x hx => by have := hsz x hx; unfold szE at this; exact ⟨by omega, by omega⟩⟩
    have HEL := Lib.hid hEL
    have HM := Lib.hid (make_any S A1 n1 c1 _ w1 hEL)
    obtain ⟨b, hb2⟩ : ∃ b, okB S = b := ⟨_, rfl⟩
    have HOk := Lib.hid hb2
    rw [hb2] at HM
    clear hown hS hsz hb HD hEL hb2
    cases b
    · have HN : Hid (o = none) := by unfold Hid; rw [← HO.out]; unfold getB; rw [HT.out, if_neg (by rintro ⟨_, q, _⟩; rw [HOk.out] at q; cases q)]
      go_wp2_with fail
      refine HM.out.mono ?_
      rintro e w2 ⟨rfl, hb2⟩
      have HF1 := Lib.hid (HF.out HN.out w2 (HB.out.trans (hb2.mono HB.out.size)))
      clear hb2 HM HF
      go_wp2
      go_ret2
      exact HF1.out
    · go_wp2_with fail
      refine HM.out.mono ?_
      rintro e w2 ⟨rfl, hb2⟩
      have hbw2 := HB.out.trans (hb2.mono HB.out.size)
      have HE := Lib.hid (enc_any S HOk.out (fun x hx => (HSz.out x hx).2.2) A1 n1 c1 _ w2 (HEL.out.below hb2))
      have HB2 := Lib.hid hb2; have HBW := Lib.hid hbw2
      clear hb2 hbw2 HM
      go_wp2_with fail
      refine HE.out.mono ?_
      rintro e w3 ⟨v, rfl, ho3, hb3⟩
      obtain ⟨A3, c3, rfl, _⟩ := own_shape ho3
      have hbw3 := HBW.out.trans (hb3.mono HBW.out.size)
      have HQ := Lib.hid (equal_any A3 A (encB S).length n c3 c _ _ (encB S) l w3 (Lies.of_own ho3) (HL.out.below hbw3))
      have hown3 := own_below (own_below HOw.out HB2.out) hb3
      have HOw3 := Lib.hid hown3; have HB3 := Lib.hid hbw3
      obtain ⟨q, hq⟩ : ∃ q, decide (encB S = l) = q := ⟨_, rfl⟩
      have HQd := Lib.hid hq
      rw [hq] at HQ
      clear ho3 hb3 hbw3 hown3 hq HE
      go_wp2_with fail
      refine HQ.out.mono ?_
      rintro e w4 ⟨rfl, rfl⟩
      clear HQ
      cases q
      · have HN : Hid (o = none) := by unfold Hid; rw [← HO.out]; unfold getB; rw [HT.out, if_neg (by rintro ⟨_, _, q⟩; exact of_decide_eq_false HQd.out q)]
        have HF1 := Lib.hid (HF.out HN.out w3 HB3.out)
        clear HF
        go_wp2
        go_ret2
        exact HF1.out
      · have HN : Hid (o = some S) := by unfold Hid; rw [← HO.out]; unfold getB; rw [HT.out, if_pos ⟨rfl, HOk.out, of_decide_eq_true HQd.out⟩]
        have HF1 : Hid (BGet w o (.returned (.tuple #[.slice A1 n1 c1, .int .i64 0])) w3) := ⟨HB3.out, (fun S' e => by
          rw [HN.out] at e; injection e with e; subst e
          refine ⟨A1, c1, by rw [HS.out], ?_, HSz.out⟩
          have := HOw3.out
          rw [HS.out] at this; exact this), fun e => by rw [HN.out] at e; cases e⟩
        clear HF
        go_wp2
        go_ret2
        exact HF1.out
end Go.Proofs.Ytghfhojpnbpjoaa

namespace Go.Proofs.Ytghfhojpnbpjoaa
open Go.RowKit
set_option linter.unusedVariables false
set_option maxRecDepth 100000

theorem MkAt.below {w w' : World} {g B : Nat} {m : Mk} (h : MkAt w g m) (hb : Below B w w') (hg : g < B) : MkAt w' g m := (hb.block g hg).trans h
theorem MkAt.lt {w : World} {g : Nat} {m : Mk} (h : MkAt w g m) : g < w.heap.size := (Array.getElem?_eq_some_iff.1 h).1

def SkR (w0 : World) (g : Nat) (m : Mk) (A : Option Addr) (n B base c : Nat) (S : List En) (W : World) : Prop :=
  Below w0.heap.size w0 W ∧ MkAt W g m ∧ (B ≤ W.heap.size ∧ Lies W B 4 A n (ecs S)) ∧ W.ownsRow base 40 4 (.slice A n c) n (ecs S)
theorem SkR.up {w0 W W' : World} {g n B base c : Nat} {m : Mk} {A : Option Addr} {S : List En} (h : SkR w0 g m A n B base c S W) (hb : Below W.heap.size W W') : SkR w0 g m A n B base c S W' :=
  ⟨h.1.trans (hb.mono h.1.size), h.2.1.below hb h.2.1.lt, ⟨Nat.le_trans h.2.2.1.1 hb.size, h.2.2.1.2.keep fun p hp => hb.cell (Nat.lt_of_lt_of_le hp h.2.2.1.1)⟩, own_below h.2.2.2 hb⟩
def befAt (S : List En) (m : Mk) (k : Nat) : Bool := match S[k]? with | some x => bef m x | none => false
/-- as many are passed as stand ahead of the mark -/
theorem bef_passed (m : Mk) : ∀ (S : List En) (k : Nat), k ≤ S.length → (∀ j, j < k → befAt S m j = true) → (k < S.length → befAt S m k = false) → S.drop k = fromM S m
  | [], k, hk, _, _ => by simp [fromM]
  | x :: S, 0, _, _, h3 => by
    have := h3 (by simp)
    unfold befAt at this
    simp at this
    unfold fromM
    rw [List.drop_zero, List.dropWhile_cons, if_neg (by simp [this])]
  | x :: S, k + 1, hk, h2, h3 => by
    have h0 := h2 0 (by omega)
    unfold befAt at h0
    simp at h0
    have ih := bef_passed m S k (by simpa using hk) (fun j hj => by have := h2 (j + 1) (by omega); unfold befAt at this ⊢; simpa using this) (fun hl => by have := h3 (by simpa using hl); unfold befAt at this ⊢; simpa using this)
    unfold fromM at ih ⊢
    rw [List.drop_succ_cons, List.dropWhile_cons, if_pos h0, ih]

/-- what Seek answers: a part of a row of its own -/
def BSeek (w : World) (o : Option (List En)) (m : Mk) (e : Ending) (w' : World) : Prop :=
  Below w.heap.size w w' ∧ (∀ S, o = some S → ∃ A c k, e = .returned (.tuple #[.slice (cutE A c k) (S.length - k) (c - k), .int .i64 0]) ∧ k ≤ S.length ∧ S.drop k = fromM S m ∧ w'.ownsRow w.heap.size 40 4 (.slice A S.length c) S.length (ecs S) ∧ ∀ x ∈ S, szE x) ∧
    (o = none → e = .returned (.tuple #[.slice none 0 0, .int .i64 4]))
end Go.Proofs.Ytghfhojpnbpjoaa

