/-
  Contracts of the laws' helpers over strings: SameTexts; All of package bucketlinelaw05.
-/
import Derived.Test.YtbpdonnneleeeaaFail
import Derived.Test.YtbpdonnneleeeaaStr
namespace Go.Proofs.Ytbpdonnneleeeaa
open Go.RowKit Go.Maps Go.Sort
set_option maxRecDepth 100000
set_option linter.unusedVariables false

abbrev sv (x : List UInt8) : Value := encStr x
theorem Lies.text {w : World} {B n k : Nat} {A : Option Addr} {l : List (List UInt8)} (h : Lies w B 1 A n (l.map sv)) (hk : k < n) :
    ∃ b o x, A = some ⟨b, o, none⟩ ∧ b < B ∧ l[k]? = some x ∧ w.cell? ⟨b, o + k, none⟩ = some (.string ⟨x.toArray⟩) := by
  obtain ⟨b, o, u, e, hb, hu, hc⟩ := h.at_ hk
  rw [List.getElem?_map] at hu
  cases hx : l[k]? with
  | none => rw [hx] at hu; cases hu
  | some x =>
    rw [hx] at hu
    injection hu with hu
    subst hu
    exact ⟨b, o, x, e, hb, rfl, hc⟩
theorem Lies.tlen {w : World} {B n : Nat} {A : Option Addr} {l : List (List UInt8)} (h : Lies w B 1 A n (l.map sv)) : l.length = n := by have := h.len; simp at this; exact this
/-- are two lists of bytes the same? -/
def sameT (a b : List (List UInt8)) : Bool := decide (a = b)
theorem sameT_self (a : List (List UInt8)) : sameT a a = true := by simp [sameT]

set_option maxHeartbeats 2000000 in
theorem texts_any (A A2 : Option Addr) (n m c c2 B : Nat) (l l2 : List (List UInt8)) (w : World) (h1 : Lies w B 1 A n (l.map sv)) (h2 : Lies w B 1 A2 m (l2.map sv)) (hn : n ≤ 4611686018427387904) :
    Calls Try.prog 26 #[.slice A n c, .slice A2 m c2] w fun e w' => e = .returned (.bool (sameT l l2)) ∧ ∃ q, w' = w.drewN q := by
  have H1 := Lib.hid h1; clear h1
  have H2 := Lib.hid h2; clear h2
  by_cases hnm : n = m
  · subst hnm
    have hne : ((n : Int) != (n : Int)) = false := by simp
    go_enter Try.func26, Try.ntmps26
    go_wp2
    go_loopw [5] (fun i wr => ∃ k q : Nat, k ≤ n ∧ i = .int .i64 (k : Int) ∧ l.take k = l2.take k ∧ wr = w.drewN q) (fun i _ => n - (intOf i).toNat)
    case atStart => exact ⟨0, 0, Nat.zero_le _, rfl, by simp, rfl⟩
    case round =>
      obtain ⟨k, q, hk, rfl, heq, rfl⟩ := hrel
      have HE := Lib.hid heq; clear heq
      by_cases hlt : k < n
      · obtain ⟨b, o, x, rfl, _, hx, hc1⟩ := H1.out.text hlt
        obtain ⟨b2, o2, y, rfl, _, hy, hc2⟩ := H2.out.text hlt
        have g1 : (w.drewN q).cell? ⟨b, o + k, none⟩ = some (.string ⟨x.toArray⟩) := hc1
        have g2 : (w.drewN q).cell? ⟨b2, o2 + k, none⟩ = some (.string ⟨y.toArray⟩) := hc2
        have HX := Lib.hid hx; have HY := Lib.hid hy
        clear hx hy
        have hi : (k : Int) < (n : Int) := by omega
        have hi0 : (0 : Int) ≤ (k : Int) := by omega
        by_cases hxy : x = y
        · have hbq : ((⟨x.toArray⟩ : ByteArray).toList == (⟨y.toArray⟩ : ByteArray).toList) = true := by rw [hxy]; exact beq_self_eq_true _
          have HT := Lib.hid (show l.take (k + 1) = l2.take (k + 1) from by rw [List.take_add_one, List.take_add_one, HE.out, HX.out, HY.out, hxy])
          generalize (⟨x.toArray⟩ : ByteArray) = xn at *
          generalize (⟨y.toArray⟩ : ByteArray) = yn at *
          clear hxy HX HY
          go_wp2
          go_quiet (fail)
          go_wp2
          go_roundw
          case rel => exact ⟨k + 1, _, hlt, by go_num, HT.out, by first | rfl | (rw [World.drewN_drewN])⟩
          case measure => simp [intOf]; omega
        · have hbq : ((⟨x.toArray⟩ : ByteArray).toList == (⟨y.toArray⟩ : ByteArray).toList) = false := by
            rw [Lib.toList_data, Lib.toList_data]
            exact beq_eq_false_iff_ne.2 (fun h => hxy (by simpa using h))
          have HT := Lib.hid (show sameT l l2 = false from by
            unfold sameT
            have : l ≠ l2 := by
              rintro rfl
              rw [HX.out] at HY
              have := HY.out
              injection this with this
              exact hxy this
            simp [this])
          generalize (⟨x.toArray⟩ : ByteArray) = xn at *
          generalize (⟨y.toArray⟩ : ByteArray) = yn at *
          clear hxy HX HY
          go_wp2
          go_quiet (fail)
          go_wp2
          go_ret
          exact ⟨by rw [HT.out]; rfl, _, by first | rfl | (rw [World.drewN_drewN])⟩
      · have HT := Lib.hid (show sameT l l2 = true from by
          have e := HE.out
          rw [List.take_of_length_le (by have := H1.out.tlen; omega), List.take_of_length_le (by have := H2.out.tlen; omega)] at e
          rw [e]; exact sameT_self _)
        go_wp2
        go_ret
        exact ⟨by rw [HT.out]; rfl, _, rfl⟩
  · have hne : ((n : Int) != (m : Int)) = true := by simp; omega
    have HT := Lib.hid (show sameT l l2 = false from by
      unfold sameT
      have : l ≠ l2 := by
        rintro rfl
        have := H1.out.tlen
        have := H2.out.tlen
        omega
      simp [this])
    go_enter Try.func26, Try.ntmps26
    go_wp2
    go_ret
    exact ⟨by rw [HT.out]; rfl, 0, rfl⟩


theorem str_eq {s : ByteArray} : (⟨s.data.toList.toArray⟩ : ByteArray) = s := by simp
end Go.Proofs.Ytbpdonnneleeeaa
