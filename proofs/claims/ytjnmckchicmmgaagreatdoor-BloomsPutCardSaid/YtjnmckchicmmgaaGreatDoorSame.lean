/-
  Contracts of the laws' helpers: SameBytes.
-/
import Derived.Test.YtjnmckchicmmgaaGreatDoorMem
namespace Go.Proofs.YtjnmckchicmmgaaGreatDoor
open Go.RowKit
set_option linter.unusedVariables false

/-- are two lists of bytes the same? -/
def sameB (a b : List UInt8) : Bool := decide (a = b)
theorem sameB_self (a : List UInt8) : sameB a a = true := by simp [sameB]

set_option maxHeartbeats 2000000 in
theorem same_any (A A2 : Option Addr) (n m c c2 B : Nat) (l l2 : List UInt8) (w : World) (h1 : Lies w B 1 A n (l.map bv)) (h2 : Lies w B 1 A2 m (l2.map bv)) (hn : n ≤ 4611686018427387904) :
    Calls Tryz.prog 8 #[.slice A n c, .slice A2 m c2] w fun e w' => e = .returned (.bool (sameB l l2)) ∧ ∃ q, w' = w.drewN q := by
  have H1 := Lib.hid h1; clear h1
  have H2 := Lib.hid h2; clear h2
  by_cases hnm : n = m
  · subst hnm
    have hne : ((n : Int) != (n : Int)) = false := by simp
    go_enter Tryz.func8, Tryz.ntmps8
    go_wp2
    go_loopw [5] (fun i wr => ∃ k q : Nat, k ≤ n ∧ i = .int .i64 (k : Int) ∧ l.take k = l2.take k ∧ wr = w.drewN q) (fun i _ => n - (intOf i).toNat)
    case atStart => exact ⟨0, 0, Nat.zero_le _, rfl, by simp, rfl⟩
    case round =>
      obtain ⟨k, q, hk, rfl, heq, rfl⟩ := hrel
      have HE := Lib.hid heq; clear heq
      by_cases hlt : k < n
      · obtain ⟨b, o, x, rfl, _, hx, hc1⟩ := H1.out.byte hlt
        obtain ⟨b2, o2, y, rfl, _, hy, hc2⟩ := H2.out.byte hlt
        have g1 : (w.drewN q).cell? ⟨b, o + k, none⟩ = some (.int .u8 (x.toNat : Int)) := hc1
        have g2 : (w.drewN q).cell? ⟨b2, o2 + k, none⟩ = some (.int .u8 (y.toNat : Int)) := hc2
        have HX := Lib.hid hx; have HY := Lib.hid hy
        clear hx hy
        have hi : (k : Int) < (n : Int) := by omega
        have hi0 : (0 : Int) ≤ (k : Int) := by omega
        by_cases hxy : x = y
        · have hbq : ((x.toNat : Int) != (y.toNat : Int)) = false := by simp [hxy]
          have HT := Lib.hid (show l.take (k + 1) = l2.take (k + 1) from by rw [List.take_add_one, List.take_add_one, HE.out, HX.out, HY.out, hxy])
          have hl1 := x.toNat_lt
          generalize x.toNat = xn at *
          generalize y.toNat = yn at *
          clear hxy HX HY
          go_wp2
          go_quiet (fail)
          go_wp2
          go_roundw
          case rel => exact ⟨k + 1, _, hlt, by go_num, HT.out, by first | rfl | (rw [World.drewN_drewN])⟩
          case measure => simp [intOf]; omega
        · have hbq : ((x.toNat : Int) != (y.toNat : Int)) = true := by
            have : x.toNat ≠ y.toNat := fun h => hxy (UInt8.toNat_inj.1 h)
            simp; omega
          have HT := Lib.hid (show sameB l l2 = false from by
            unfold sameB
            have : l ≠ l2 := by
              rintro rfl
              rw [HX.out] at HY
              have := HY.out
              injection this with this
              exact hxy this
            simp [this])
          generalize x.toNat = xn at *
          generalize y.toNat = yn at *
          clear hxy HX HY
          go_wp2
          go_quiet (fail)
          go_wp2
          go_ret
          exact ⟨by rw [HT.out]; rfl, _, by first | rfl | (rw [World.drewN_drewN])⟩
      · have HT := Lib.hid (show sameB l l2 = true from by
          have e := HE.out
          rw [List.take_of_length_le (by have := H1.out.blen; omega), List.take_of_length_le (by have := H2.out.blen; omega)] at e
          rw [e]; exact sameB_self _)
        go_wp2
        go_ret
        exact ⟨by rw [HT.out]; rfl, _, rfl⟩
  · have hne : ((n : Int) != (m : Int)) = true := by simp; omega
    have HT := Lib.hid (show sameB l l2 = false from by
      unfold sameB
      have : l ≠ l2 := by
        rintro rfl
        have := H1.out.blen
        have := H2.out.blen
        omega
      simp [this])
    go_enter Tryz.func8, Tryz.ntmps8
    go_wp2
    go_ret
    exact ⟨by rw [HT.out]; rfl, 0, rfl⟩

end Go.Proofs.YtjnmckchicmmgaaGreatDoor
