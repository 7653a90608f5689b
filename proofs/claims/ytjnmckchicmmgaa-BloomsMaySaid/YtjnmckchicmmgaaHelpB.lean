/-
  Contracts of the laws' helpers: LeftBytes.
-/
import Derived.Test.YtjnmckchicmmgaaTwin
namespace Go.Proofs.Ytjnmckchicmmgaa
open Go.RowKit
set_option linter.unusedVariables false

set_option maxHeartbeats 2000000 in
/-- a copy that nobody touched is still what it was made of, its mark too -/
theorem left_any (A : Option Addr) (g og n c c2 B : Nat) (l : List UInt8) (w : World) (h1 : Lies w B 1 (some ⟨g, og, none⟩) (n + 1) ((l ++ [77]).map bv)) (hc1 : n + 1 ≤ c) (hc2 : c ≤ maxLen) (h2 : Lies w B 1 A n (l.map bv)) :
    Calls Try.prog 11 #[.slice (some ⟨g, og, none⟩) n c, .slice A n c2] w fun e w' => e = .returned (.bool true) ∧ ∃ q, w' = w.drewN q := by
  unfold maxLen at hc2
  have H1 := Lib.hid h1; clear h1
  have H2 := Lib.hid h2; clear h2
  have hne : ((n : Int) != (n : Int)) = false := by simp
  have hle : decide ((c : Int) ≤ (n : Int)) = false := by simp; omega
  have hle2 : decide (c ≤ n) = false := by simp; omega
  go_enter Try.func11, Try.ntmps11
  go_wp2
  go_loopw [5] (fun i wr => ∃ k q : Nat, k ≤ n ∧ i = .int .i64 (k : Int) ∧ wr = w.drewN q) (fun i _ => n - (intOf i).toNat)
  case atStart => exact ⟨0, 0, Nat.zero_le _, rfl, rfl⟩
  case round =>
    obtain ⟨k, q, hk, rfl, rfl⟩ := hrel
    by_cases hlt : k < n
    · obtain ⟨b, o, x, hbo, _, hx, hc1'⟩ := H1.out.byte (k := k) (by omega)
      injection hbo with hbo
      injection hbo with hb0 ho0
      subst hb0 ho0
      obtain ⟨b2, o2, y, rfl, _, hy, hc2'⟩ := H2.out.byte hlt
      have hxy : x = y := by
        rw [List.getElem?_append_left (by have := H2.out.blen; omega), hy] at hx
        injection hx with hx
        exact hx.symm
      subst hxy
      have hi : (k : Int) < (n : Int) := by omega
      have hi0 : (0 : Int) ≤ (k : Int) := by omega
      have hbq : ((x.toNat : Int) != (x.toNat : Int)) = false := by simp
      have hl1 := x.toNat_lt
      generalize x.toNat = xn at *
      clear hx hy
      go_wp2
      go_quiet (fail)
      go_wp2
      go_roundw
      case rel => exact ⟨k + 1, _, hlt, by go_num, by first | rfl | (rw [World.drewN_drewN])⟩
      case measure => simp [intOf]; omega
    · obtain ⟨b, o, x, hbo, _, hx, hc1'⟩ := H1.out.byte (k := n) (by omega)
      injection hbo with hbo
      injection hbo with hb0 ho0
      subst hb0 ho0
      have hx77 : x = 77 := by
        rw [List.getElem?_append_right (by have := H2.out.blen; omega), H2.out.blen] at hx
        simp at hx
        exact hx.symm
      subst hx77
      have hc77 : w.cell? ⟨g, og + n, none⟩ = some (.int .u8 77) := hc1'
      clear hx hc1'
      go_wp2
      go_ret
      exact ⟨rfl, _, rfl⟩
end Go.Proofs.Ytjnmckchicmmgaa
