/-
  Contracts of package journals: roomAt, nextPart, kindOf, end.
-/
import Derived.Test.YtopcnlophmplgaaJour
import Derived.Test.YtopcnlophmplgaaStr
namespace Go.Proofs.Ytopcnlophmplgaa
open Go.RowKit
set_option linter.unusedVariables false

theorem roomAt_any (n : Nat) (hn : n ≤ 4611686018427387904) (w : World) :
    Calls Try.prog 84 #[.int .i64 (n : Int)] w fun e w' => e = .returned (.int .i64 (Jr.room n : Int)) ∧ w' = w := by
  obtain ⟨r, hr⟩ : ∃ r, n % 128 = r := ⟨_, rfl⟩
  have h1 : Int.tmod (n : Int) 128 = (r : Int) := by rw [Int.tmod_eq_emod_of_nonneg (by omega)]; omega
  have h2 : r < 128 := by omega
  have h3 := Lib.hid (show (128 : Int) - (r : Int) = (Jr.room n : Int) by unfold Jr.room; omega)
  clear hr
  go_enter Try.func84, Try.ntmps84
  go_wp2
  go_ret
  exact ⟨by rw [← h3.out]; rfl, rfl⟩

theorem nextPart_any (n : Nat) (hn : n ≤ 4611686018427387904) (w : World) :
    Calls Try.prog 83 #[.int .i64 (n : Int)] w fun e w' => e = .returned (.int .i64 (Jr.nextP n : Int)) ∧ w' = w := by
  have h1 := Jr.room_pos n
  have HR := Lib.hid (show ∀ w, _ from fun w => roomAt_any n hn w)
  have hN : Jr.nextP n = if Jr.room n < 8 then n + Jr.room n else n := rfl
  obtain ⟨r, hr⟩ : ∃ r, Jr.room n = r := ⟨_, rfl⟩
  rw [hr] at HR hN h1
  clear hr
  go_enter Try.func83, Try.ntmps83
  by_cases h : r < 8
  · rw [if_pos h] at hN
    have HN := Lib.hid hN
    clear hN
    go_wp2_with fail
    refine (HR.out w).mono ?_
    rintro e w' ⟨rfl, rfl⟩
    go_wp2
    go_ret
    exact ⟨by rw [HN.out]; simp, rfl⟩
  · rw [if_neg h] at hN
    have HN := Lib.hid hN
    clear hN
    go_wp2_with fail
    refine (HR.out w).mono ?_
    rintro e w' ⟨rfl, rfl⟩
    go_wp2
    go_ret
    exact ⟨by rw [HN.out]; rfl, rfl⟩

theorem kindOf_any (a b : Bool) (w : World) :
    Calls Try.prog 85 #[.bool a, .bool b] w fun e w' => e = .returned (bv (Jr.kd a b)) ∧ w' = w := by
  cases a <;> cases b
  all_goals
    go_enter Try.func85, Try.ntmps85
    go_wp2
    go_ret
    exact ⟨rfl, rfl⟩

/-- a part, as a value -/
abbrev pv (pos : Nat) (k : UInt8) (A : Option Addr) (n c : Nat) : Value := .agg #[.int .i64 (pos : Int), bv k, .slice A n c]
theorem end_any (pos : Nat) (k : UInt8) (A : Option Addr) (n c : Nat) (w : World) (hp : pos ≤ 4611686018427387904) (hn : n ≤ 140737488355328) :
    Calls Try.prog 78 #[pv pos k A n c] w fun e w' => e = .returned (.int .i64 ((pos + 7 + n : Nat) : Int)) ∧ Below w.heap.size w w' := by
  go_enter Try.func78, Try.ntmps78
  have hB := (Below.refl w.heap.size w).alloc (Nat.le_refl _) (.cells #[.int .i64 (pos : Int), bv k, .slice A n c] 123)
  go_wp2
  go_ret
  exact ⟨by simp, hB⟩
end Go.Proofs.Ytopcnlophmplgaa
