/-
  Contracts of package sums: On, Of.
-/
import Derived.Test.YtjnmckchicmmgaaGreatDoorSumsB
namespace Go.Proofs.YtjnmckchicmmgaaGreatDoor
open Go.RowKit
set_option linter.unusedVariables false

theorem flip_u32 (n : Nat) (h : n < 4294967296) : bits .xor .u32 4294967295 (n : Int) = ((4294967295 - n : Nat) : Int) := by
  have := u32_xor_nat 4294967295 n (by omega) h
  rw [Crc.flip n h] at this
  exact this
theorem take_run (T : List Nat) (s k : Nat) (b : List UInt8) (x : UInt8) (hx : b[k]? = some x) : Crc.run T s (b.take (k + 1)) = Crc.upd T (Crc.run T s (b.take k)) x.toNat := by
  rw [List.take_add_one, hx]
  exact Crc.run_snoc T s _ x

set_option maxHeartbeats 1000000 in
/-- by any table -/
theorem on_any (g sum n c B : Nat) (A : Option Addr) (b : List UInt8) (T : List Nat) (w : World) (hT : Tab w g 51 T) (hl : T.length = 256) (hs : Crc.Small T) (hsum : sum < 4294967296)
    (L : Lies w B 1 A n (b.map bv)) (hn : n ≤ 1099511627776) :
    Calls Tryz.prog 62 #[.pointer (some ⟨g, 0, none⟩), .int .u32 (sum : Int), .slice A n c] w fun e w' => e = .returned (.int .u32 ((Crc.on T sum b : Nat) : Int)) ∧ w' = w := by
  have HT := Lib.hid hT; have HL := Lib.hid L; have HS := Lib.hid hs
  clear hT L hs
  have hfl := flip_u32 sum hsum
  have hsg : IntKind.u32.signed = false := rfl
  have hmx : IntKind.u32.max = 4294967295 := by decide
  obtain ⟨s0, hs0⟩ : ∃ s0, s0 = 4294967295 - sum := ⟨_, rfl⟩
  have hs0l : s0 < 4294967296 := by omega
  have hon : Crc.on T sum b = 4294967295 - Crc.run T s0 b := by rw [hs0]; rfl
  rw [← hs0] at hfl
  rw [hon]
  clear hs0 hon
  go_enter Tryz.func62, Tryz.ntmps62
  go_wp2
  go_loopw [1, 15] (fun v i wr => ∃ k : Nat, k ≤ n ∧ i = .int .i64 (k : Int) ∧ v = .int .u32 ((Crc.run T s0 (b.take k) : Nat) : Int) ∧ wr = w) (fun _ i _ => n - (intOf i).toNat)
  case atStart => exact ⟨0, Nat.zero_le _, rfl, by rw [List.take_zero]; rfl, rfl⟩
  case round =>
    obtain ⟨k, hk, rfl, rfl, rfl⟩ := hrel
    have hr := Crc.run_lt HS.out (b.take k) hs0l
    by_cases hlt : k < n
    · obtain ⟨bb, o, x, rfl, _, hx, hc0⟩ := HL.out.byte hlt
      have hxl := x.toNat_lt
      have hnext := take_run T s0 k b x hx
      generalize Crc.run T s0 (b.take k) = s at hnext hr ⊢
      generalize x.toNat = xn at *
      obtain ⟨lo, hlo⟩ : ∃ lo, lo = s % 256 := ⟨_, rfl⟩
      obtain ⟨hi, hhi⟩ : ∃ hi, hi = s / 256 := ⟨_, rfl⟩
      have f1 : (s : Int) % 256 = (lo : Int) := by omega
      have f2 : (s : Int) / 256 = (hi : Int) := by omega
      have hlol : lo < 256 := by omega
      have hhil : hi < 4294967296 := by omega
      have f3 := u8_xor_nat xn lo hxl hlol
      have hixl : xn ^^^ lo < 256 := Nat.xor_lt_two_pow (n := 8) hxl hlol
      unfold Crc.upd at hnext
      rw [← hlo, ← hhi, Nat.xor_comm lo xn] at hnext
      generalize xn ^^^ lo = ix at *
      obtain ⟨y, hy⟩ : ∃ y, T[ix]? = some y := ⟨_, List.getElem?_eq_getElem (by omega)⟩
      have hyl : y < 4294967296 := HS.out y (List.mem_of_getElem? hy)
      rw [List.getD_eq_getElem?_getD, hy, Option.getD_some] at hnext
      have hc1 := HT.out.cell hy
      have f4 := u32_xor_nat hi y hhil hyl
      have f5 : (ix : Int) < 256 := by omega
      have HX := Lib.hid hnext
      clear hx hlo hhi hy hnext hr
      go_wp2
      go_roundw
      case rel => exact ⟨k + 1, hlt, by go_num, by rw [HX.out], by first | rfl | trivial⟩
      case measure => simp [intOf]; omega
    · obtain rfl : n = k := by omega
      have hb : b.take n = b := List.take_of_length_le (by have := HL.out.blen; omega)
      rw [hb] at hr ⊢
      have f6 := flip_u32 _ hr
      go_wp2
      go_ret
      exact ⟨rfl, rfl⟩

theorem of_any (g n c B : Nat) (A : Option Addr) (b : List UInt8) (T : List Nat) (w : World) (hT : Tab w g 51 T) (hl : T.length = 256) (hs : Crc.Small T)
    (L : Lies w B 1 A n (b.map bv)) (hn : n ≤ 1099511627776) :
    Calls Tryz.prog 61 #[.pointer (some ⟨g, 0, none⟩), .slice A n c] w fun e w' => e = .returned (.int .u32 ((Crc.on T 0 b : Nat) : Int)) ∧ w' = w := by
  have HC := Lib.hid (on_any g 0 n c B A b T w hT hl hs (by omega) L hn)
  clear hT hs L
  go_enter Tryz.func61, Tryz.ntmps61
  go_wp2_with (go_at_call 62; refine HC.out.mono ?_; rintro e w' ⟨rfl, rfl⟩)
  go_ret
  exact ⟨rfl, rfl⟩
/-- without a table -/
theorem on_none (sum : Nat) (v : Value) (w : World) :
    Calls Tryz.prog 62 #[.pointer none, .int .u32 (sum : Int), v] w fun e w' => e = .returned (.int .u32 0) ∧ w' = w := by
  go_enter Tryz.func62, Tryz.ntmps62
  go_wp2
  go_ret
  exact ⟨rfl, rfl⟩
theorem of_none (v : Value) (w : World) :
    Calls Tryz.prog 61 #[.pointer none, v] w fun e w' => e = .returned (.int .u32 0) ∧ w' = w := by
  have HC := Lib.hid (on_none 0 v w)
  go_enter Tryz.func61, Tryz.ntmps61
  go_wp2_with (go_at_call 62; refine HC.out.mono ?_; rintro e w' ⟨rfl, rfl⟩)
  go_ret
  exact ⟨rfl, rfl⟩
end Go.Proofs.YtjnmckchicmmgaaGreatDoor
