/-
  Contracts of package ints: GetFour.
-/
import Derived.Test.YtopcnlophmplgaaFourP
import Derived.Test.YtopcnlophmplgaaVarint
namespace Go.Proofs.Ytopcnlophmplgaa
open Go.RowKit
set_option linter.unusedVariables false

/-- the number in the first four bytes -/
def getFour (l : List UInt8) : Nat × Nat :=
  match l with
  | a :: b :: c :: d :: _ => (a.toNat * 16777216 + b.toNat * 65536 + c.toNat * 256 + d.toNat, 0)
  | _ => (0, 5)
theorem gpart_any (g b o n c i x s : Nat) (w : World) (hx : x < 256) (h : Box w g 33 (.slice (some ⟨b, o, none⟩) n c)) (hi : i < n) (hn : n ≤ 4611686018427387904) (hc : w.cell? ⟨b, o + i, none⟩ = some (.int .u8 (x : Int))) (hs : s ≤ 24) :
    Calls Try.prog 94 #[.int .i64 (i : Int), .int .i64 (s : Int), .pointer (some ⟨g, 0, none⟩)] w fun e w' => e = .returned (.int .u32 ((x * 2 ^ s : Nat) : Int)) ∧ w = w' := by
  have hcb := h.cell
  have hp : 2 ^ s ≤ 2 ^ 24 := Nat.pow_le_pow_right (by decide) hs
  have hm : x * 2 ^ s ≤ 255 * 2 ^ 24 := Nat.mul_le_mul (by omega) hp
  have hwr : IntKind.u32.wrap ((x : Int) * 2 ^ s) = ((x * 2 ^ s : Nat) : Int) := by
    rw [IntKind.wrap_u32']
    have : ((x * 2 ^ s : Nat) : Int) = (x : Int) * 2 ^ s := by simp
    rw [← this]
    omega
  generalize x * 2 ^ s = r at *
  go_enter Try.func94, Try.ntmps94
  go_wp2
  go_ret
  exact ⟨rfl, rfl⟩

theorem or32 (a b sh : Nat) (hb : b < 2 ^ sh) (h : a * 2 ^ sh + b < 4294967296) : bits .or .u32 ((a * 2 ^ sh : Nat) : Int) (b : Int) = ((a * 2 ^ sh + b : Nat) : Int) := by
  rw [u32_or_nat (a * 2 ^ sh) b (by omega) (by omega)]
  have e := Nat.two_pow_add_eq_or_of_lt (i := sh) (b := b) hb a
  rw [Nat.mul_comm (2 ^ sh) a] at e
  rw [← e]

set_option maxHeartbeats 1000000 in
theorem getFour_yes (A : Option Addr) (n c : Nat) (x0 x1 x2 x3 : UInt8) (l : List UInt8) (w : World) (h : Lies w w.heap.size 1 A n ((x0 :: x1 :: x2 :: x3 :: l).map bv)) (hnc : n ≤ c) (hn : n ≤ 4611686018427387904) :
    Calls Try.prog 93 #[.slice A n c] w fun e w' => e = .returned (.tuple #[.int .u32 ((x0.toNat * 16777216 + x1.toNat * 65536 + x2.toNat * 256 + x3.toNat : Nat) : Int), .int .i64 0]) ∧ Below w.heap.size w w' := by
  have hmf : ∀ (fn : Fn) (first cap : Array Value) (w : World), (Instr.makeFunc fn first cap).run Try.prog w = .ok (.func fn first cap) w := fun _ _ _ _ => rfl
  have hl4 : 4 ≤ n := by have := h.len; simp at this; omega
  obtain ⟨b, o, u, rfl, hbB, hu0, hc0⟩ := h.at_ (j := 0) (by omega)
  have hcell : ∀ (i : Nat) (x : UInt8), (x0 :: x1 :: x2 :: x3 :: l)[i]? = some x → w.cell? ⟨b, o + i, none⟩ = some (.int .u8 (x.toNat : Int)) := by
    intro i x hx
    obtain ⟨ad, v, e, _, hv, hcc⟩ := h.spot i (by rcases List.getElem?_eq_some_iff.1 hx with ⟨hh, _⟩; simpa using hh)
    injection e with e
    subst e
    rw [add_lit] at hcc
    rw [List.getElem?_map, hx] at hv
    injection hv with hv
    rw [hcc, ← hv]
  have hW : ∀ (i : Nat) (x : UInt8), (x0 :: x1 :: x2 :: x3 :: l)[i]? = some x → (w.alloc (.cells #[.slice (some ⟨b, o, none⟩) n c] 33)).cell? ⟨b, o + i, none⟩ = some (.int .u8 (x.toNat : Int)) :=
    fun i x hx => (World.cell?_alloc_lt w _ _ hbB).trans (hcell i x hx)
  have hbox := Box.new w 33 (.slice (some ⟨b, o, none⟩) n c)
  have y0 := x0.toNat_lt
  have y1 := x1.toNat_lt
  have y2 := x2.toNat_lt
  have y3 := x3.toNat_lt
  have p0 := Lib.hid (gpart_any _ b o n c 0 x0.toNat 24 _ y0 hbox (by omega) hn (hW 0 x0 rfl) (by decide))
  have p1 := Lib.hid (gpart_any _ b o n c 1 x1.toNat 16 _ y1 hbox (by omega) hn (hW 1 x1 rfl) (by decide))
  have p2 := Lib.hid (gpart_any _ b o n c 2 x2.toNat 8 _ y2 hbox (by omega) hn (hW 2 x2 rfl) (by decide))
  have p3 := Lib.hid (gpart_any _ b o n c 3 x3.toNat 0 _ y3 hbox (by omega) hn (hW 3 x3 rfl) (by decide))
  have e1 : bits .or .u32 ((x0.toNat * 2 ^ 24 : Nat) : Int) ((x1.toNat * 2 ^ 16 : Nat) : Int) = ((x0.toNat * 2 ^ 24 + x1.toNat * 2 ^ 16 : Nat) : Int) := or32 x0.toNat (x1.toNat * 2 ^ 16) 24 (by omega) (by omega)
  have e2 : bits .or .u32 ((x0.toNat * 2 ^ 24 + x1.toNat * 2 ^ 16 : Nat) : Int) ((x2.toNat * 2 ^ 8 : Nat) : Int) = ((x0.toNat * 2 ^ 24 + x1.toNat * 2 ^ 16 + x2.toNat * 2 ^ 8 : Nat) : Int) := by
    have := or32 (x0.toNat * 2 ^ 8 + x1.toNat) (x2.toNat * 2 ^ 8) 16 (by omega) (by omega)
    have e : (x0.toNat * 2 ^ 8 + x1.toNat) * 2 ^ 16 = x0.toNat * 2 ^ 24 + x1.toNat * 2 ^ 16 := by omega
    rw [e] at this; exact this
  have e3 : bits .or .u32 ((x0.toNat * 2 ^ 24 + x1.toNat * 2 ^ 16 + x2.toNat * 2 ^ 8 : Nat) : Int) ((x3.toNat * 2 ^ 0 : Nat) : Int) = ((x0.toNat * 16777216 + x1.toNat * 65536 + x2.toNat * 256 + x3.toNat : Nat) : Int) := by
    have := or32 (x0.toNat * 2 ^ 16 + x1.toNat * 2 ^ 8 + x2.toNat) x3.toNat 8 (by omega) (by omega)
    have e : (x0.toNat * 2 ^ 16 + x1.toNat * 2 ^ 8 + x2.toNat) * 2 ^ 8 = x0.toNat * 2 ^ 24 + x1.toNat * 2 ^ 16 + x2.toNat * 2 ^ 8 := by omega
    rw [e] at this
    rw [show x3.toNat * 2 ^ 0 = x3.toNat from by omega, this]
  have B1 : Below w.heap.size w (w.alloc (.cells #[.slice (some ⟨b, o, none⟩) n c] 33)) := (Below.refl _ _).alloc (Nat.le_refl _) _
  obtain ⟨a0, h0⟩ : ∃ a, x0.toNat * 2 ^ 24 = a := ⟨_, rfl⟩
  obtain ⟨a1, h1⟩ : ∃ a, x1.toNat * 2 ^ 16 = a := ⟨_, rfl⟩
  obtain ⟨a2, h2⟩ : ∃ a, x2.toNat * 2 ^ 8 = a := ⟨_, rfl⟩
  obtain ⟨a3, h3⟩ : ∃ a, x3.toNat * 2 ^ 0 = a := ⟨_, rfl⟩
  obtain ⟨r, hr⟩ : ∃ a, x0.toNat * 16777216 + x1.toNat * 65536 + x2.toNat * 256 + x3.toNat = a := ⟨_, rfl⟩
  rw [hr] at e3 ⊢
  rw [h0] at p0 e1 e2 e3
  rw [h1] at p1 e1 e2 e3
  rw [h2] at p2 e2 e3
  rw [h3] at p3 e3
  clear h0 h1 h2 h3 hr hcell hW hbox h hc0 hu0 y0 y1 y2 y3
  generalize hs01 : a0 + a1 = s01 at *
  generalize hs02 : s01 + a2 = s02 at *
  clear hs01 hs02
  go_enter Try.func93, Try.ntmps93
  go_wp2_with fail
  refine p0.out.mono ?_
  rintro e w1 ⟨rfl, rfl⟩
  go_wp2_with fail
  refine p1.out.mono ?_
  rintro e w1 ⟨rfl, rfl⟩
  go_wp2_with fail
  refine p2.out.mono ?_
  rintro e w1 ⟨rfl, rfl⟩
  go_wp2_with fail
  refine p3.out.mono ?_
  rintro e w1 ⟨rfl, rfl⟩
  clear p0 p1 p2 p3
  go_wp2
  go_ret2
  exact ⟨rfl, B1⟩
theorem getFour_no (A : Option Addr) (n c : Nat) (w : World) (hn : n < 4) :
    Calls Try.prog 93 #[.slice A n c] w fun e w' => e = .returned (.tuple #[.int .u32 0, .int .i64 5]) ∧ Below w.heap.size w w' := by
  go_enter Try.func93, Try.ntmps93
  go_wp2
  go_ret2
  exact ⟨rfl, (Below.refl _ _).alloc (Nat.le_refl _) _⟩
theorem getFour_any (A : Option Addr) (n c : Nat) (l : List UInt8) (w : World) (h : Lies w w.heap.size 1 A n (l.map bv)) (hnc : n ≤ c) (hn : n ≤ 4611686018427387904) :
    Calls Try.prog 93 #[.slice A n c] w fun e w' => e = .returned (.tuple #[.int .u32 ((getFour l).1 : Int), .int .i64 ((getFour l).2 : Int)]) ∧ Below w.heap.size w w' := by
  have hln : l.length = n := by simpa using h.len
  match l, h, hln with
  | x0 :: x1 :: x2 :: x3 :: l, h, _ => exact getFour_yes A n c x0 x1 x2 x3 l w h hnc hn
  | [], _, hln => exact getFour_no A n c w (by simp at hln; omega)
  | [_], _, hln => exact getFour_no A n c w (by simp at hln; omega)
  | [_, _], _, hln => exact getFour_no A n c w (by simp at hln; omega)
  | [_, _, _], _, hln => exact getFour_no A n c w (by simp at hln; omega)
theorem getFour_short (l : List UInt8) (h : l.length < 4) : getFour l = (0, 5) := by
  match l, h with
  | [], _ => rfl
  | [_], _ => rfl
  | [_, _], _ => rfl
  | [_, _, _], _ => rfl
theorem getFour_four (k : Nat) (r : List UInt8) (hk : k < 4294967296) : getFour (four k ++ r) = (k, 0) := by
  unfold four getFour
  simp only [List.cons_append]
  rw [Vi.toNat_ofNat _ (by omega), Vi.toNat_ofNat _ (by omega), Vi.toNat_ofNat _ (by omega), Vi.toNat_ofNat _ (by omega)]
  congr 1
  omega

end Go.Proofs.Ytopcnlophmplgaa
