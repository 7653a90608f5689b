/-
  Contracts of package ints: GetFour, GetText.
-/
import Derived.Test.YthjhoealkalfgaaIntsB
import Derived.Test.YthjhoealkalfgaaIntsD
namespace Go.Proofs.Ythjhoealkalfgaa
open Go.RowKit
set_option linter.unusedVariables false

theorem foldl_push (l : List UInt8) (s : ByteArray) : (l.map fun c => (c.toNat : Int)).foldl (fun r n => r.push (UInt8.ofNat n.toNat)) s = ⟨s.data ++ l.toArray⟩ := by
  induction l generalizing s with
  | nil => simp
  | cons c l ih =>
    simp only [List.map_cons, List.foldl_cons]
    rw [ih]
    simp [ByteArray.push]

/-- a slice of bytes as a string -/
theorem run_str {P : Program} (w : World) (src dst e : TypeId) (hs : P.underlying src = some (.slice e)) (he : P.underlying e = some (.int .u8)) (hd : P.underlying dst = some .string)
    {B n : Nat} {A : Option Addr} {l : List UInt8} (c : Nat) (h : Lies w B 1 A n (l.map bv)) : (convert src dst (.slice A n c)).run P w = .ok (.string ⟨l.toArray⟩) w := by
  rw [run_convert_bytes_string w src dst e A n c hs he hd]
  cases A with
  | none =>
    obtain ⟨_, h2⟩ := h.nil_of
    have : l = [] := by simpa using h2
    subst this
    rfl
  | some ad =>
    have hn : (l.map bv).length = n := by have := h.len; omega
    have hload := run_loadCells_list (P := P) w ad (l.map bv) (fun j v hv => by
      obtain ⟨ad', u, e, _, hx, hc⟩ := h.spot j (by rcases List.getElem?_eq_some_iff.1 hv with ⟨h, _⟩; exact h)
      injection e with e
      subst e
      rw [hv] at hx
      injection hx with hx
      subst hx
      exact hc)
    rw [hn] at hload
    have h2 := run_bytesToString (P := P) w ad n c (l.map fun c => (c.toNat : Int)) (by
      rw [hload]; simp [bv])
    rw [h2, foldl_push]
    simp [ByteArray.empty, ByteArray.emptyWithCapacity]
    rfl

/-- what GetText answers -/
def getText (l : List UInt8) : List UInt8 × Nat × Nat :=
  if (Vi.get l).2.2 ≠ 0 then ([], 0, (Vi.get l).2.2)
  else if l.length - (Vi.get l).2.1 < (Vi.get l).1 then ([], 0, 5)
  else ((l.drop (Vi.get l).2.1).take (Vi.get l).1, (Vi.get l).2.1 + (Vi.get l).1, 0)

set_option maxHeartbeats 1000000 in
theorem getText_bad (A : Option Addr) (n c : Nat) (l : List UInt8) (w : World) (h : Lies w w.heap.size 1 A n (l.map bv)) (hnc : n ≤ c) (hc : c ≤ maxLen) (k t e : Nat) (hg : Vi.get l = (k, t, e)) (he : e ≠ 0) :
    Calls Try.prog 18 #[.slice A n c] w fun e' w' => e' = .returned (.tuple #[.string ⟨#[]⟩, .int .i64 0, .int .i64 (e : Int)]) ∧ Below w.heap.size w w' := by
  have HC := get_any A n c l w h hnc hc
  rw [hg] at HC
  have H := Lib.hid HC
  clear HC h hg
  have hne : ((e : Int) != 0) = true := by simp; omega
  go_enter Try.func18, Try.ntmps18
  go_wp2_with fail
  refine H.out.mono ?_
  rintro e1 w1 ⟨rfl, hb⟩
  go_wp2
  go_ret3
  exact ⟨rfl, hb⟩
set_option maxHeartbeats 1000000 in
theorem getText_short (A : Option Addr) (n c : Nat) (l : List UInt8) (w : World) (h : Lies w w.heap.size 1 A n (l.map bv)) (hnc : n ≤ c) (hc : c ≤ maxLen) (k t : Nat) (hg : Vi.get l = (k, t, 0)) (hs : n - t < k) :
    Calls Try.prog 18 #[.slice A n c] w fun e' w' => e' = .returned (.tuple #[.string ⟨#[]⟩, .int .i64 0, .int .i64 5]) ∧ Below w.heap.size w w' := by
  have HC := get_any A n c l w h hnc hc
  rw [hg] at HC
  have H := Lib.hid HC
  have hback := Vi.get_back l k t hg
  have hln : l.length = n := by simpa using h.len
  have ht : t ≤ n := by omega
  have hk : k < 18446744073709551616 := hback.1
  unfold maxLen at hc
  clear HC h hg hback hln
  go_enter Try.func18, Try.ntmps18
  go_wp2_with fail
  refine H.out.mono ?_
  rintro e1 w1 ⟨rfl, hb⟩
  go_wp2
  all_goals go_ret3
  all_goals exact ⟨rfl, hb⟩
set_option maxHeartbeats 1000000 in
theorem getText_ok (A : Option Addr) (n c : Nat) (l : List UInt8) (w : World) (h : Lies w w.heap.size 1 A n (l.map bv)) (hnc : n ≤ c) (hc : c ≤ maxLen) (k t : Nat) (hg : Vi.get l = (k, t, 0)) (hs : k ≤ n - t) :
    Calls Try.prog 18 #[.slice A n c] w fun e' w' => e' = .returned (.tuple #[.string ⟨((l.drop t).take k).toArray⟩, .int .i64 ((t + k : Nat) : Int), .int .i64 0]) ∧ Below w.heap.size w w' := by
  have HC := get_any A n c l w h hnc hc
  rw [hg] at HC
  have H := Lib.hid HC
  have hback := Vi.get_back l k t hg
  have hln : l.length = n := by simpa using h.len
  have ht : t ≤ n := by omega
  have hk : k < 18446744073709551616 := hback.1
  obtain ⟨b, o, u, rfl, hbB, _, _⟩ := h.at_ (j := 0) (by omega)
  have hd : Lies w w.heap.size 1 (some ⟨b, o + t, none⟩) k (((l.drop t).take k).map bv) := by
    have := (h.drop_ ht).take_ hs
    simp only [Option.map_some, add_lit] at this
    rw [List.map_take, List.map_drop]
    exact this
  unfold maxLen at hc
  clear HC hg hback hln h
  go_enter Try.func18, Try.ntmps18
  go_wp2_with fail
  refine H.out.mono ?_
  rintro e1 w1 ⟨rfl, hb⟩
  have hd2 := hd.below hb
  clear hd
  obtain ⟨r, hr0⟩ : ∃ r, (l.drop t).take k = r := ⟨_, rfl⟩
  rw [hr0] at hd2
  have HR := Lib.hid hr0
  clear hr0
  by_cases hct : c = t
  · have hk0 : k = 0 := by omega
    subst hk0
    have hr : r = [] := by have := hd2.len; simpa using this
    subst hr
    have hstr := run_str (P := Try.prog) w1 22 9 5 Try.underlying22 Try.underlying5 Try.underlying9 (l := []) 0 (Lies.none_ w1 w.heap.size 1 (some ⟨b, o, none⟩))
    clear hd2 H
    go_wp2
    go_ret3
    exact ⟨by rw [HR.out]; rfl, hb⟩
  · have hstr := run_str (P := Try.prog) w1 22 9 5 Try.underlying22 Try.underlying5 Try.underlying9 (c - t) hd2
    clear hd2 H
    go_wp2
    go_ret3
    exact ⟨by rw [HR.out]; rfl, hb⟩
theorem getText_any (A : Option Addr) (n c : Nat) (l : List UInt8) (w : World) (h : Lies w w.heap.size 1 A n (l.map bv)) (hnc : n ≤ c) (hc : c ≤ maxLen) :
    Calls Try.prog 18 #[.slice A n c] w fun e' w' => e' = .returned (.tuple #[.string ⟨(getText l).1.toArray⟩, .int .i64 ((getText l).2.1 : Int), .int .i64 ((getText l).2.2 : Int)]) ∧ Below w.heap.size w w' := by
  have hln : l.length = n := by simpa using h.len
  rcases hg : Vi.get l with ⟨k, t, e⟩
  by_cases he : e = 0
  · subst he
    by_cases hs : n - t < k
    · have e1 : getText l = ([], 0, 5) := by unfold getText; rw [hg, hln, if_neg (by simp), if_pos hs]
      rw [e1]
      exact getText_short A n c l w h hnc hc k t hg hs
    · have e1 : getText l = ((l.drop t).take k, t + k, 0) := by unfold getText; rw [hg, hln, if_neg (by simp), if_neg hs]
      rw [e1]
      exact getText_ok A n c l w h hnc hc k t hg (by omega)
  · have e1 : getText l = ([], 0, e) := by unfold getText; rw [hg, if_pos he]
    rw [e1]
    exact getText_bad A n c l w h hnc hc k t e hg he

/-- the number in the first four bytes -/
def getFour (l : List UInt8) : Nat × Nat :=
  match l with
  | a :: b :: c :: d :: _ => (a.toNat * 16777216 + b.toNat * 65536 + c.toNat * 256 + d.toNat, 0)
  | _ => (0, 5)
theorem gpart_any (g b o n c i x s : Nat) (w : World) (hx : x < 256) (h : Box w g 22 (.slice (some ⟨b, o, none⟩) n c)) (hi : i < n) (hn : n ≤ 4611686018427387904) (hc : w.cell? ⟨b, o + i, none⟩ = some (.int .u8 (x : Int))) (hs : s ≤ 24) :
    Calls Try.prog 28 #[.int .i64 (i : Int), .int .i64 (s : Int), .pointer (some ⟨g, 0, none⟩)] w fun e w' => e = .returned (.int .u32 ((x * 2 ^ s : Nat) : Int)) ∧ w = w' := by
  have hcb := h.cell
  have hp : 2 ^ s ≤ 2 ^ 24 := Nat.pow_le_pow_right (by decide) hs
  have hm : x * 2 ^ s ≤ 255 * 2 ^ 24 := Nat.mul_le_mul (by omega) hp
  have hwr : IntKind.u32.wrap ((x : Int) * 2 ^ s) = ((x * 2 ^ s : Nat) : Int) := by
    rw [IntKind.wrap_u32']
    have : ((x * 2 ^ s : Nat) : Int) = (x : Int) * 2 ^ s := by simp
    rw [← this]
    omega
  generalize x * 2 ^ s = r at *
  go_enter Try.func28, Try.ntmps28
  go_wp2
  go_ret
  exact ⟨rfl, rfl⟩

theorem or32 (a b sh : Nat) (hb : b < 2 ^ sh) (h : a * 2 ^ sh + b < 4294967296) : bits .or .u32 ((a * 2 ^ sh : Nat) : Int) (b : Int) = ((a * 2 ^ sh + b : Nat) : Int) := by
  rw [u32_or_nat (a * 2 ^ sh) b (by omega) (by omega)]
  have e := Nat.two_pow_add_eq_or_of_lt (i := sh) (b := b) hb a
  rw [Nat.mul_comm (2 ^ sh) a] at e
  rw [← e]

set_option maxHeartbeats 1000000 in
theorem getFour_yes (A : Option Addr) (n c : Nat) (x0 x1 x2 x3 : UInt8) (l : List UInt8) (w : World) (h : Lies w w.heap.size 1 A n ((x0 :: x1 :: x2 :: x3 :: l).map bv)) (hnc : n ≤ c) (hn : n ≤ 4611686018427387904) :
    Calls Try.prog 16 #[.slice A n c] w fun e w' => e = .returned (.tuple #[.int .u32 ((x0.toNat * 16777216 + x1.toNat * 65536 + x2.toNat * 256 + x3.toNat : Nat) : Int), .int .i64 0]) ∧ Below w.heap.size w w' := by
  have hmf : ∀ (fn : Fn) (first cap : Array Value) (w : World), (Instr.makeFunc fn first cap).run Try.prog w = .ok (.func fn first cap) w := fun _ _ _ _ => rfl
  have hl4 : 4 ≤ n := by have := h.len; simp at this; omega
  obtain ⟨b, o, u, rfl, hbB, hu0, hc0⟩ := h.at_ (j := 0) (by omega)
  have hcell : ∀ (i : Nat) (x : UInt8), (x0 :: x1 :: x2 :: x3 :: l)[i]? = some x → w.cell? ⟨b, o + i, none⟩ = some (.int .u8 (x.toNat : Int)) := by
    intro i x hx
    obtain ⟨ad, v, e, _, hv, hcc⟩ := h.spot i (by rcases List.getElem?_eq_some_iff.1 hx with ⟨hh, _⟩; simpa using hh)
    injection e with e
    subst e
    rw [add_lit] at hcc
    rw [List.getElem?_map, hx] at hv
    injection hv with hv
    rw [hcc, ← hv]
  have hW : ∀ (i : Nat) (x : UInt8), (x0 :: x1 :: x2 :: x3 :: l)[i]? = some x → (w.alloc (.cells #[.slice (some ⟨b, o, none⟩) n c] 22)).cell? ⟨b, o + i, none⟩ = some (.int .u8 (x.toNat : Int)) :=
    fun i x hx => (World.cell?_alloc_lt w _ _ hbB).trans (hcell i x hx)
  have hbox := Box.new w 22 (.slice (some ⟨b, o, none⟩) n c)
  have y0 := x0.toNat_lt
  have y1 := x1.toNat_lt
  have y2 := x2.toNat_lt
  have y3 := x3.toNat_lt
  have p0 := Lib.hid (gpart_any _ b o n c 0 x0.toNat 24 _ y0 hbox (by omega) hn (hW 0 x0 rfl) (by decide))
  have p1 := Lib.hid (gpart_any _ b o n c 1 x1.toNat 16 _ y1 hbox (by omega) hn (hW 1 x1 rfl) (by decide))
  have p2 := Lib.hid (gpart_any _ b o n c 2 x2.toNat 8 _ y2 hbox (by omega) hn (hW 2 x2 rfl) (by decide))
  have p3 := Lib.hid (gpart_any _ b o n c 3 x3.toNat 0 _ y3 hbox (by omega) hn (hW 3 x3 rfl) (by decide))
  have e1 : bits .or .u32 ((x0.toNat * 2 ^ 24 : Nat) : Int) ((x1.toNat * 2 ^ 16 : Nat) : Int) = ((x0.toNat * 2 ^ 24 + x1.toNat * 2 ^ 16 : Nat) : Int) := or32 x0.toNat (x1.toNat * 2 ^ 16) 24 (by omega) (by omega)
  have e2 : bits .or .u32 ((x0.toNat * 2 ^ 24 + x1.toNat * 2 ^ 16 : Nat) : Int) ((x2.toNat * 2 ^ 8 : Nat) : Int) = ((x0.toNat * 2 ^ 24 + x1.toNat * 2 ^ 16 + x2.toNat * 2 ^ 8 : Nat) : Int) := by
    have := or32 (x0.toNat * 2 ^ 8 + x1.toNat) (x2.toNat * 2 ^ 8) 16 (by omega) (by omega)
    have e : (x0.toNat * 2 ^ 8 + x1.toNat) * 2 ^ 16 = x0.toNat * 2 ^ 24 + x1.toNat * 2 ^ 16 := by omega
    rw [e] at this; exact this
  have e3 : bits .or .u32 ((x0.toNat * 2 ^ 24 + x1.toNat * 2 ^ 16 + x2.toNat * 2 ^ 8 : Nat) : Int) ((x3.toNat * 2 ^ 0 : Nat) : Int) = ((x0.toNat * 16777216 + x1.toNat * 65536 + x2.toNat * 256 + x3.toNat : Nat) : Int) := by
    have := or32 (x0.toNat * 2 ^ 16 + x1.toNat * 2 ^ 8 + x2.toNat) x3.toNat 8 (by omega) (by omega)
    have e : (x0.toNat * 2 ^ 16 + x1.toNat * 2 ^ 8 + x2.toNat) * 2 ^ 8 = x0.toNat * 2 ^ 24 + x1.toNat * 2 ^ 16 + x2.toNat * 2 ^ 8 := by omega
    rw [e] at this
    rw [show x3.toNat * 2 ^ 0 = x3.toNat from by omega, this]
  have B1 : Below w.heap.size w (w.alloc (.cells #[.slice (some ⟨b, o, none⟩) n c] 22)) := (Below.refl _ _).alloc (Nat.le_refl _) _
  obtain ⟨a0, h0⟩ : ∃ a, x0.toNat * 2 ^ 24 = a := ⟨_, rfl⟩
  obtain ⟨a1, h1⟩ : ∃ a, x1.toNat * 2 ^ 16 = a := ⟨_, rfl⟩
  obtain ⟨a2, h2⟩ : ∃ a, x2.toNat * 2 ^ 8 = a := ⟨_, rfl⟩
  obtain ⟨a3, h3⟩ : ∃ a, x3.toNat * 2 ^ 0 = a := ⟨_, rfl⟩
  obtain ⟨r, hr⟩ : ∃ a, x0.toNat * 16777216 + x1.toNat * 65536 + x2.toNat * 256 + x3.toNat = a := ⟨_, rfl⟩
  rw [hr] at e3 ⊢
  rw [h0] at p0 e1 e2 e3
  rw [h1] at p1 e1 e2 e3
  rw [h2] at p2 e2 e3
  rw [h3] at p3 e3
  clear h0 h1 h2 h3 hr hcell hW hbox h hc0 hu0 y0 y1 y2 y3
  generalize hs01 : a0 + a1 = s01 at *
  generalize hs02 : s01 + a2 = s02 at *
  clear hs01 hs02
  go_enter Try.func16, Try.ntmps16
  go_wp2_with fail
  refine p0.out.mono ?_
  rintro e w1 ⟨rfl, rfl⟩
  go_wp2_with fail
  refine p1.out.mono ?_
  rintro e w1 ⟨rfl, rfl⟩
  go_wp2_with fail
  refine p2.out.mono ?_
  rintro e w1 ⟨rfl, rfl⟩
  go_wp2_with fail
  refine p3.out.mono ?_
  rintro e w1 ⟨rfl, rfl⟩
  clear p0 p1 p2 p3
  go_wp2
  go_ret2
  exact ⟨rfl, B1⟩
theorem getFour_no (A : Option Addr) (n c : Nat) (w : World) (hn : n < 4) :
    Calls Try.prog 16 #[.slice A n c] w fun e w' => e = .returned (.tuple #[.int .u32 0, .int .i64 5]) ∧ Below w.heap.size w w' := by
  go_enter Try.func16, Try.ntmps16
  go_wp2
  go_ret2
  exact ⟨rfl, (Below.refl _ _).alloc (Nat.le_refl _) _⟩
theorem getFour_any (A : Option Addr) (n c : Nat) (l : List UInt8) (w : World) (h : Lies w w.heap.size 1 A n (l.map bv)) (hnc : n ≤ c) (hn : n ≤ 4611686018427387904) :
    Calls Try.prog 16 #[.slice A n c] w fun e w' => e = .returned (.tuple #[.int .u32 ((getFour l).1 : Int), .int .i64 ((getFour l).2 : Int)]) ∧ Below w.heap.size w w' := by
  have hln : l.length = n := by simpa using h.len
  match l, h, hln with
  | x0 :: x1 :: x2 :: x3 :: l, h, _ => exact getFour_yes A n c x0 x1 x2 x3 l w h hnc hn
  | [], _, hln => exact getFour_no A n c w (by simp at hln; omega)
  | [_], _, hln => exact getFour_no A n c w (by simp at hln; omega)
  | [_, _], _, hln => exact getFour_no A n c w (by simp at hln; omega)
  | [_, _, _], _, hln => exact getFour_no A n c w (by simp at hln; omega)
end Go.Proofs.Ythjhoealkalfgaa
