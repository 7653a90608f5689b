/-
  What laws share: Beyond at one number; Put, PutFour, PutText with what lies where; copies; cuts of slices.
-/
import Derived.Test.YthjhoealkalfgaaDoorHelpB
import Derived.Test.YthjhoealkalfgaaDoorIntsB
namespace Go.Proofs.YthjhoealkalfgaaDoor
open Go.RowKit
set_option linter.unusedVariables false

theorem beyond_yes (z : Nat) (w : World) (hz : z ≤ 4611686018427387904) (h : 1048576 < z) :
    Calls Tryd.prog 4 #[.slice (some ⟨w.heap.size, 0, none⟩) 1 1] (w.alloc (.cells #[.int .i64 (z : Int)] 3)) fun e w' => e = .returned (.bool true) ∧ Below w.heap.size w w' := by
  have hl := one_lies (w := w) rfl (.int .i64 (z : Int)) 3
  refine (beyond_any _ 1 1 [z] _ (hl.more (by simp)) (by simpa using hz) (by decide)).mono fun e w' ⟨he, hw⟩ => ?_
  subst hw
  have hb : big [z] = true := by unfold big; rw [List.sum_singleton]; exact decide_eq_true h
  exact ⟨by rw [he, hb], (Below.refl _ _).alloc (Nat.le_refl _) _⟩
theorem beyond_no (z : Nat) (w : World) (h : z ≤ 1048576) :
    Calls Tryd.prog 4 #[.slice (some ⟨w.heap.size, 0, none⟩) 1 1] (w.alloc (.cells #[.int .i64 (z : Int)] 3)) fun e w' => e = .returned (.bool false) ∧ Below w.heap.size w w' := by
  have hl := one_lies (w := w) rfl (.int .i64 (z : Int)) 3
  refine (beyond_any _ 1 1 [z] _ (hl.more (by simp)) (by simp; omega) (by decide)).mono fun e w' ⟨he, hw⟩ => ?_
  subst hw
  have hb : big [z] = false := by unfold big; rw [List.sum_singleton]; exact decide_eq_false (by omega)
  exact ⟨by rw [he, hb], (Below.refl _ _).alloc (Nat.le_refl _) _⟩

/-- a slice of bytes that was answered: its length, its capacity, its bytes, in new memory -/
def Got (w : World) (n : Nat) (l : List UInt8) (e : Ending) (w' : World) : Prop :=
  ∃ A c, e = .returned (.slice A n c) ∧ n ≤ c ∧ c ≤ maxLen ∧ w'.ownsRow w.heap.size 5 1 (.slice A n c) n (l.map bv) ∧ Below w.heap.size w w'
theorem got_of {w w' : World} {v : Value} {n : Nat} {l : List UInt8} (h : w'.ownsRow w.heap.size 5 1 v n (l.map bv)) (hb : Below w.heap.size w w') : Got w n l (.returned v) w' := by
  obtain ⟨A, c, rfl, h1, h2, _⟩ := own_shape h
  exact ⟨A, c, rfl, h1, h2, h, hb⟩

theorem put_nil (k : Nat) (w : World) (hk : k < 18446744073709551616) :
    Calls Tryd.prog 6 #[.slice none 0 0, .int .u64 (k : Int)] w fun e w' => Got w (Vi.enc k).length (Vi.enc k) e w' :=
  (put_any none 0 0 k [] w (Lies.none_ _ _ _ _) hk (by decide)).mono fun e w' ⟨v, he, ho, hb⟩ => by
    subst he
    exact got_of (by simpa using ho) hb
theorem putFour_nil (k : Nat) (w : World) (hk : k < 4294967296) :
    Calls Tryd.prog 7 #[.slice none 0 0, .int .u32 (k : Int)] w fun e w' => Got w 4 (four k) e w' :=
  (putFour_any none 0 0 k [] w (Lies.none_ _ _ _ _) hk (by decide)).mono fun e w' ⟨v, he, ho, hb⟩ => by
    subst he
    exact got_of (by simpa using ho) hb
theorem putText_nil (s : ByteArray) (w : World) (hs : s.size ≤ 549755813888) :
    Calls Tryd.prog 8 #[.slice none 0 0, .string s] w fun e w' => Got w ((Vi.enc s.size).length + s.size) (Vi.enc s.size ++ s.data.toList) e w' :=
  (putText_any none 0 0 s [] w (Lies.none_ _ _ _ _) (by omega)).mono fun e w' ⟨v, he, ho, hb⟩ => by
    subst he
    exact got_of (by simpa using ho) hb

/-- the same, of at least one byte: its address is known -/
def GotS (w : World) (n : Nat) (l : List UInt8) (e : Ending) (w' : World) : Prop :=
  ∃ g c, e = .returned (.slice (some ⟨g, 0, none⟩) n c) ∧ n ≤ c ∧ c ≤ maxLen ∧ w'.ownsRow w.heap.size 5 1 (.slice (some ⟨g, 0, none⟩) n c) n (l.map bv) ∧ Below w.heap.size w w'
theorem gotS_of {w w' : World} {v : Value} {n : Nat} {l : List UInt8} (hn : 0 < n) (h : w'.ownsRow w.heap.size 5 1 v n (l.map bv)) (hb : Below w.heap.size w w') : GotS w n l (.returned v) w' := by
  have h' := h
  rcases h'.2 with ⟨_, h0⟩ | ⟨g, cap, cur, rfl, _, _, h1, h2, _⟩
  · omega
  · exact ⟨g, cap, rfl, h1, h2, h, hb⟩
theorem put_some (A : Option Addr) (n c k : Nat) (l : List UInt8) (w : World) (h1 : Lies w w.heap.size 1 A n (l.map bv)) (hk : k < 18446744073709551616) (hs : n ≤ 549755813888) :
    Calls Tryd.prog 6 #[.slice A n c, .int .u64 (k : Int)] w fun e w' => GotS w (n + (Vi.enc k).length) (l ++ Vi.enc k) e w' :=
  (put_any A n c k l w h1 hk hs).mono fun e w' ⟨v, he, ho, hb⟩ => by
    subst he
    exact gotS_of (by have := Vi.enc_pos k; omega) ho hb
theorem putFour_some (A : Option Addr) (n c k : Nat) (l : List UInt8) (w : World) (h1 : Lies w w.heap.size 1 A n (l.map bv)) (hk : k < 4294967296) (hs : n ≤ 549755813888) :
    Calls Tryd.prog 7 #[.slice A n c, .int .u32 (k : Int)] w fun e w' => GotS w (n + 4) (l ++ four k) e w' :=
  (putFour_any A n c k l w h1 hk hs).mono fun e w' ⟨v, he, ho, hb⟩ => by
    subst he
    exact gotS_of (by omega) ho hb
theorem putText_some (A : Option Addr) (n c : Nat) (s : ByteArray) (l : List UInt8) (w : World) (h1 : Lies w w.heap.size 1 A n (l.map bv)) (hs : n + s.size ≤ 549755813888) :
    Calls Tryd.prog 8 #[.slice A n c, .string s] w fun e w' => GotS w (n + ((Vi.enc s.size).length + s.size)) (l ++ (Vi.enc s.size ++ s.data.toList)) e w' :=
  (putText_any A n c s l w h1 hs).mono fun e w' ⟨v, he, ho, hb⟩ => by
    subst he
    exact gotS_of (by have := Vi.enc_pos s.size; omega) ho hb
/-- a copy: what it owns, without its mark -/
theorem own_less {w : World} {base e n c g : Nat} {xs : List Value} {u : Value} (h : w.ownsRow base e 1 (.slice (some ⟨g, 0, none⟩) (n + 1) c) (n + 1) (xs ++ [u])) : w.ownsRow base e 1 (.slice (some ⟨g, 0, none⟩) n c) n xs := by
  have hl : xs.length = n := by have := h.1; simp at this; omega
  refine ⟨by omega, ?_⟩
  rcases h.2 with ⟨h0, _⟩ | ⟨g', cap, cur, hv, hb, hh, h1, h2, h3, h4⟩
  · cases h0
  · injection hv with e1 e2 e3
    injection e1 with e1
    injection e1 with e1
    subst e1 e3
    refine .inr ⟨g, c, cur, rfl, hb, hh, by omega, h2, h3, ?_⟩
    rw [Nat.mul_one]
    have h5 : cur.toList.take n = (cur.toList.take ((n + 1) * 1)).take n := by rw [List.take_take]; congr 1; omega
    rw [h5, h4, List.take_append_of_le_length (by omega), List.take_of_length_le (by omega)]
theorem twin_own (A : Option Addr) (n c : Nat) (l : List UInt8) (w : World) (h : Lies w w.heap.size 1 A n (l.map bv)) (hn : n ≤ 1099511627776) :
    Calls Tryd.prog 5 #[.slice A n c] w fun e w' => GotS w n l e w' :=
  (twin_any A n c l w h hn).mono fun e w' ⟨g, c', he, ho, hb⟩ => by
    have ho2 := ho
    rcases ho2.2 with ⟨h0, _⟩ | ⟨g', cap, cur, hv, _, hh, h1, h2, h3, h4⟩
    · cases h0
    injection hv with _ _ e3
    subst e3
    rw [List.map_append] at ho
    exact ⟨g, c', he, by omega, h2, own_less ho, hb⟩

/-- where 's[l:]' lies -/
def cutA (A : Option Addr) (c l : Nat) : Option Addr := if c = l then A else A.map (·.add l)
theorem run_cut (w : World) (A : Option Addr) (n c l : Nat) (h : l ≤ n) :
    (Instr.slice 22 (.slice A n c) (some (.int .i64 (l : Int))) none none).run Tryd.prog w = .ok (.slice (cutA A c l) (n - l) (c - l)) w := by
  obtain ⟨i0, hi, hz0, hz1, hz2⟩ := info_parts byte_info
  unfold Instr.slice cutA
  simp [run_underlying Tryd.underlying22, Instr.sliceBounds, Instr.sliceBound, asIntOf, sizeOf, typeInfo, hi, hz1, h]
theorem Lies.cutA {w : World} {B n : Nat} {A : Option Addr} {l : List UInt8} (h : Lies w B 1 A n (l.map bv)) {m c : Nat} (hm : m ≤ n) (hc : n ≤ c) : Lies w B 1 (cutA A c m) (n - m) ((l.drop m).map bv) := by
  rw [List.map_drop]; exact h.cut hm hc

/-- the bits of a number, and the bytes that it takes -/
theorem enc_bits (n j : Nat) (hj : j ≤ 63) (h1 : n < 2 ^ (j + 1)) (h2 : j = 0 ∨ 2 ^ j ≤ n) : (Vi.enc n).length = (j + 1 + 6) / 7 := by
  have hle : (Vi.enc n).length ≤ j / 7 + 1 := Vi.encF_le 10 n (j / 7 + 1) (by omega) (Nat.lt_of_lt_of_le h1 (Nat.pow_le_pow_right (by decide) (by omega)))
  have hge : j / 7 + 1 ≤ (Vi.enc n).length := by
    rcases h2 with h2 | h2
    · subst h2; exact Vi.enc_pos n
    · exact Vi.encF_ge 10 n (j / 7) (Nat.le_trans (Nat.pow_le_pow_right (by decide) (by omega)) h2) (by omega)
  omega

/-- what was answered lies there still -/
theorem got_lies {w w1 : World} {A : Option Addr} {n c base : Nat} {l : List UInt8} (h : w.ownsRow base 5 1 (.slice A n c) n (l.map bv)) (hb : Below w.heap.size w w1) : Lies w1 w1.heap.size 1 A n (l.map bv) :=
  ((Lies.of_own h).below hb).more hb.size
theorem lies_take {w : World} {A : Option Addr} {n B m : Nat} {l : List UInt8} (h : Lies w B 1 A n (l.map bv)) (hm : m ≤ n) : Lies w B 1 A m ((l.take m).map bv) := by
  rw [List.map_take]; exact h.take_ hm

end Go.Proofs.YthjhoealkalfgaaDoor
