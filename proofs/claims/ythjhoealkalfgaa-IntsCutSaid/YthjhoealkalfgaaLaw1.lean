/-
  What the laws of layer 1 share: Beyond at one number; Put, PutFour, PutText at nothing, with what lies where.
-/
import Derived.Test.YthjhoealkalfgaaHelpB
import Derived.Test.YthjhoealkalfgaaAlive1
namespace Go.Proofs.Ythjhoealkalfgaa
open Go.RowKit

theorem beyond_yes (z : Nat) (w : World) (hz : z ≤ 4611686018427387904) (h : 1048576 < z) :
    Calls Try.prog 12 #[.slice (some ⟨w.heap.size, 0, none⟩) 1 1] (w.alloc (.cells #[.int .i64 (z : Int)] 3)) fun e w' => e = .returned (.bool true) ∧ Below w.heap.size w w' := by
  have hl := one_lies (w := w) rfl (.int .i64 (z : Int)) 3
  refine (beyond_any _ 1 1 [z] _ (hl.more (by simp)) (by simpa using hz) (by decide)).mono fun e w' ⟨he, hw⟩ => ?_
  subst hw
  have hb : big [z] = true := by unfold big; rw [List.sum_singleton]; exact decide_eq_true h
  exact ⟨by rw [he, hb], (Below.refl _ _).alloc (Nat.le_refl _) _⟩
theorem beyond_no (z : Nat) (w : World) (h : z ≤ 1048576) :
    Calls Try.prog 12 #[.slice (some ⟨w.heap.size, 0, none⟩) 1 1] (w.alloc (.cells #[.int .i64 (z : Int)] 3)) fun e w' => e = .returned (.bool false) ∧ Below w.heap.size w w' := by
  have hl := one_lies (w := w) rfl (.int .i64 (z : Int)) 3
  refine (beyond_any _ 1 1 [z] _ (hl.more (by simp)) (by simp; omega) (by decide)).mono fun e w' ⟨he, hw⟩ => ?_
  subst hw
  have hb : big [z] = false := by unfold big; rw [List.sum_singleton]; exact decide_eq_false (by omega)
  exact ⟨by rw [he, hb], (Below.refl _ _).alloc (Nat.le_refl _) _⟩

/-- a slice of bytes that was answered: its length, its capacity, its bytes, in new memory -/
def Got (w : World) (n : Nat) (l : List UInt8) (e : Ending) (w' : World) : Prop :=
  ∃ A c, e = .returned (.slice A n c) ∧ n ≤ c ∧ c ≤ maxLen ∧ w'.ownsRow w.heap.size 5 1 (.slice A n c) n (l.map bv) ∧ Below w.heap.size w w'
theorem got_of {w w' : World} {v : Value} {n : Nat} {l : List UInt8} (h : w'.ownsRow w.heap.size 5 1 v n (l.map bv)) (hb : Below w.heap.size w w') : Got w n l (.returned v) w' := by
  obtain ⟨A, c, rfl, h1, h2, _⟩ := own_shape h
  exact ⟨A, c, rfl, h1, h2, h, hb⟩

theorem put_nil (k : Nat) (w : World) (hk : k < 18446744073709551616) :
    Calls Try.prog 22 #[.slice none 0 0, .int .u64 (k : Int)] w fun e w' => Got w (Vi.enc k).length (Vi.enc k) e w' :=
  (put_any none 0 0 k [] w (Lies.none_ _ _ _ _) hk (by decide)).mono fun e w' ⟨v, he, ho, hb⟩ => by
    subst he
    exact got_of (by simpa using ho) hb
theorem putFour_nil (k : Nat) (w : World) (hk : k < 4294967296) :
    Calls Try.prog 25 #[.slice none 0 0, .int .u32 (k : Int)] w fun e w' => Got w 4 (four k) e w' :=
  (putFour_any none 0 0 k [] w (Lies.none_ _ _ _ _) hk (by decide)).mono fun e w' ⟨v, he, ho, hb⟩ => by
    subst he
    exact got_of (by simpa using ho) hb
theorem putText_nil (s : ByteArray) (w : World) (hs : s.size ≤ 549755813888) :
    Calls Try.prog 24 #[.slice none 0 0, .string s] w fun e w' => Got w ((Vi.enc s.size).length + s.size) (Vi.enc s.size ++ s.data.toList) e w' :=
  (putText_any none 0 0 s [] w (Lies.none_ _ _ _ _) (by omega)).mono fun e w' ⟨v, he, ho, hb⟩ => by
    subst he
    exact got_of (by simpa using ho) hb

/-- what was answered lies there still -/
theorem got_lies {w w1 : World} {A : Option Addr} {n c base : Nat} {l : List UInt8} (h : w.ownsRow base 5 1 (.slice A n c) n (l.map bv)) (hb : Below w.heap.size w w1) : Lies w1 w1.heap.size 1 A n (l.map bv) :=
  ((Lies.of_own h).below hb).more hb.size
theorem lies_take {w : World} {A : Option Addr} {n B m : Nat} {l : List UInt8} (h : Lies w B 1 A n (l.map bv)) (hm : m ≤ n) : Lies w B 1 A m ((l.take m).map bv) := by
  rw [List.map_take]; exact h.take_ hm

theorem slen (s : ByteArray) : s.data.toList.length = s.size := by rw [Array.length_toList]; rfl

/-- a text that is cut off is short -/
theorem getText_cut (s : ByteArray) (m : Nat) (hs : s.size < 18446744073709551616) (hm : m < (Vi.enc s.size).length + s.size) : getText ((Vi.enc s.size ++ s.data.toList).take m) = ([], 0, 5) := by
  rw [List.take_append]
  by_cases h : m < (Vi.enc s.size).length
  · have e : m - (Vi.enc s.size).length = 0 := by omega
    rw [e, List.take_zero, List.append_nil]
    have g := Vi.get_cut s.size m hs h
    unfold getText
    rw [g]
    simp
  · rw [List.take_of_length_le (by omega)]
    have g := Vi.get_enc s.size (s.data.toList.take (m - (Vi.enc s.size).length)) hs
    unfold getText
    rw [g]
    simp only [ne_eq, not_true_eq_false, if_false]
    rw [if_pos]
    have := slen s
    simp
    omega
theorem getText_enc (s : ByteArray) (r : List UInt8) (hs : s.size < 18446744073709551616) : getText (Vi.enc s.size ++ (s.data.toList ++ r)) = (s.data.toList, (Vi.enc s.size).length + s.size, 0) := by
  have g := Vi.get_enc s.size (s.data.toList ++ r) hs
  have hl := slen s
  unfold getText
  rw [g]
  simp only [ne_eq, not_true_eq_false, if_false]
  rw [if_neg (by simp only [List.length_append]; omega), List.drop_append, List.drop_eq_nil_of_le (Nat.le_refl _), Nat.sub_self, List.drop_zero, List.nil_append, ← hl, List.take_append_of_le_length (Nat.le_refl _), List.take_length]
theorem getFour_short (l : List UInt8) (h : l.length < 4) : getFour l = (0, 5) := by
  match l, h with
  | [], _ => rfl
  | [_], _ => rfl
  | [_, _], _ => rfl
  | [_, _, _], _ => rfl
theorem getFour_four (k : Nat) (r : List UInt8) (hk : k < 4294967296) : getFour (four k ++ r) = (k, 0) := by
  unfold four getFour
  simp only [List.cons_append]
  rw [Vi.toNat_ofNat _ (by omega), Vi.toNat_ofNat _ (by omega), Vi.toNat_ofNat _ (by omega), Vi.toNat_ofNat _ (by omega)]
  congr 1
  omega
end Go.Proofs.Ythjhoealkalfgaa
