/-
  Contracts of package ints: the reader of varints, Get.
  Contracts of package ints: Get.
  Contracts of package ints: GetText.
-/
import Derived.Test.YtoljldokehfokaaInA
import Derived.RegionTactic
import Derived.ChangeAlike
namespace Go.Proofs.Ytoljldokehfokaa
open Go.RowKit
set_option linter.unusedVariables false

theorem and127b (n : Nat) (hn : n < 256) : bits .and .u8 (n : Int) 127 = ((n % 128 : Nat) : Int) := by
  have h := u8_and_nat n 127 hn (by omega)
  have e : n &&& 127 = n % 128 := Nat.and_two_pow_sub_one_eq_mod n 7
  rw [e] at h
  exact h

theorem or_low (sh s p : Nat) (hs : s < 2 ^ sh) (h : s + p * 2 ^ sh < 18446744073709551616) : bits .or .u64 (s : Int) ((p * 2 ^ sh : Nat) : Int) = ((s + p * 2 ^ sh : Nat) : Int) := by
  rw [u64_or_nat s (p * 2 ^ sh) (by omega) (by omega)]
  have e := Nat.two_pow_add_eq_or_of_lt (i := sh) (b := s) hs p
  rw [Nat.mul_comm (2 ^ sh) p] at e
  rw [Nat.or_comm, ← e, Nat.add_comm]
theorem wrap_u64_nat (q : Nat) (h : q < 18446744073709551616) : IntKind.u64.wrap (q : Int) = (q : Int) := by
  rw [IntKind.wrap_u64]; omega
theorem Box.ne {w : World} {g g' : Nat} {t t' : TypeId} {v v' : Value} (h : Box w g t v) (h' : Box w g' t' v') (hne : t ≠ t') : g ≠ g' := by
  rintro rfl
  unfold Box at h h'
  rw [h] at h'
  injection h' with h'
  injection h' with _ h'
  exact hne h'

end Go.Proofs.Ytoljldokehfokaa

namespace Go.Proofs.Ytoljldokehfokaa
open Go.RowKit
set_option linter.unusedVariables false

/-- what the loop of Get keeps: k bytes were read, s is their sum -/
def GRel (w : World) (l : List UInt8) (m : Nat) (i : Value) (wr : World) : Prop :=
  ∃ k s : Nat, k ≤ m ∧ i = .int .i64 (k : Int) ∧ s < 2 ^ (7 * k) ∧ Box wr (w.heap.size + 1) 3 (.int .i64 ((7 * k : Nat) : Int)) ∧ Box wr w.heap.size 27 (.int .u64 (s : Int)) ∧
    Vi.getGo k s (l.drop k) = Vi.get l ∧ Below w.heap.size w wr

theorem boxes_below {w wr : World} {n : Nat} {x y : Value} (hb : Below w.heap.size w wr) : Below w.heap.size w (((wr.setCell ⟨w.heap.size, 0, none⟩ x).setCell ⟨w.heap.size + 1, 0, none⟩ y).drewN n) :=
  below_drewN ((hb.setCell (p := ⟨w.heap.size, 0, none⟩) (Nat.le_refl _) _).setCell (p := ⟨w.heap.size + 1, 0, none⟩) (Nat.le_succ _) _) n

theorem GRel.next {w wr : World} {l : List UInt8} {m k s q n c : Nat} (hk : k < m) (hm : m ≤ 10) (hc : 128 ≤ c) (hc2 : c < 256) (hl : l[k]? = some (UInt8.ofNat c)) (hs : s < 2 ^ (7 * k)) (hq : q = c % 128 * 2 ^ (7 * k)) (hfit : c % 128 * 2 ^ (7 * k) < 18446744073709551616)
    (h1 : Box wr (w.heap.size + 1) 3 (.int .i64 ((7 * k : Nat) : Int))) (h2 : Box wr w.heap.size 27 (.int .u64 (s : Int))) (hget : Vi.getGo k s (l.drop k) = Vi.get l) (hb : Below w.heap.size w wr) :
    GRel w l m (.int .i64 ((k : Int) + 1)) (((wr.setCell ⟨w.heap.size, 0, none⟩ (.int .u64 ((s + q : Nat) : Int))).setCell ⟨w.heap.size + 1, 0, none⟩ (.int .i64 (((7 * k : Nat) : Int) + 7))).drewN n) := by
  refine ⟨k + 1, s + q, hk, by simp, ?_, ?_, ?_, ?_, boxes_below hb⟩
  · rw [Vi.pow7, hq]
    have h4 : c % 128 * 2 ^ (7 * k) ≤ 127 * 2 ^ (7 * k) := Nat.mul_le_mul_right _ (by omega)
    omega
  · have e : (((7 * (k + 1) : Nat)) : Int) = ((7 * k : Nat) : Int) + 7 := by omega
    rw [e]
    exact (h1.far (p := ⟨w.heap.size, 0, none⟩) (by simp) _).set _
  · exact (h2.set _).far (p := ⟨w.heap.size + 1, 0, none⟩) (by simp) _
  · rw [← hget]
    have hlt : k < l.length := by rcases List.getElem?_eq_some_iff.1 hl with ⟨h, _⟩; exact h
    have hd : l.drop k = UInt8.ofNat c :: l.drop (k + 1) := by
      rw [List.drop_eq_getElem_cons hlt]
      rcases List.getElem?_eq_some_iff.1 hl with ⟨_, h⟩
      rw [h]
    rw [hd]
    conv => rhs; unfold Vi.getGo
    rw [Vi.toNat_ofNat c hc2, if_neg (by omega), if_neg (by omega), if_neg (by omega), hq]
theorem GRel.end_ {l : List UInt8} {k s c : Nat} (hk : k < 10) (hc2 : c < 128) (hl : l[k]? = some (UInt8.ofNat c)) (hfit : c * 2 ^ (7 * k) < 18446744073709551616) (hnz : 0 < c ∨ k = 0)
    (hget : Vi.getGo k s (l.drop k) = Vi.get l) : Vi.get l = (s + c * 2 ^ (7 * k), k + 1, 0) := by
  rw [← hget]
  have hlt : k < l.length := by rcases List.getElem?_eq_some_iff.1 hl with ⟨h, _⟩; exact h
  have hd : l.drop k = UInt8.ofNat c :: l.drop (k + 1) := by
    rw [List.drop_eq_getElem_cons hlt]
    rcases List.getElem?_eq_some_iff.1 hl with ⟨_, h⟩
    rw [h]
  rw [hd]
  unfold Vi.getGo
  rw [Vi.toNat_ofNat c (by omega), Nat.mod_eq_of_lt hc2, if_neg (by omega), if_neg (by omega), if_pos hc2]
theorem GRel.bad {l : List UInt8} {k s c : Nat} (hk : k < 10) (hc2 : c < 256) (hl : l[k]? = some (UInt8.ofNat c)) (hbad : 18446744073709551616 ≤ c % 128 * 2 ^ (7 * k) ∨ c = 0 ∧ 0 < 7 * k)
    (hget : Vi.getGo k s (l.drop k) = Vi.get l) : Vi.get l = (0, 0, 4) := by
  rw [← hget]
  have hlt : k < l.length := by rcases List.getElem?_eq_some_iff.1 hl with ⟨h, _⟩; exact h
  have hd : l.drop k = UInt8.ofNat c :: l.drop (k + 1) := by
    rw [List.drop_eq_getElem_cons hlt]
    rcases List.getElem?_eq_some_iff.1 hl with ⟨_, h⟩
    rw [h]
  rw [hd]
  unfold Vi.getGo
  rw [Vi.toNat_ofNat c (by omega), if_neg (by omega), if_pos]
  rcases hbad with h | ⟨h, h2⟩
  · exact .inl h
  · exact .inr ⟨h, by omega⟩
theorem GRel.out {l : List UInt8} {k s : Nat} (hk : k = min l.length 10) (hget : Vi.getGo k s (l.drop k) = Vi.get l) : Vi.get l = (0, 0, if l.length < 10 then 5 else 4) := by
  rw [← hget]
  by_cases h : l.length < 10
  · have e : k = l.length := by omega
    rw [e, List.drop_eq_nil_of_le (Nat.le_refl _)]
    simp [Vi.getGo, h]
  · have e : k = 10 := by omega
    rw [e, if_neg h]
    cases l.drop 10 <;> simp [Vi.getGo]

theorem box_second (w : World) (u v : Value) (t' t : TypeId) : Box ((w.alloc (.cells #[u] t')).alloc (.cells #[v] t)) (w.heap.size + 1) t v := by
  have h := Box.new (w.alloc (.cells #[u] t')) t v
  simpa using h

theorem at_map {l : List UInt8} {k : Nat} {u : Value} (h : (l.map bv)[k]? = some u) : ∃ x, l[k]? = some x ∧ u = bv x := by
  rw [List.getElem?_map] at h
  cases hx : l[k]? with
  | none => rw [hx] at h; cases h
  | some x => rw [hx] at h; injection h with h; exact ⟨x, rfl, h.symm⟩

end Go.Proofs.Ytoljldokehfokaa

namespace Go.Proofs.Ytoljldokehfokaa
open Go.RowKit
set_option linter.unusedVariables false
set_option maxRecDepth 100000

/-- what GetText answers -/
def getText (l : List UInt8) : List UInt8 × Nat × Nat :=
  if (Vi.get l).2.2 ≠ 0 then ([], 0, (Vi.get l).2.2)
  else if l.length - (Vi.get l).2.1 < (Vi.get l).1 then ([], 0, 5)
  else ((l.drop (Vi.get l).2.1).take (Vi.get l).1, (Vi.get l).2.1 + (Vi.get l).1, 0)

end Go.Proofs.Ytoljldokehfokaa

