/-
  Plain mathematics of TablesGet and TablesElder: the first entry of a key up to a number; how many numbers a key has.
-/
import Derived.Test.YtopcnlophmplgaaGreatDoorTLaw
namespace Go.Proofs.YtopcnlophmplgaaGreatDoor
open Go.RowKit
set_option linter.unusedVariables false

theorem cmpG_true (g : Bool) : ¬ cmpG g true < 0 := by cases g <;> decide
/-- ahead of the first mark of a key up to a number -/
theorem ahead_iff (e : Mk) (k : ByteArray) (s : Nat) : cmpM e ⟨k, s, true⟩ < 0 ↔ cmpS e.k k < 0 ∨ (e.k = k ∧ s < e.s) := by
  rw [cmpM_eq]
  by_cases h : cmpS e.k k = 0
  · have hk := tri_S.same _ _ h
    rw [if_neg (by simpa using h)]
    by_cases h2 : cmpN s e.s = 0
    · have h3 := tri_N.same _ _ h2
      rw [if_neg (by simpa using h2)]
      constructor
      · intro q; exact absurd q (cmpG_true _)
      · rintro (q | q)
        · omega
        · omega
    · rw [if_pos h2]
      unfold cmpN at h2 ⊢
      constructor
      · intro q
        refine .inr ⟨hk, ?_⟩
        (repeat' split at q) <;> omega
      · rintro (q | q)
        · omega
        · rw [if_pos q.2]; decide
  · rw [if_pos h]
    constructor
    · intro q; exact .inl q
    · rintro (q | q)
      · exact q
      · exact absurd ((tri_S.zero _ _).2 q.1) h
def isK (key : ByteArray) (B : Nat) (e : En) : Bool := decide (e.m.k = key) && decide (e.m.s < B)
/-- behind an entry of a greater key there is none of this one -/
theorem behind {x : En} {S : List En} (h : Rise (x :: S)) {key : ByteArray} (hx : ¬ cmpS x.m.k key < 0) (hn : x.m.k ≠ key) : ∀ e ∈ S, e.m.k ≠ key := by
  intro e he hk
  have h1 := (List.pairwise_cons.1 h).1 e he
  rw [cmpM_eq] at h1
  have h2 : cmpS x.m.k e.m.k ≠ 0 := fun q => hn ((tri_S.same _ _ q).trans hk)
  rw [if_pos h2, hk] at h1
  exact hx h1
theorem none_find {S : List En} {key : ByteArray} {B : Nat} (h : ∀ e ∈ S, e.m.k ≠ key) : S.find? (isK key B) = none := by
  rw [List.find?_eq_none]
  intro e he q
  unfold isK at q
  rw [Bool.and_eq_true, decide_eq_true_eq] at q
  exact h e he q.1
theorem getE_find : ∀ (S : List En) (hr : Rise S) (key : ByteArray) (s : Nat), getE S key s = S.find? (isK key (s + 1))
  | [], _, _, _ => rfl
  | x :: S, hr, key, s => by
    have hr2 := (List.pairwise_cons.1 hr).2
    have ih := getE_find S hr2 key s
    have ha := ahead_iff x.m key s
    rw [List.find?_cons]
    by_cases hb : cmpM x.m ⟨key, s, true⟩ < 0
    · have hb2 : bef ⟨key, s, true⟩ x = true := decide_eq_true hb
      have hp : isK key (s + 1) x = false := by
        unfold isK
        rcases ha.1 hb with q | q
        · rw [decide_eq_false (fun e => by rw [e, tri_S.self] at q; omega)]; rfl
        · rw [decide_eq_false (p := x.m.s < s + 1) (by omega), Bool.and_false]
      rw [hp]
      unfold getE
      rw [List.dropWhile_cons, if_pos hb2]
      exact ih
    · have hb2 : ¬ bef ⟨key, s, true⟩ x = true := by unfold bef; simpa using hb
      unfold getE
      rw [List.dropWhile_cons, if_neg hb2]
      show (if x.m.k = key then some x else none) = _
      by_cases hk : x.m.k = key
      · have h3 : x.m.s < s + 1 := by
          have : ¬ s < x.m.s := fun q => hb (ha.2 (.inr ⟨hk, q⟩))
          omega
        have hp : isK key (s + 1) x = true := by unfold isK; rw [decide_eq_true hk, decide_eq_true h3]; rfl
        rw [if_pos hk, hp]
      · have hp : isK key (s + 1) x = false := by unfold isK; rw [decide_eq_false hk]; rfl
        rw [if_neg hk, hp]
        exact (none_find (behind hr (fun q => hb (ha.2 (.inl q))) hk)).symm
theorem find_less {α : Type} {p q : α → Bool} {x : α} (hqp : ∀ e, q e = true → p e = true) (hq : q x = true) : ∀ S : List α, S.find? p = some x → S.find? q = some x
  | [], h => by cases h
  | e :: S, h => by
    rw [List.find?_cons] at h ⊢
    cases hp : p e
    · rw [hp] at h
      have : q e = false := by
        cases hh : q e
        · rfl
        · rw [hqp e hh] at hp; cases hp
      rw [this]
      exact find_less hqp hq S h
    · rw [hp] at h
      injection h with h
      subst h
      rw [hq]
/-- asked for the number that was told, the same is told -/
theorem getE_again {S : List En} (hr : Rise S) {key : ByteArray} {s : Nat} {x : En} (h : getE S key s = some x) : getE S key x.m.s = some x := by
  rw [getE_find S hr] at h ⊢
  have hx := List.find?_some h
  unfold isK at hx
  rw [Bool.and_eq_true, decide_eq_true_eq, decide_eq_true_eq] at hx
  refine find_less (fun e q => ?_) ?_ S h
  · unfold isK at q ⊢
    rw [Bool.and_eq_true, decide_eq_true_eq, decide_eq_true_eq] at q ⊢
    exact ⟨q.1, by omega⟩
  · unfold isK
    rw [decide_eq_true hx.1, decide_eq_true (by omega)]; rfl

/-- how many numbers a key has, below a bound; the entry ahead of these is told -/
def sameNo (key : ByteArray) (p : Option En) (e : En) : Bool := match p with | some p => decide (p.m.k = key) && decide (p.m.s = e.m.s) | none => false
def nums (key : ByteArray) (B : Nat) : Option En → List En → Nat
  | _, [] => 0
  | p, e :: S => (if isK key B e && !sameNo key p e then 1 else 0) + nums key B (some e) S
theorem nums_none (key : ByteArray) (B : Nat) : ∀ (S : List En) (p : Option En), S.find? (isK key B) = none → nums key B p S = 0
  | [], _, _ => rfl
  | e :: S, p, h => by
    rw [List.find?_cons] at h
    cases hk : isK key B e
    · rw [hk] at h
      unfold nums
      rw [hk, nums_none key B S (some e) h]; rfl
    · rw [hk] at h; cases h
theorem nums_le (key : ByteArray) (B : Nat) : ∀ (S : List En) (p : Option En), nums key B p S ≤ S.length
  | [], _ => Nat.le_refl _
  | e :: S, p => by
    have := nums_le key B S (some e)
    unfold nums
    rw [List.length_cons]
    split <;> omega
theorem nums_same {key : ByteArray} : ∀ (S : List En) (e : En), Rise (e :: S) → e.m.k = key → ∀ B, e.m.s < B → nums key B (some e) S = nums key e.m.s (some e) S
  | [], _, _, _, _, _ => rfl
  | f :: S, e, hr, hk, B, hB => by
    have h1 := (List.pairwise_cons.1 hr).1 f (by simp)
    have hr2 := (List.pairwise_cons.1 hr).2
    by_cases hf : f.m.k = key
    · have hle : f.m.s ≤ e.m.s := by
        rw [cmpM_eq, if_neg (by rw [hk, hf, tri_S.self]; omega)] at h1
        by_cases q : cmpN f.m.s e.m.s = 0
        · have := tri_N.same _ _ q; omega
        · rw [if_pos q] at h1
          unfold cmpN at h1
          (repeat' split at h1) <;> omega
      have a1 := nums_same S f hr2 hf
      unfold nums
      by_cases hs : f.m.s = e.m.s
      · have n1 : sameNo key (some e) f = true := by unfold sameNo; simp [hk, hs]
        rw [n1, a1 B (by omega), ← hs]; simp
      · have n1 : sameNo key (some e) f = false := by unfold sameNo; simp [hk]; omega
        have i1 : isK key B f = true := by unfold isK; simp [hf]; omega
        have i2 : isK key e.m.s f = true := by unfold isK; simp [hf]; omega
        rw [n1, i1, i2, a1 B (by omega), a1 e.m.s (by omega)]
    · have hgt : ¬ cmpS f.m.k key < 0 := fun q => by
        rw [cmpM_eq, hk] at h1
        have h2 : cmpS key f.m.k ≠ 0 := fun z => hf (tri_S.same _ _ z).symm
        rw [if_pos h2] at h1
        have := tri_S.turn key f.m.k
        omega
      have hb := behind hr2 hgt hf
      have hall : ∀ x ∈ f :: S, x.m.k ≠ key := fun x hx => by
        rcases List.mem_cons.1 hx with rfl | hx
        · exact hf
        · exact hb x hx
      rw [nums_none key B _ _ (none_find hall), nums_none key e.m.s _ _ (none_find hall)]
theorem nums_next {key : ByteArray} {B : Nat} {x : En} : ∀ (S : List En) (p : Option En), Rise S → (∀ y, p = some y → y.m.k = key → B ≤ y.m.s) → S.find? (isK key B) = some x → nums key B p S = 1 + nums key x.m.s p S
  | [], _, _, _, h => by cases h
  | e :: S, p, hr, hp, h => by
    rw [List.find?_cons] at h
    have hr2 := (List.pairwise_cons.1 hr).2
    cases hk : isK key B e
    · rw [hk] at h
      have hx := List.find?_some h
      unfold isK at hx hk
      rw [Bool.and_eq_true, decide_eq_true_eq, decide_eq_true_eq] at hx
      have i2 : isK key x.m.s e = false := by
        unfold isK
        by_cases q : e.m.k = key
        · rw [decide_eq_true q, Bool.true_and] at hk ⊢
          have := of_decide_eq_false hk
          exact decide_eq_false (by omega)
        · rw [decide_eq_false q]; rfl
      have ih := nums_next S (some e) hr2 (fun y hy hyk => by
        injection hy with hy
        subst hy
        rw [decide_eq_true hyk, Bool.true_and] at hk
        have := of_decide_eq_false hk
        omega) h
      unfold nums
      rw [show isK key B e = false from hk, i2, ih]; simp
    · rw [hk] at h
      injection h with h
      subst h
      have hk2 := hk
      unfold isK at hk2
      rw [Bool.and_eq_true, decide_eq_true_eq, decide_eq_true_eq] at hk2
      have n1 : sameNo key p e = false := by
        unfold sameNo
        cases p with
        | none => rfl
        | some y =>
          by_cases q : y.m.k = key
          · have := hp y rfl q
            simp [q]; omega
          · simp [q]
      have i2 : isK key e.m.s e = false := by unfold isK; simp
      unfold nums
      rw [hk, n1, i2, nums_same S e hr hk2.1 B hk2.2]; simp
theorem nums_zero (key : ByteArray) (p : Option En) (S : List En) : nums key 0 p S = 0 := nums_none key 0 S p (by
  rw [List.find?_eq_none]
  intro e he q
  unfold isK at q
  rw [Bool.and_eq_true, decide_eq_true_eq, decide_eq_true_eq] at q
  omega)
end Go.Proofs.YtopcnlophmplgaaGreatDoor
