/-
  Lists of marks and of entries in memory; contracts of the laws' helpers: great, EntriesSize.
-/
import Derived.Test.YtbbimfbkllellaaGreatDoorMemM
import Derived.Test.YtbbimfbkllellaaGreatDoorTxt
import Derived.LoopTactic
namespace Go.Proofs.YtbbimfbkllellaaGreatDoor
open Go.RowKit
set_option linter.unusedVariables false
set_option maxRecDepth 100000

theorem flat_len {α β : Type} (f : α → List β) (k : Nat) (hk : ∀ a, (f a).length = k) (l : List α) : (l.flatMap f).length = l.length * k := by
  induction l with
  | nil => simp
  | cons a l ih => rw [List.flatMap_cons, List.length_append, ih, hk, List.length_cons, Nat.succ_mul]; omega
theorem flat_get {α β : Type} (f : α → List β) (k : Nat) (hk : ∀ a, (f a).length = k) (l : List α) : ∀ (i j : Nat) (a : α), l[i]? = some a → j < k → (l.flatMap f)[i * k + j]? = (f a)[j]? := by
  induction l with
  | nil => intro i j a ha; simp at ha
  | cons b l ih =>
    intro i j a ha hj
    rw [List.flatMap_cons]
    cases i with
    | zero =>
      simp at ha; subst ha
      rw [Nat.zero_mul, Nat.zero_add, List.getElem?_append_left (by rw [hk]; exact hj)]
    | succ i =>
      rw [List.getElem?_append_right (by rw [hk, Nat.succ_mul]; omega), hk, show (i + 1) * k + j - k = i * k + j from by rw [Nat.succ_mul]; omega]
      exact ih i j a (by simpa using ha) hj

/-- the cells of a mark, of an entry -/
def Mk.cs (m : Mk) : List Value := [.string m.k, .int .u64 (m.s : Int), .bool m.g]
def En.cs (x : En) : List Value := [.string x.m.k, .int .u64 (x.m.s : Int), .bool x.m.g, .string x.x]
def mcs (l : List Mk) : List Value := l.flatMap Mk.cs
def ecs (l : List En) : List Value := l.flatMap En.cs
theorem mcs_len (l : List Mk) : (mcs l).length = l.length * 3 := flat_len Mk.cs 3 (fun _ => rfl) l
theorem ecs_len (l : List En) : (ecs l).length = l.length * 4 := flat_len En.cs 4 (fun _ => rfl) l
theorem mcs_app (l l' : List Mk) : mcs (l ++ l') = mcs l ++ mcs l' := by unfold mcs; simp
theorem mcs_take (l : List Mk) (k : Nat) : (mcs l).take (k * 3) = mcs (l.take k) := by
  unfold mcs
  induction l generalizing k with
  | nil => simp
  | cons a l ih => cases k with
    | zero => simp
    | succ k => rw [List.take_succ_cons, List.flatMap_cons, List.flatMap_cons, ← ih k, Nat.succ_mul]; simp [Mk.cs, List.take_succ_cons]
theorem mcs_drop (l : List Mk) (k : Nat) : (mcs l).drop (k * 3) = mcs (l.drop k) := by
  unfold mcs
  induction l generalizing k with
  | nil => simp
  | cons a l ih => cases k with
    | zero => simp
    | succ k => rw [List.drop_succ_cons, List.flatMap_cons, ← ih k, Nat.succ_mul]; simp [Mk.cs]
theorem mcs_one (l : List Mk) : ∀ u ∈ mcs l, u.oneCell' = true := by
  intro u hu
  obtain ⟨m, _, hm⟩ := List.mem_flatMap.1 hu
  simp only [Mk.cs, List.mem_cons, List.not_mem_nil, or_false] at hm
  rcases hm with rfl | rfl | rfl <;> rfl

section
variable {w : World} {B n k i : Nat} {A : Option Addr}
/-- where an element lies -/
theorem Lies.elem {xs : List Value} (h : Lies w B k A n xs) (hk : 0 < k) (hi : i < n) : ∃ b o, A = some ⟨b, o, none⟩ ∧ b < B ∧ ∀ j, j < k → w.cell? ⟨b, o + (i * k + j), none⟩ = xs[i * k + j]? := by
  have hlen := h.len
  have hin : ∀ j, j < k → i * k + j < xs.length := fun j hj => by
    rw [hlen]
    have : (i + 1) * k ≤ n * k := Nat.mul_le_mul_right _ hi
    rw [Nat.succ_mul] at this; omega
  obtain ⟨ad, u0, e, hb, hx, hc⟩ := h.spot 0 (by have := hin 0 hk; omega)
  obtain ⟨b, o, sp⟩ := ad
  have hsp : sp = none := by simpa [Addr.add] using World.cell?_spot hc
  subst hsp
  refine ⟨b, o, e, hb, fun j hj => ?_⟩
  obtain ⟨ad, u, e2, _, hx2, hc2⟩ := h.spot (i * k + j) (hin j hj)
  rw [e] at e2
  injection e2 with e2
  subst e2
  rw [add_lit] at hc2
  rw [hc2, hx2]
theorem Lies.mark {l : List Mk} (h : Lies w B 3 A n (mcs l)) (hi : i < n) :
    ∃ b o m, A = some ⟨b, o, none⟩ ∧ b < B ∧ l[i]? = some m ∧ w.cell? ⟨b, o + i * 3, none⟩ = some (.string m.k) ∧ w.cell? ⟨b, o + i * 3 + 1, none⟩ = some (.int .u64 (m.s : Int)) ∧ w.cell? ⟨b, o + i * 3 + 2, none⟩ = some (.bool m.g) := by
  obtain ⟨b, o, e, hb, hc⟩ := h.elem (by decide) hi
  have hl : i < l.length := by have := h.len; rw [mcs_len] at this; omega
  refine ⟨b, o, l[i], e, hb, List.getElem?_eq_getElem hl, ?_, ?_, ?_⟩
  · rw [show o + i * 3 = o + (i * 3 + 0) from rfl, hc 0 (by decide)]; exact flat_get Mk.cs 3 (fun _ => rfl) l i 0 _ (List.getElem?_eq_getElem hl) (by decide)
  · rw [Nat.add_assoc, hc 1 (by decide)]; exact flat_get Mk.cs 3 (fun _ => rfl) l i 1 _ (List.getElem?_eq_getElem hl) (by decide)
  · rw [Nat.add_assoc, hc 2 (by decide)]; exact flat_get Mk.cs 3 (fun _ => rfl) l i 2 _ (List.getElem?_eq_getElem hl) (by decide)
theorem Lies.entry {l : List En} (h : Lies w B 4 A n (ecs l)) (hi : i < n) :
    ∃ b o x, A = some ⟨b, o, none⟩ ∧ b < B ∧ l[i]? = some x ∧ w.cell? ⟨b, o + i * 4, none⟩ = some (.string x.m.k) ∧ w.cell? ⟨b, o + i * 4 + 1, none⟩ = some (.int .u64 (x.m.s : Int)) ∧ w.cell? ⟨b, o + i * 4 + 2, none⟩ = some (.bool x.m.g) ∧ w.cell? ⟨b, o + i * 4 + 3, none⟩ = some (.string x.x) := by
  obtain ⟨b, o, e, hb, hc⟩ := h.elem (by decide) hi
  have hl : i < l.length := by have := h.len; rw [ecs_len] at this; omega
  refine ⟨b, o, l[i], e, hb, List.getElem?_eq_getElem hl, ?_, ?_, ?_, ?_⟩
  · rw [show o + i * 4 = o + (i * 4 + 0) from rfl, hc 0 (by decide)]; exact flat_get En.cs 4 (fun _ => rfl) l i 0 _ (List.getElem?_eq_getElem hl) (by decide)
  · rw [Nat.add_assoc, hc 1 (by decide)]; exact flat_get En.cs 4 (fun _ => rfl) l i 1 _ (List.getElem?_eq_getElem hl) (by decide)
  · rw [Nat.add_assoc, hc 2 (by decide)]; exact flat_get En.cs 4 (fun _ => rfl) l i 2 _ (List.getElem?_eq_getElem hl) (by decide)
  · rw [Nat.add_assoc, hc 3 (by decide)]; exact flat_get En.cs 4 (fun _ => rfl) l i 3 _ (List.getElem?_eq_getElem hl) (by decide)
theorem Lies.mlen {l : List Mk} (h : Lies w B 3 A n (mcs l)) : l.length = n := by have := h.len; rw [mcs_len] at this; omega
theorem Lies.elen {l : List En} (h : Lies w B 4 A n (ecs l)) : l.length = n := by have := h.len; rw [ecs_len] at this; omega
end

/-- how many bytes keys have -/
def ksum (l : List Mk) : Nat := (l.map fun m => m.k.size).sum
theorem ksum_take (l : List Mk) (k : Nat) (m : Mk) (h : l[k]? = some m) : ksum (l.take (k + 1)) = ksum (l.take k) + m.k.size := by
  unfold ksum
  rw [List.take_add_one, h]; simp
end Go.Proofs.YtbbimfbkllellaaGreatDoor
