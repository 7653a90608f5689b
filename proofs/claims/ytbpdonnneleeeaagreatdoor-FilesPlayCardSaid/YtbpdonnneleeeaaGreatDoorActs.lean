/-
  Acts: what the laws of layer 5 do with a disk, as they lie in memory, seven cells each.
-/
import Derived.Test.YtbpdonnneleeeaaGreatDoorMemZ
import Derived.LoopTactic
namespace Go.Proofs.YtbpdonnneleeeaaGreatDoor
open Go.RowKit
set_option linter.unusedVariables false

structure AcC where
  kind : Nat
  name : ByteArray
  to_ : ByteArray
  A : Option Addr
  n : Nat
  c : Nat
  l : List UInt8
  at_ : Int
  m : Int
  names : Bool
def AcC.cs (x : AcC) : List Value := [.int .u8 (x.kind : Int), .string x.name, .string x.to_, .slice x.A x.n x.c, .int .i64 x.at_, .int .i64 x.m, .bool x.names]
def acs (l : List AcC) : List Value := l.flatMap AcC.cs
/-- an act whose bytes lie below B -/
structure AcC.Ok (w : World) (B : Nat) (x : AcC) : Prop where
  kind : x.kind < 256
  name : x.name.size ≤ 140737488351232
  to_ : x.to_.size ≤ 140737488351232
  bytes : Lies w B 1 x.A x.n (x.l.map bv)
  nc : x.n ≤ x.c
  cap : x.c ≤ 140737488351232
  at1 : -9223372036854775808 ≤ x.at_
  at2 : x.at_ ≤ 9223372036854775807
  m1 : -9223372036854775808 ≤ x.m
  m2 : x.m ≤ 9223372036854775807
def Acts (w : World) (B : Nat) (l : List AcC) : Prop := ∀ x ∈ l, x.Ok w B
theorem AcC.Ok.below {w w' : World} {B : Nat} {x : AcC} (h : x.Ok w B) (hb : Below B w w') : x.Ok w' B :=
  ⟨h.kind, h.name, h.to_, h.bytes.below hb, h.nc, h.cap, h.at1, h.at2, h.m1, h.m2⟩
theorem AcC.Ok.keep {w w' : World} {B : Nat} {x : AcC} (h : x.Ok w B) (hb : ∀ p : Addr, p.block < B → w'.cell? p = w.cell? p) : x.Ok w' B :=
  ⟨h.kind, h.name, h.to_, h.bytes.keep hb, h.nc, h.cap, h.at1, h.at2, h.m1, h.m2⟩
theorem Acts.below {w w' : World} {B : Nat} {l : List AcC} (h : Acts w B l) (hb : Below B w w') : Acts w' B l := fun x hx => (h x hx).below hb
theorem Acts.keep {w w' : World} {B : Nat} {l : List AcC} (h : Acts w B l) (hb : ∀ p : Addr, p.block < B → w'.cell? p = w.cell? p) : Acts w' B l := fun x hx => (h x hx).keep hb
theorem Acts.more {w : World} {B B' : Nat} {l : List AcC} (h : Acts w B l) (hB : B ≤ B') : Acts w B' l := fun x hx =>
  ⟨(h x hx).kind, (h x hx).name, (h x hx).to_, (h x hx).bytes.more hB, (h x hx).nc, (h x hx).cap, (h x hx).at1, (h x hx).at2, (h x hx).m1, (h x hx).m2⟩

theorem flat_lenA {α β : Type} (f : α → List β) (k : Nat) (hk : ∀ a, (f a).length = k) (l : List α) : (l.flatMap f).length = l.length * k := by
  induction l with
  | nil => simp
  | cons a l ih => rw [List.flatMap_cons, List.length_append, ih, hk, List.length_cons, Nat.succ_mul]; omega
theorem flat_getA {α β : Type} (f : α → List β) (k : Nat) (hk : ∀ a, (f a).length = k) (l : List α) : ∀ (i j : Nat) (a : α), l[i]? = some a → j < k → (l.flatMap f)[i * k + j]? = (f a)[j]? := by
  induction l with
  | nil => intro i j a ha; simp at ha
  | cons b l ih =>
    intro i j a ha hj
    rw [List.flatMap_cons]
    cases i with
    | zero =>
      simp at ha; subst ha
      rw [Nat.zero_mul, Nat.zero_add, List.getElem?_append_left (by rw [hk]; exact hj)]
    | succ i =>
      rw [List.getElem?_append_right (by rw [hk, Nat.succ_mul]; omega), hk, show (i + 1) * k + j - k = i * k + j from by rw [Nat.succ_mul]; omega]
      exact ih i j a (by simpa using ha) hj
theorem acs_len (l : List AcC) : (acs l).length = l.length * 7 := flat_lenA AcC.cs 7 (fun _ => rfl) l

section
variable {w : World} {B n k i : Nat} {A : Option Addr}
theorem Lies.elemA {xs : List Value} (h : Lies w B k A n xs) (hk : 0 < k) (hi : i < n) : ∃ b o, A = some ⟨b, o, none⟩ ∧ b < B ∧ ∀ j, j < k → w.cell? ⟨b, o + (i * k + j), none⟩ = xs[i * k + j]? := by
  have hlen := h.len
  have hin : ∀ j, j < k → i * k + j < xs.length := fun j hj => by
    rw [hlen]
    have : (i + 1) * k ≤ n * k := Nat.mul_le_mul_right _ hi
    rw [Nat.succ_mul] at this; omega
  obtain ⟨ad, u0, e, hb, hx, hc⟩ := h.spot 0 (by have := hin 0 hk; omega)
  obtain ⟨b, o, sp⟩ := ad
  have hsp : sp = none := by simpa [Addr.add] using World.cell?_spot hc
  subst hsp
  refine ⟨b, o, e, hb, fun j hj => ?_⟩
  obtain ⟨ad, u, e2, _, hx2, hc2⟩ := h.spot (i * k + j) (hin j hj)
  rw [e] at e2
  injection e2 with e2
  subst e2
  rw [add_lit] at hc2
  rw [hc2, hx2]
theorem Lies.act {l : List AcC} (h : Lies w B 7 A n (acs l)) (hi : i < n) :
    ∃ b o x, A = some ⟨b, o, none⟩ ∧ b < B ∧ l[i]? = some x ∧ w.cell? ⟨b, o + i * 7, none⟩ = some (.int .u8 (x.kind : Int)) ∧ w.cell? ⟨b, o + i * 7 + 1, none⟩ = some (.string x.name) ∧ w.cell? ⟨b, o + i * 7 + 2, none⟩ = some (.string x.to_) ∧
      w.cell? ⟨b, o + i * 7 + 3, none⟩ = some (.slice x.A x.n x.c) ∧ w.cell? ⟨b, o + i * 7 + 4, none⟩ = some (.int .i64 x.at_) ∧ w.cell? ⟨b, o + i * 7 + 5, none⟩ = some (.int .i64 x.m) ∧ w.cell? ⟨b, o + i * 7 + 6, none⟩ = some (.bool x.names) := by
  obtain ⟨b, o, e, hb, hc⟩ := h.elemA (by decide) hi
  have hl : i < l.length := by have := h.len; rw [acs_len] at this; omega
  have hx : l[i]? = some l[i] := List.getElem?_eq_getElem hl
  refine ⟨b, o, l[i], e, hb, hx, ?_, ?_, ?_, ?_, ?_, ?_, ?_⟩
  · rw [show o + i * 7 = o + (i * 7 + 0) from rfl, hc 0 (by decide)]; exact flat_getA AcC.cs 7 (fun _ => rfl) l i 0 _ hx (by decide)
  · rw [Nat.add_assoc, hc 1 (by decide)]; exact flat_getA AcC.cs 7 (fun _ => rfl) l i 1 _ hx (by decide)
  · rw [Nat.add_assoc, hc 2 (by decide)]; exact flat_getA AcC.cs 7 (fun _ => rfl) l i 2 _ hx (by decide)
  · rw [Nat.add_assoc, hc 3 (by decide)]; exact flat_getA AcC.cs 7 (fun _ => rfl) l i 3 _ hx (by decide)
  · rw [Nat.add_assoc, hc 4 (by decide)]; exact flat_getA AcC.cs 7 (fun _ => rfl) l i 4 _ hx (by decide)
  · rw [Nat.add_assoc, hc 5 (by decide)]; exact flat_getA AcC.cs 7 (fun _ => rfl) l i 5 _ hx (by decide)
  · rw [Nat.add_assoc, hc 6 (by decide)]; exact flat_getA AcC.cs 7 (fun _ => rfl) l i 6 _ hx (by decide)
theorem Lies.alen {l : List AcC} (h : Lies w B 7 A n (acs l)) : l.length = n := by have := h.len; rw [acs_len] at this; omega
end
/-- how much acts weigh -/
def weigh (l : List AcC) : Nat := (l.map fun x => 1 + x.n + x.name.size + x.to_.size).sum
theorem weigh_take (l : List AcC) (k : Nat) (x : AcC) (h : l[k]? = some x) : weigh (l.take (k + 1)) = weigh (l.take k) + (1 + x.n + x.name.size + x.to_.size) := by
  unfold weigh
  rw [List.take_add_one, h]; simp
theorem weigh_take_le (l : List AcC) (k : Nat) : weigh (l.take k) ≤ weigh l := by
  have e : weigh l = weigh (l.take k) + weigh (l.drop k) := by
    unfold weigh
    rw [← List.sum_append, ← List.map_append, List.take_append_drop]
  omega
end Go.Proofs.YtbpdonnneleeeaaGreatDoor
