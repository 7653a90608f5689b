/-
  Words about memory that contracts of all layers share: what lies in a new block; cuts of slices; what a call handed back.
  Contracts of package ints: collect.
  Two worlds' worth of facts in one word.
  What a call leaves of memory where it writes blocks of a set alone.
  '[]byte(s)' of any string.
-/
import Derived.Test.YtbbimfbkllellaaGreatDoorBase
import Derived.IntWalk
import Derived.Laws.IdiomStrings
namespace Go.Proofs.YtbbimfbkllellaaGreatDoor
open Go.RowKit
set_option linter.unusedVariables false

theorem bv_ofNat (n : Nat) (h : n < 256) : bv (UInt8.ofNat n) = .int .u8 (n : Int) := by
  unfold bv; rw [show (UInt8.ofNat n).toNat = n from by rw [UInt8.toNat_ofNat']; omega]
theorem one_lies {w : World} {g : Nat} (hg : g = w.heap.size) (v : Value) (t : TypeId) : Lies (w.alloc (.cells #[v] t)) (g + 1) 1 (some ⟨g, 0, none⟩) 1 [v] := by
  subst hg
  refine ⟨rfl, fun j hj => ⟨_, v, rfl, by simp, ?_, ?_⟩⟩
  · have : j = 0 := by simpa using hj
    subst this; rfl
  · have : j = 0 := by simpa using hj
    subst this
    exact (Box.new w t v).cell
def lenV : Value → Nat | .slice _ n _ => n | _ => 0
@[simp] theorem lenV_slice (A : Option Addr) (n c : Nat) : lenV (.slice A n c) = n := rfl
/-- four values that a literal lays -/
theorem lits_lie {w : World} {g : Nat} (hg : g = w.heap.size) (vs : List Value) (t : TypeId) : Lies (w.alloc (.cells vs.toArray t)) (g + 1) 1 (some ⟨g, 0, none⟩) vs.length vs := by
  subst hg
  refine ⟨by simp, fun j hj => ⟨_, vs[j], rfl, by simp, List.getElem?_eq_getElem hj, ?_⟩⟩
  rw [add_lit]
  have h : (w.alloc (.cells vs.toArray t)).heap[w.heap.size]? = some (.cells vs.toArray t (0, 0)) := heap_alloc_new w _
  rw [Nat.zero_add, cell_of_row _ w.heap.size j vs.toArray t (0, 0) h]
  simp [hj]
/-- a byte of a list that lies in memory -/
theorem Lies.byte {w : World} {B n k : Nat} {A : Option Addr} {l : List UInt8} (h : Lies w B 1 A n (l.map bv)) (hk : k < n) :
    ∃ b o x, A = some ⟨b, o, none⟩ ∧ b < B ∧ l[k]? = some x ∧ w.cell? ⟨b, o + k, none⟩ = some (.int .u8 (x.toNat : Int)) := by
  obtain ⟨b, o, u, e, hb, hu, hc⟩ := h.at_ hk
  rw [List.getElem?_map] at hu
  cases hx : l[k]? with
  | none => rw [hx] at hu; cases hu
  | some x =>
    rw [hx] at hu
    injection hu with hu
    subst hu
    exact ⟨b, o, x, e, hb, rfl, hc⟩
theorem Lies.blen {w : World} {B n : Nat} {A : Option Addr} {l : List UInt8} (h : Lies w B 1 A n (l.map bv)) : l.length = n := by have := h.len; simp at this; exact this
/-- a slice of bytes that was answered: its length, its capacity, its bytes, in new memory -/
def Got (w : World) (n : Nat) (l : List UInt8) (e : Ending) (w' : World) : Prop :=
  ∃ A c, e = .returned (.slice A n c) ∧ n ≤ c ∧ c ≤ maxLen ∧ w'.ownsRow w.heap.size 5 1 (.slice A n c) n (l.map bv) ∧ Below w.heap.size w w'
theorem got_of {w w' : World} {v : Value} {n : Nat} {l : List UInt8} (h : w'.ownsRow w.heap.size 5 1 v n (l.map bv)) (hb : Below w.heap.size w w') : Got w n l (.returned v) w' := by
  obtain ⟨A, c, rfl, h1, h2, _⟩ := own_shape h
  exact ⟨A, c, rfl, h1, h2, h, hb⟩
/-- the same, of at least one byte: its address is known -/
def GotS (w : World) (n : Nat) (l : List UInt8) (e : Ending) (w' : World) : Prop :=
  ∃ g c, e = .returned (.slice (some ⟨g, 0, none⟩) n c) ∧ n ≤ c ∧ c ≤ maxLen ∧ w'.ownsRow w.heap.size 5 1 (.slice (some ⟨g, 0, none⟩) n c) n (l.map bv) ∧ Below w.heap.size w w'
theorem gotS_of {w w' : World} {v : Value} {n : Nat} {l : List UInt8} (hn : 0 < n) (h : w'.ownsRow w.heap.size 5 1 v n (l.map bv)) (hb : Below w.heap.size w w') : GotS w n l (.returned v) w' := by
  have h' := h
  rcases h'.2 with ⟨_, h0⟩ | ⟨g, cap, cur, rfl, _, _, h1, h2, _⟩
  · omega
  · exact ⟨g, cap, rfl, h1, h2, h, hb⟩
/-- a copy: what it owns, without its mark -/
theorem own_less {w : World} {base e n c g : Nat} {xs : List Value} {u : Value} (h : w.ownsRow base e 1 (.slice (some ⟨g, 0, none⟩) (n + 1) c) (n + 1) (xs ++ [u])) : w.ownsRow base e 1 (.slice (some ⟨g, 0, none⟩) n c) n xs := by
  have hl : xs.length = n := by have := h.1; simp at this; omega
  refine ⟨by omega, ?_⟩
  rcases h.2 with ⟨h0, _⟩ | ⟨g', cap, cur, hv, hb, hh, h1, h2, h3, h4⟩
  · cases h0
  · injection hv with e1 e2 e3
    injection e1 with e1
    injection e1 with e1
    subst e1 e3
    refine .inr ⟨g, c, cur, rfl, hb, hh, by omega, h2, h3, ?_⟩
    rw [Nat.mul_one]
    have h5 : cur.toList.take n = (cur.toList.take ((n + 1) * 1)).take n := by rw [List.take_take]; congr 1; omega
    rw [h5, h4, List.take_append_of_le_length (by omega), List.take_of_length_le (by omega)]
/-- where 's[l:]' lies -/
def cutA (A : Option Addr) (c l : Nat) : Option Addr := if c = l then A else A.map (·.add l)
theorem run_cut (w : World) (A : Option Addr) (n c l : Nat) (h : l ≤ n) :
    (Instr.slice 22 (.slice A n c) (some (.int .i64 (l : Int))) none none).run Tryz.prog w = .ok (.slice (cutA A c l) (n - l) (c - l)) w := by
  obtain ⟨i0, hi, hz0, hz1, hz2⟩ := info_parts byte_info
  unfold Instr.slice cutA
  simp [run_underlying Tryz.underlying22, Instr.sliceBounds, Instr.sliceBound, asIntOf, sizeOf, typeInfo, hi, hz1, h]
theorem Lies.cutA {w : World} {B n : Nat} {A : Option Addr} {l : List UInt8} (h : Lies w B 1 A n (l.map bv)) {m c : Nat} (hm : m ≤ n) (hc : n ≤ c) : Lies w B 1 (cutA A c m) (n - m) ((l.drop m).map bv) := by
  rw [List.map_drop]; exact h.cut hm hc
/-- what was answered lies there still -/
theorem got_lies {w w1 : World} {A : Option Addr} {n c base : Nat} {l : List UInt8} (h : w.ownsRow base 5 1 (.slice A n c) n (l.map bv)) (hb : Below w.heap.size w w1) : Lies w1 w1.heap.size 1 A n (l.map bv) :=
  ((Lies.of_own h).below hb).more hb.size
theorem lies_take {w : World} {A : Option Addr} {n B m : Nat} {l : List UInt8} (h : Lies w B 1 A n (l.map bv)) (hm : m ≤ n) : Lies w B 1 A m ((l.take m).map bv) := by
  rw [List.map_take]; exact h.take_ hm
theorem lit_lies (w : World) (l : List UInt8) : Lies (w.alloc (.cells (l.map bv).toArray 5)) (w.alloc (.cells (l.map bv).toArray 5)).heap.size 1 (some ⟨w.heap.size, 0, none⟩) l.length (l.map bv) := by
  have h := lits_lie (w := w) rfl (l.map bv) 5
  simp at h ⊢
  exact h
theorem lit_below (w : World) (o : Obj) {w' : World} (h : Below (w.alloc o).heap.size (w.alloc o) w') : Below w.heap.size w w' :=
  ((Below.refl _ _).alloc (Nat.le_refl _) o).trans (h.mono (by simp))
theorem lit_lies_fz (w : World) (l : List UInt8) (fz : Nat × Nat) : Lies (w.alloc (.cells (l.map bv).toArray 5 fz)) (w.alloc (.cells (l.map bv).toArray 5 fz)).heap.size 1 (some ⟨w.heap.size, 0, none⟩) l.length (l.map bv) := by
  refine ⟨by simp, fun j hj => ⟨_, (l.map bv)[j], rfl, by simp, List.getElem?_eq_getElem hj, ?_⟩⟩
  rw [add_lit]
  have h : (w.alloc (.cells (l.map bv).toArray 5 fz)).heap[w.heap.size]? = some (.cells (l.map bv).toArray 5 fz) := heap_alloc_new w _
  rw [Nat.zero_add, cell_of_row _ w.heap.size j (l.map bv).toArray 5 fz h, List.getElem?_toArray]
  exact List.getElem?_eq_getElem hj
end Go.Proofs.YtbbimfbkllellaaGreatDoor

namespace Go.Proofs.YtbbimfbkllellaaGreatDoor
open Go.RowKit
set_option linter.unusedVariables false
set_option maxRecDepth 100000

set_option maxHeartbeats 1000000 in
theorem collect_any (A A2 : Option Addr) (n m c c2 : Nat) (l l2 : List UInt8) (w : World) (h1 : Lies w w.heap.size 1 A n (l.map bv)) (h2 : Lies w w.heap.size 1 A2 m (l2.map bv)) (hs : n + m ≤ 1099511627776) :
    Calls Tryz.prog 133 #[.slice A n c, .slice A2 m c2] w fun e w' => ∃ v, e = .returned v ∧ w'.ownsRow w.heap.size 5 1 v (n + m) ((l ++ l2).map bv) ∧ Below w.heap.size w w' := by
  obtain ⟨i0, hi, hz0, hz1, hz2⟩ := info_parts byte_info
  go_enter Tryz.func133, Tryz.ntmps133
  go_wp2_with (first
    | (at_make; refine wpList_make_own _ rfl _ _ 22 rfl w.heap.size 5 i0 _ 1 Tryz.underlying22 hi hz0 hz1 _ _ _ (n + m) rfl rfl (by omega) (by rw [hz2]; omega) (by unfold maxLen; omega) (Nat.le_refl _) ?_; intro w1 hown1 hgrow1; have hb1 : Below w.heap.size w w1 := (Below.refl _ _).grown hgrow1 (Nat.le_refl _) (by simp))
    | (at_builtin; refine wpList_app _ rfl (.tmp 12) (.tmp 13) 22 rfl w.heap.size 5 i0 _ 1 1 Tryz.underlying22 hi hz0 hz1 hz2 rfl (by decide) _ 0 [] rfl hown1 w.heap.size A n c (l.map bv) rfl (h1.below hb1) (bv_one l) (by unfold maxLen; omega) (by omega) hb1.size ?_; intro v2 w2 hown2 hg2 _; have hb2 : Below w.heap.size w w2 := hb1.grown hg2 hb1.size (fun k hk => (hown1.lt k hk).1))
    | (at_builtin; refine wpList_app _ rfl (.tmp 15) (.tmp 16) 22 rfl w.heap.size 5 i0 _ 1 1 Tryz.underlying22 hi hz0 hz1 hz2 rfl (by decide) v2 (0 + n) ([] ++ l.map bv) rfl hown2 w.heap.size A2 m c2 (l2.map bv) rfl (h2.below hb2) (bv_one l2) (by unfold maxLen; omega) (by omega) hb2.size ?_; intro v3 w3 hown3 hg3 _; have hb3 : Below w.heap.size w w3 := hb2.grown hg3 hb2.size (fun k hk => (hown2.lt k hk).1)))
  go_ret
  exact ⟨_, rfl, by simpa using hown3, hb3⟩

end Go.Proofs.YtbbimfbkllellaaGreatDoor

namespace Go.Proofs.YtbbimfbkllellaaGreatDoor
open Go.RowKit
set_option linter.unusedVariables false
set_option maxRecDepth 100000

/-- what lay there lies there still -/
def Kept (w W : World) : Prop := Below w.heap.size w W
theorem Kept.self (w : World) : Kept w w := Below.refl _ _
theorem Kept.drew {w W : World} (h : Kept w W) : Kept w W.drew := Below.drew h
theorem Kept.on {w W W' : World} (h : Kept w W) (h' : Below W.heap.size W W') : Kept w W' := Below.trans h (h'.mono h.size)
theorem Kept.lies {w W : World} (h : Kept w W) {A : Option Addr} {n : Nat} {l : List UInt8} (L : Lies w w.heap.size 1 A n (l.map bv)) : Lies W W.heap.size 1 A n (l.map bv) := (L.below h).more h.size
theorem Kept.new {w W : World} (h : Kept w W) (o : Obj) : Kept w (W.alloc o) := Below.alloc h h.size o
end Go.Proofs.YtbbimfbkllellaaGreatDoor

namespace Go.Proofs.YtbbimfbkllellaaGreatDoor
open Go.RowKit
set_option linter.unusedVariables false

/-- only some blocks are written -/
structure Wrote (S : Nat → Prop) (W W' : World) : Prop where
  os : W'.os = W.os
  tape : W'.tape = W.tape
  output : W'.output = W.output
  size : W.heap.size ≤ W'.heap.size
  block : ∀ i, i < W.heap.size → ¬ S i → W'.heap[i]? = W.heap[i]?
theorem Wrote.refl (S : Nat → Prop) (W : World) : Wrote S W W := ⟨rfl, rfl, rfl, Nat.le_refl _, fun _ _ _ => rfl⟩
theorem Wrote.trans {S : Nat → Prop} {A B C : World} (h : Wrote S A B) (k : Wrote S B C) : Wrote S A C :=
  ⟨k.os.trans h.os, k.tape.trans h.tape, k.output.trans h.output, Nat.le_trans h.size k.size, fun i hi hs => (k.block i (Nat.lt_of_lt_of_le hi h.size) hs).trans (h.block i hi hs)⟩
theorem Wrote.mono {S S' : Nat → Prop} {A B : World} (h : Wrote S A B) (hs : ∀ i, i < A.heap.size → S i → S' i) : Wrote S' A B := ⟨h.os, h.tape, h.output, h.size, fun i hi hn => h.block i hi fun hS => hn (hs i hi hS)⟩
theorem Wrote.grown {W W' : World} {row : Option Nat} (h : W.grownBy W' row) : Wrote (fun i => row = some i) W W' := ⟨h.os, h.tape, h.output, h.size, fun i hi hs => h.block i hi fun e => hs e.symm⟩
theorem Wrote.alloc {S : Nat → Prop} {A B : World} (h : Wrote S A B) (o : Obj) : Wrote S A (B.alloc o) :=
  ⟨h.os, h.tape, h.output, by simp; have := h.size; omega, fun i hi hs => (Below.heap_alloc B o i (Nat.lt_of_lt_of_le hi h.size)).trans (h.block i hi hs)⟩
theorem Wrote.set {S : Nat → Prop} {A B : World} (h : Wrote S A B) {p : Addr} (hp : S p.block) (u : Value) : Wrote S A (B.setCell p u) :=
  ⟨h.os, h.tape, h.output, by have := h.size; simpa [World.setCell] using this, fun i hi hs => (Below.heap_setCell B p u i (fun e => hs (by rw [e]; exact hp))).trans (h.block i hi hs)⟩
theorem Wrote.drew {S : Nat → Prop} {A B : World} (h : Wrote S A B) : Wrote S A B.drew := ⟨h.os, h.tape, h.output, h.size, h.block⟩
theorem Wrote.below {S : Nat → Prop} {A B : World} (h : Wrote S A B) {n : Nat} (hn : ∀ i, S i → n ≤ i) (hA : n ≤ A.heap.size) : Below n A B :=
  ⟨h.os, h.tape, h.output, h.size, fun i hi => h.block i (Nat.lt_of_lt_of_le hi hA) fun hs => by have := hn i hs; omega⟩
theorem Wrote.of_below {S : Nat → Prop} {A B : World} (h : Below A.heap.size A B) : Wrote S A B := ⟨h.os, h.tape, h.output, h.size, fun i hi _ => h.block i hi⟩
theorem Wrote.row {S : Nat → Prop} {A B : World} (h : Wrote S A B) {base e k n : Nat} {v : Value} {xs : List Value} (hr : A.ownsRow base e k v n xs) (hs : ∀ g, v.ownBlock = some g → ¬ S g) : B.ownsRow base e k v n xs := by
  refine ⟨hr.1, ?_⟩
  rcases hr.2 with h0 | ⟨g, cap, cur, rfl, hb, hh, r⟩
  · exact .inl h0
  · exact .inr ⟨g, cap, cur, rfl, hb, (h.block g (Array.getElem?_eq_some_iff.1 hh).1 (hs g rfl)).trans hh, r⟩
end Go.Proofs.YtbbimfbkllellaaGreatDoor

namespace Go.Proofs.YtbbimfbkllellaaGreatDoor
open Go.RowKit
set_option linter.unusedVariables false
set_option maxRecDepth 20000

/-- '[]byte(s)' -/
theorem conv_bytes (w : World) (s : ByteArray) : ∃ w' c, (convert 9 22 (.string s)).run Tryz.prog w = .ok (.slice (some ⟨w.heap.size, 0, none⟩) s.size c) w' ∧ Below w.heap.size w w' ∧ Lies w' w'.heap.size 1 (some ⟨w.heap.size, 0, none⟩) s.size (s.data.toList.map bv) := by
  refine ⟨_, _, run_bytes_of_string w 9 22 5 s Tryz.underlying9 Tryz.underlying22 Tryz.underlying5, ((Below.refl _ _).drew).alloc (Nat.le_refl _) _, ?_⟩
  generalize grownCap w s.size 0 5 = c
  have hz := (fun (w : World) (o : Obj) => (Array.size_push (xs := w.heap) o).symm : ∀ (w : World) (o : Obj), w.heap.size + 1 = (w.alloc o).heap.size) w.drew (.cells (bytesRow s c) 5 ((bytesRow s c).size, (bytesRow s c).size + 1))
  have h : (w.drew.alloc (.cells (bytesRow s c) 5 ((bytesRow s c).size, (bytesRow s c).size + 1))).heap[w.heap.size]? = some (.cells (bytesRow s c) 5 ((bytesRow s c).size, (bytesRow s c).size + 1)) := heap_alloc_new w.drew _
  have hz2 : w.heap.size + 1 = (w.drew.alloc (.cells (bytesRow s c) 5 ((bytesRow s c).size, (bytesRow s c).size + 1))).heap.size := hz
  refine ⟨by rw [List.length_map, Array.length_toList, Nat.mul_one]; rfl, fun j hj => ?_⟩
  have hj2 : j < s.data.size := by rw [List.length_map, Array.length_toList] at hj; exact hj
  refine ⟨_, bv (s.data[j]), rfl, by show w.heap.size < _; omega, ?_, ?_⟩
  · rw [List.getElem?_map, Array.getElem?_toList, Array.getElem?_eq_getElem hj2]; rfl
  · rw [add_lit, Nat.zero_add, cell_of_row _ w.heap.size j _ _ _ h, bytesRow_at s c j hj2]
end Go.Proofs.YtbbimfbkllellaaGreatDoor

