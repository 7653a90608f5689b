/-
  Words about memory that contracts of all layers share: what lies in a new block; cuts of slices; what a call handed back.
-/
import Derived.Test.YtoljldokehfokaaBase
import Derived.IntWalk
namespace Go.Proofs.Ytoljldokehfokaa
open Go.RowKit
set_option linter.unusedVariables false

theorem bv_ofNat (n : Nat) (h : n < 256) : bv (UInt8.ofNat n) = .int .u8 (n : Int) := by
  unfold bv; rw [show (UInt8.ofNat n).toNat = n from by rw [UInt8.toNat_ofNat']; omega]
theorem one_lies {w : World} {g : Nat} (hg : g = w.heap.size) (v : Value) (t : TypeId) : Lies (w.alloc (.cells #[v] t)) (g + 1) 1 (some ⟨g, 0, none⟩) 1 [v] := by
  subst hg
  refine ⟨rfl, fun j hj => ⟨_, v, rfl, by simp, ?_, ?_⟩⟩
  · have : j = 0 := by simpa using hj
    subst this; rfl
  · have : j = 0 := by simpa using hj
    subst this
    exact (Box.new w t v).cell
def lenV : Value → Nat | .slice _ n _ => n | _ => 0
@[simp] theorem lenV_slice (A : Option Addr) (n c : Nat) : lenV (.slice A n c) = n := rfl
/-- four values that a literal lays -/
theorem lits_lie {w : World} {g : Nat} (hg : g = w.heap.size) (vs : List Value) (t : TypeId) : Lies (w.alloc (.cells vs.toArray t)) (g + 1) 1 (some ⟨g, 0, none⟩) vs.length vs := by
  subst hg
  refine ⟨by simp, fun j hj => ⟨_, vs[j], rfl, by simp, List.getElem?_eq_getElem hj, ?_⟩⟩
  rw [add_lit]
  have h : (w.alloc (.cells vs.toArray t)).heap[w.heap.size]? = some (.cells vs.toArray t (0, 0)) := heap_alloc_new w _
  rw [Nat.zero_add, cell_of_row _ w.heap.size j vs.toArray t (0, 0) h]
  simp [hj]
/-- a byte of a list that lies in memory -/
theorem Lies.byte {w : World} {B n k : Nat} {A : Option Addr} {l : List UInt8} (h : Lies w B 1 A n (l.map bv)) (hk : k < n) :
    ∃ b o x, A = some ⟨b, o, none⟩ ∧ b < B ∧ l[k]? = some x ∧ w.cell? ⟨b, o + k, none⟩ = some (.int .u8 (x.toNat : Int)) := by
  obtain ⟨b, o, u, e, hb, hu, hc⟩ := h.at_ hk
  rw [List.getElem?_map] at hu
  cases hx : l[k]? with
  | none => rw [hx] at hu; cases hu
  | some x =>
    rw [hx] at hu
    injection hu with hu
    subst hu
    exact ⟨b, o, x, e, hb, rfl, hc⟩
theorem Lies.blen {w : World} {B n : Nat} {A : Option Addr} {l : List UInt8} (h : Lies w B 1 A n (l.map bv)) : l.length = n := by have := h.len; simp at this; exact this
/-- a slice of bytes that was answered: its length, its capacity, its bytes, in new memory -/
def Got (w : World) (n : Nat) (l : List UInt8) (e : Ending) (w' : World) : Prop :=
  ∃ A c, e = .returned (.slice A n c) ∧ n ≤ c ∧ c ≤ maxLen ∧ w'.ownsRow w.heap.size 5 1 (.slice A n c) n (l.map bv) ∧ Below w.heap.size w w'
theorem got_of {w w' : World} {v : Value} {n : Nat} {l : List UInt8} (h : w'.ownsRow w.heap.size 5 1 v n (l.map bv)) (hb : Below w.heap.size w w') : Got w n l (.returned v) w' := by
  obtain ⟨A, c, rfl, h1, h2, _⟩ := own_shape h
  exact ⟨A, c, rfl, h1, h2, h, hb⟩
/-- the same, of at least one byte: its address is known -/
def GotS (w : World) (n : Nat) (l : List UInt8) (e : Ending) (w' : World) : Prop :=
  ∃ g c, e = .returned (.slice (some ⟨g, 0, none⟩) n c) ∧ n ≤ c ∧ c ≤ maxLen ∧ w'.ownsRow w.heap.size 5 1 (.slice (some ⟨g, 0, none⟩) n c) n (l.map bv) ∧ Below w.heap.size w w'
theorem gotS_of {w w' : World} {v : Value} {n : Nat} {l : List UInt8} (hn : 0 < n) (h : w'.ownsRow w.heap.size 5 1 v n (l.map bv)) (hb : Below w.heap.size w w') : GotS w n l (.returned v) w' := by
  have h' := h
  rcases h'.2 with ⟨_, h0⟩ | ⟨g, cap, cur, rfl, _, _, h1, h2, _⟩
  · omega
  · exact ⟨g, cap, rfl, h1, h2, h, hb⟩
/-- a copy: what it owns, without its mark -/
theorem own_less {w : World} {base e n c g : Nat} {xs : List Value} {u : Value} (h : w.ownsRow base e 1 (.slice (some ⟨g, 0, none⟩) (n + 1) c) (n + 1) (xs ++ [u])) : w.ownsRow base e 1 (.slice (some ⟨g, 0, none⟩) n c) n xs := by
  have hl : xs.length = n := by have := h.1; simp at this; omega
  refine ⟨by omega, ?_⟩
  rcases h.2 with ⟨h0, _⟩ | ⟨g', cap, cur, hv, hb, hh, h1, h2, h3, h4⟩
  · cases h0
  · injection hv with e1 e2 e3
    injection e1 with e1
    injection e1 with e1
    subst e1 e3
    refine .inr ⟨g, c, cur, rfl, hb, hh, by omega, h2, h3, ?_⟩
    rw [Nat.mul_one]
    have h5 : cur.toList.take n = (cur.toList.take ((n + 1) * 1)).take n := by rw [List.take_take]; congr 1; omega
    rw [h5, h4, List.take_append_of_le_length (by omega), List.take_of_length_le (by omega)]
/-- where 's[l:]' lies -/
def cutA (A : Option Addr) (c l : Nat) : Option Addr := if c = l then A else A.map (·.add l)
theorem run_cut (w : World) (A : Option Addr) (n c l : Nat) (h : l ≤ n) :
    (Instr.slice 23 (.slice A n c) (some (.int .i64 (l : Int))) none none).run Try.prog w = .ok (.slice (cutA A c l) (n - l) (c - l)) w := by
  obtain ⟨i0, hi, hz0, hz1, hz2⟩ := info_parts byte_info
  unfold Instr.slice cutA
  simp [run_underlying Try.underlying23, Instr.sliceBounds, Instr.sliceBound, asIntOf, sizeOf, typeInfo, hi, hz1, h]
theorem Lies.cutA {w : World} {B n : Nat} {A : Option Addr} {l : List UInt8} (h : Lies w B 1 A n (l.map bv)) {m c : Nat} (hm : m ≤ n) (hc : n ≤ c) : Lies w B 1 (cutA A c m) (n - m) ((l.drop m).map bv) := by
  rw [List.map_drop]; exact h.cut hm hc
/-- what was answered lies there still -/
theorem got_lies {w w1 : World} {A : Option Addr} {n c base : Nat} {l : List UInt8} (h : w.ownsRow base 5 1 (.slice A n c) n (l.map bv)) (hb : Below w.heap.size w w1) : Lies w1 w1.heap.size 1 A n (l.map bv) :=
  ((Lies.of_own h).below hb).more hb.size
theorem lies_take {w : World} {A : Option Addr} {n B m : Nat} {l : List UInt8} (h : Lies w B 1 A n (l.map bv)) (hm : m ≤ n) : Lies w B 1 A m ((l.take m).map bv) := by
  rw [List.map_take]; exact h.take_ hm
theorem lit_lies (w : World) (l : List UInt8) : Lies (w.alloc (.cells (l.map bv).toArray 5)) (w.alloc (.cells (l.map bv).toArray 5)).heap.size 1 (some ⟨w.heap.size, 0, none⟩) l.length (l.map bv) := by
  have h := lits_lie (w := w) rfl (l.map bv) 5
  simp at h ⊢
  exact h
theorem lit_below (w : World) (o : Obj) {w' : World} (h : Below (w.alloc o).heap.size (w.alloc o) w') : Below w.heap.size w w' :=
  ((Below.refl _ _).alloc (Nat.le_refl _) o).trans (h.mono (by simp))
theorem lit_lies_fz (w : World) (l : List UInt8) (fz : Nat × Nat) : Lies (w.alloc (.cells (l.map bv).toArray 5 fz)) (w.alloc (.cells (l.map bv).toArray 5 fz)).heap.size 1 (some ⟨w.heap.size, 0, none⟩) l.length (l.map bv) := by
  refine ⟨by simp, fun j hj => ⟨_, (l.map bv)[j], rfl, by simp, List.getElem?_eq_getElem hj, ?_⟩⟩
  rw [add_lit]
  have h : (w.alloc (.cells (l.map bv).toArray 5 fz)).heap[w.heap.size]? = some (.cells (l.map bv).toArray 5 fz) := heap_alloc_new w _
  rw [Nat.zero_add, cell_of_row _ w.heap.size j (l.map bv).toArray 5 fz h, List.getElem?_toArray]
  exact List.getElem?_eq_getElem hj
end Go.Proofs.Ytoljldokehfokaa
