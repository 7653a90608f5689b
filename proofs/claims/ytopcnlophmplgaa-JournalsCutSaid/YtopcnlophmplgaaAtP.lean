/-
  A block of the caller's own beside its disk: what calls on the disk leave of it, and what becomes of it where the caller writes it.
-/
import Derived.Test.YtopcnlophmplgaaAny
namespace Go.Proofs.Ytopcnlophmplgaa
open Go.RowKit Go.Maps Go.Sort
set_option linter.unusedVariables false
set_option linter.unusedSectionVars false

/-- beside a law's own disk, a block p of the law's holds the cells 'row' -/
def AtP (w0 w : World) (d : Nat) (S : St) (p : Nat) (row : Array Value) (t : TypeId) : Prop :=
  ∃ F, Disk w F d S ∧ ¬ F p ∧ (∀ i, F i → w0.heap.size ≤ i) ∧ w0.heap.size ≤ p ∧ p < w.heap.size ∧ Below w0.heap.size w0 w ∧ w.heap[p]? = some (.cells row t (0, 0))
section
variable {w0 w w' : World} {d p : Nat} {S : St} {row : Array Value} {t : TypeId}
theorem AtP.at_ (h : AtP w0 w d S p row t) : At w0 w d S := by
  obtain ⟨F, h1, _, h3, _, _, h6, _⟩ := h; exact ⟨F, h1, h3, h6⟩
theorem AtP.low (h : AtP w0 w d S p row t) : Below w0.heap.size w0 w := h.at_.low
theorem AtP.row_ (h : AtP w0 w d S p row t) : w.heap[p]? = some (.cells row t (0, 0)) := by
  obtain ⟨F, _, _, _, _, _, _, h⟩ := h; exact h
theorem AtP.cell (h : AtP w0 w d S p row t) {k : Nat} {v : Value} (hk : row[k]? = some v) : w.cell? ⟨p, k, none⟩ = some v := by
  rw [cell_of_row w p k row t (0, 0) h.row_]; exact hk
theorem AtP.thaw (h : AtP w0 w d S p row t) (k : Nat) : w.frozen? ⟨p, k, none⟩ = false := by simp [World.frozen?, h.row_]
theorem AtP.below (h : AtP w0 w d S p row t) (hb : Below w.heap.size w w') : AtP w0 w' d S p row t := by
  obtain ⟨F, h1, h2, h3, h4, h5, h6, h7⟩ := h
  exact ⟨F, h1.below hb, h2, h3, h4, Nat.lt_of_lt_of_le h5 hb.size, h6.trans (hb.mono h6.size), (hb.block p h5).trans h7⟩
theorem AtP.made (h : At w0 w d S) (row : Array Value) (t : TypeId) : AtP w0 (w.alloc (.cells row t)) d S w.heap.size row t := by
  obtain ⟨F, h1, h3, h6⟩ := h
  have hb := below_a (Below.refl w.heap.size w) (.cells row t)
  exact ⟨F, h1.below hb, fun hf => by have := h1.lt _ hf; omega, h3, h6.size, by have := alloc_size w (.cells row t); omega, h6.trans (hb.mono h6.size), heap_alloc_new w _⟩
/-- a call on the disk -/
theorem AtP.run (h : AtP w0 w d S p row t) {f : FuncId} {args : Array Value} {Q : Ending → St → Prop} (hc : ∀ F, Disk w F d S → Calls Try.prog f args w fun x w' => ∃ S', Q x S' ∧ Left5 F d w w' S') :
    Calls Try.prog f args w fun x w' => ∃ S', Q x S' ∧ AtP w0 w' d S' p row t := by
  obtain ⟨F, h1, h2, h3, h4, h5, h6, h7⟩ := h
  refine (hc F h1).mono fun x w' ⟨S', hq, hT, hD⟩ => ⟨S', hq, _, hD, fun hm => ?_, fun i hi => ?_, h4, Nat.lt_of_lt_of_le h5 hT.size, h6.trans (hT.below h6.size h3), (hT.block p h5 h2).trans h7⟩
  · rcases hm with hm | hm
    · exact h2 hm
    · have := hm.1; omega
  · rcases hi with hi | hi
    · exact h3 i hi
    · exact Nat.le_trans h6.size hi.1
/-- the law writes a cell of its block -/
theorem AtP.set (h : AtP w0 w d S p row t) (k : Nat) (v : Value) : AtP w0 (w.setCell ⟨p, k, none⟩ v) d S p (row.setIfInBounds k v) t := by
  obtain ⟨F, h1, h2, h3, h4, h5, h6, h7⟩ := h
  have hx : ∀ i, i ≠ p → (w.setCell ⟨p, k, none⟩ v).heap[i]? = w.heap[i]? := fun i hi => Below.heap_setCell _ _ _ _ hi
  have hz : (w.setCell ⟨p, k, none⟩ v).heap.size = w.heap.size := by simp [World.setCell]
  refine ⟨F, h1.keep (fun i hi => hx i (fun e => h2 (by rw [← e]; exact hi))) (by omega), h2, h3, h4, by omega, ⟨h6.os, h6.tape, h6.output, by rw [hz]; exact h6.size, fun i hi => (hx i (by omega)).trans (h6.block i hi)⟩, ?_⟩
  simp only [World.setCell, Array.getElem?_modify, if_pos, h7, Option.map_some, Option.isSome_none, Bool.false_eq_true, if_false]
theorem p_append (h : AtP w0 w d S p row t) (s : ByteArray) (hs : s.size ≤ 140737488355328) (hn : okName s.data.toList = true) (A : Option Addr) (n c : Nat) (l : List UInt8) (hl : Lies w w.heap.size 1 A n (l.map bv)) {f : Nat} (hk : look S.pres s.data.toList = some f) (hsp : n ≤ S.left ∧ n + S.len f ≤ 1048576) :
    Calls Try.prog 18 #[dp d, .string s, .slice A n c] w fun x w' => x = .returned (er 0) ∧ AtP w0 w' d (S.append f l) p row t :=
  (h.run (Q := fun x S' => x = .returned (er 0) ∧ S' = S.append f l) (fun F hD => by
    obtain ⟨pm, dm, val, hD⟩ := hD
    exact (append_ok hD s hs A n c l hl (by omega) (argOK1 hn) hk hsp).mono fun x w' ⟨hx, hl⟩ => ⟨_, ⟨hx, rfl⟩, hl⟩)).mono fun x w' ⟨S', ⟨hx, hS⟩, ha⟩ => ⟨hx, by rw [← hS]; exact ha⟩
theorem p_create (h : AtP w0 w d S p row t) (s : ByteArray) (hs : s.size ≤ 140737488355328) (hn : okName s.data.toList = true) (hk : look S.pres s.data.toList = none) (hz : Maps.size S.pres < 64) :
    Calls Try.prog 17 #[dp d, .string s] w fun x w' => x = .returned (er 0) ∧ ∃ b, AtP w0 w' d (S.create s.data.toList b) p row t :=
  (h.run (Q := fun x S' => x = .returned (er 0) ∧ ∃ b, S' = S.create s.data.toList b) (fun F hD => by
    obtain ⟨pm, dm, val, hD⟩ := hD
    exact (create_ok hD s hs (argOK1 hn) hk hz).mono fun x w' ⟨hx, b, _, hl⟩ => ⟨_, ⟨hx, b, rfl⟩, hl⟩)).mono fun x w' ⟨S', ⟨hx, b, hS⟩, ha⟩ => ⟨hx, b, by rw [← hS]; exact ha⟩
theorem at_size (h : At w0 w d S) (s : ByteArray) (hs : s.size ≤ 140737488355328) (hn : okName s.data.toList = true) {f : Nat} (hk : look S.pres s.data.toList = some f) :
    Calls Try.prog 15 #[dp d, .string s] w fun x w' => x = .returned (.tuple #[.int .i64 (S.len f : Int), er 0]) ∧ Below w.heap.size w w' := by
  obtain ⟨F, ⟨pm, dm, val, hD⟩, hF, hB⟩ := h
  exact size_ok hD s hs (argOK1 hn) hk
end
end Go.Proofs.Ytopcnlophmplgaa
