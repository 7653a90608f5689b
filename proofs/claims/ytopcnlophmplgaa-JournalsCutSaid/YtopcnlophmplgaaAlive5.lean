/-
  bucketlinelaw05's alive answers true.
-/
import Derived.Test.YtopcnlophmplgaaAt
import Derived.Lib.SlBytesConst
namespace Go.Proofs.Ytopcnlophmplgaa
open Go.RowKit Go.Maps Go.Sort
set_option linter.unusedVariables false
set_option linter.unusedSimpArgs false

theorem lits_bytes (w : World) (l : List UInt8) (t : TypeId) (fr : Nat × Nat) : Lies (w.alloc (.cells (l.map bv).toArray t fr)) (w.alloc (.cells (l.map bv).toArray t fr)).heap.size 1 (some ⟨w.heap.size, 0, none⟩) l.length (l.map bv) := by
  rw [← alloc_size]
  refine ⟨by simp, fun j hj => ⟨_, (l.map bv)[j], rfl, by simp, List.getElem?_eq_getElem hj, ?_⟩⟩
  rw [add_lit]
  have h : (w.alloc (.cells (l.map bv).toArray t fr)).heap[w.heap.size]? = some (.cells (l.map bv).toArray t fr) := heap_alloc_new w _
  rw [Nat.zero_add, cell_of_row _ w.heap.size j (l.map bv).toArray t fr h, List.getElem?_toArray]
  exact List.getElem?_eq_getElem hj

section
variable (b : Nat)
def L1 : St := (St.new 10).create [97] b
def L2 : St := (L1 b).append b [97, 98, 99, 100, 101]
def L3 : St := (L2 b).sync b
def L4 : St := (L3 b).append b [102, 103]
def L5 : St := (L4 b).names
def L6 : St := (L5 b).rename [97] [98] b
theorem L1_pres : (L1 b).pres = .map [(.string [97], .lit (.int .u64 (b : Int)))] := rfl
theorem L6_pres : (L6 b).pres = .map [(.string [98], .lit (.int .u64 (b : Int)))] := rfl
theorem L6_dur : (L6 b).dur = .map [(.string [97], .lit (.int .u64 (b : Int)))] := rfl
theorem L1_file : (L1 b).file b = ⟨[], 0⟩ := upd_same _ _ _
theorem L2_file : (L2 b).file b = ⟨[97, 98, 99, 100, 101], 0⟩ := by show upd _ _ _ _ = _; rw [upd_same, L1_file]; rfl
theorem L3_file : (L3 b).file b = ⟨[97, 98, 99, 100, 101], 5⟩ := by show upd _ _ _ _ = _; rw [upd_same, L2_file]; rfl
theorem L4_file : (L4 b).file b = ⟨[97, 98, 99, 100, 101, 102, 103], 5⟩ := by show upd _ _ _ _ = _; rw [upd_same, L3_file]; rfl
theorem L6_file : (L6 b).file b = ⟨[97, 98, 99, 100, 101, 102, 103], 5⟩ := L4_file b
theorem one_tot (k : List UInt8) (g : Nat → Nat) : tot (.map [(.string k, .lit (.int .u64 (b : Int)))]) g = g b := by
  show g b + 0 = g b
  omega
theorem L1_left : (L1 b).left = 10 := by show 10 - tot _ _ = _; rw [L1_pres, one_tot]; show 10 - ((L1 b).file b).bytes.length = 10; rw [L1_file]; rfl
theorem L3_left : (L3 b).left = 5 := by show 10 - tot _ _ = _; rw [show (L3 b).pres = (L1 b).pres from rfl, L1_pres, one_tot]; show 10 - ((L3 b).file b).bytes.length = 5; rw [L3_file]; rfl
theorem L6_left : (L6 b).left = 3 := by show 10 - tot _ _ = _; rw [L6_pres, one_tot]; show 10 - ((L6 b).file b).bytes.length = 3; rw [L6_file]; rfl
theorem L1_len : (L1 b).len b = 0 := by show ((L1 b).file b).bytes.length = 0; rw [L1_file]; rfl
theorem L3_len : (L3 b).len b = 5 := by show ((L3 b).file b).bytes.length = 5; rw [L3_file]; rfl
theorem L6_len : (L6 b).len b = 7 := by show ((L6 b).file b).bytes.length = 7; rw [L6_file]; rfl
theorem look_one (k : List UInt8) : look (.map [(.string k, .lit (.int .u64 (b : Int)))]) k = some b := by
  have := look_put (.map []) ⟨[], rfl⟩ k k b
  rw [if_pos rfl] at this
  exact this
theorem look_one_not {k k' : List UInt8} (h : k' ≠ k) : look (.map [(.string k, .lit (.int .u64 (b : Int)))]) k' = none := by
  have := look_put (.map []) ⟨[], rfl⟩ k k' b
  rw [if_neg h] at this
  exact this
end
/-- what a crash leaves of a disk with one name -/
theorem fail_one {S S' : St} {k : List UInt8} {f keep : Nat} (h : FailSpec S (.map [(.string k, .lit (.int .u64 (f : Int)))]) keep S') : ∃ b, look S'.pres k = some b ∧ S'.file b = cutC keep (S.file f) ∧ ∀ k', k' ≠ k → look S'.pres k' = none := by
  obtain ⟨_, _, h⟩ := h
  obtain ⟨b, h1, h2⟩ := (h k).2 f (look_one f k)
  exact ⟨b, h1, h2, fun k' hk => (h k').1 (look_one_not f hk)⟩
theorem one_list {w0 w : World} {d : Nat} {S : St} (h : At w0 w d S) {k : List UInt8} {b : Nat} (h1 : look S.pres k = some b) (h2 : ∀ k', k' ≠ k → look S.pres k' = none) : S.list = [k] := by
  rw [list_is h.presOK h.tidy [k] (by simp) (fun k' => ?_)]
  · exact List.mergeSort_singleton _
  · by_cases e : k' = k
    · subst e; simp [h1]
    · rw [h2 k' e]; simp [e]

end Go.Proofs.Ytopcnlophmplgaa
