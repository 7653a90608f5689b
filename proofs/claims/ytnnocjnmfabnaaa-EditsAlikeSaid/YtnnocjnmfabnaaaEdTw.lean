/-
  Contracts of the laws' helpers: TwinFiles.
-/
import Derived.Test.YtnnocjnmfabnaaaEdX
import Derived.Test.YtnnocjnmfabnaaaEdT
namespace Go.Proofs.Ytnnocjnmfabnaaa
open Go.RowKit
set_option linter.unusedVariables false
set_option maxRecDepth 100000

/-- the mark behind a copy of files -/
def spareF : Fi := ⟨0, 0, ⟨#[115, 112, 97, 114, 101]⟩, ByteArray.empty⟩
theorem run_headF (w : World) (A : Option Addr) (n c h : Nat) (h3 : h ≤ c) :
    (Instr.slice 22 (.slice A n c) none (some (.int .i64 (h : Int))) none).run Try.prog w = .ok (.slice A h c) w := by
  obtain ⟨i0, hi, hz0, hz1, hz2⟩ := info_parts file_info
  unfold Instr.slice
  simp [run_underlying Try.underlying22, Instr.sliceBounds, Instr.sliceBound, asIntOf, sizeOf, typeInfo, hi, h3]
  cases A <;> simp [Addr.add]

theorem own_lessF {w : World} {base e n c g : Nat} {xs us : List Value} (h : w.ownsRow base e 4 (.slice (some ⟨g, 0, none⟩) (n + 1) c) (n + 1) (xs ++ us)) (hl : xs.length = n * 4) : w.ownsRow base e 4 (.slice (some ⟨g, 0, none⟩) n c) n xs := by
  refine ⟨hl, ?_⟩
  rcases h.2 with ⟨h0, _⟩ | ⟨g', cap, cur, hv, hb, hh, h1, h2, h3, h4⟩
  · cases h0
  · injection hv with e1 e2 e3
    injection e1 with e1
    injection e1 with e1
    subst e1 e3
    refine .inr ⟨g, c, cur, rfl, hb, hh, by omega, h2, h3, ?_⟩
    have h5 : cur.toList.take (n * 4) = (cur.toList.take ((n + 1) * 4)).take (n * 4) := by rw [List.take_take]; congr 1; omega
    rw [h5, h4, List.take_append_of_le_length (by omega), List.take_of_length_le (by omega)]
/-! how many files there are -/
noncomputable def inB (L : List Fi) (f : Fi) : Bool := @decide (f ∈ L) (Classical.propDecidable _)
theorem inB_iff {L : List Fi} {f : Fi} : inB L f = true ↔ f ∈ L := by unfold inB; exact @decide_eq_true_iff _ (Classical.propDecidable _)
noncomputable def cnt (L xs : List Fi) : Nat := xs.countP (inB L)
theorem cnt_step {L xs : List Fi} {k : Nat} {f : Fi} (h : xs[k]? = some f) (b : Bool) (hb : b = true ↔ f ∈ L) : cnt L (xs.take (k + 1)) = cnt L (xs.take k) + (if b then 1 else 0) := by
  have e : inB L f = b := by
    have := (inB_iff (L := L) (f := f)).trans hb.symm
    cases b <;> cases h2 : inB L f <;> simp_all
  unfold cnt
  rw [List.take_add_one, h, List.countP_append]
  congr 1
  show List.countP _ [f] = _
  rw [List.countP_singleton, e]
theorem cnt_le (L xs : List Fi) (k : Nat) : cnt L (xs.take k) ≤ k := by
  unfold cnt
  exact Nat.le_trans List.countP_le_length (by rw [List.length_take]; omega)
theorem cnt_all {L a y : List Fi} {r : List Nat} (hp : L.Perm (left a r ++ y)) : L.length ≤ cnt L (a ++ y) := by
  rw [hp.length_eq, List.length_append]
  unfold cnt
  rw [List.countP_append]
  have h1 : (left a r).length ≤ a.countP (inB L) := by
    unfold left
    rw [← List.countP_eq_length_filter]
    refine List.countP_mono_left fun f hf h => ?_
    exact inB_iff.2 (hp.mem_iff.2 (List.mem_append_left _ (List.mem_filter.2 ⟨hf, h⟩)))
  have h2 : y.countP (inB L) = y.length := by
    rw [List.countP_eq_length]
    intro f hf
    exact inB_iff.2 (hp.mem_iff.2 (List.mem_append_right _ hf))
  omega
theorem left_len {a : List Fi} {r : List Nat} (hn : (nms a).Nodup) (hr : RemOk a r) : (left a r).length + r.length = a.length := by
  have h1 : (nms (a.filter fun f => r.contains f.num)).Perm r := by
    refine (List.perm_ext_iff_of_nodup ((List.Sublist.map _ List.filter_sublist).nodup hn) hr.1).2 fun k => ?_
    rw [List.mem_map]
    constructor
    · rintro ⟨f, hf, rfl⟩
      simpa using (List.mem_filter.1 hf).2
    · intro hk
      obtain ⟨f, hf, rfl⟩ := nms_mem.1 (hr.2 k hk)
      exact ⟨f, List.mem_filter.2 ⟨hf, by simpa using hk⟩, rfl⟩
  have h2 := h1.length_eq
  unfold nms at h2
  rw [List.length_map] at h2
  have h3 := List.length_eq_countP_add_countP (l := a) (fun f : Fi => r.contains f.num)
  rw [List.countP_eq_length_filter] at h3
  unfold left
  rw [← List.countP_eq_length_filter]
  have h4 : a.countP (fun f => !r.contains f.num) = a.countP (fun f => decide ¬(r.contains f.num = true)) := by
    refine List.countP_congr fun f _ => ?_
    simp
  omega
end Go.Proofs.Ytnnocjnmfabnaaa
