/-
  Contracts of the laws' helpers: TwinFiles.
-/
import Derived.Test.YtbnndajpjhgafaaEdX
import Derived.Test.YtbnndajpjhgafaaEdT
namespace Go.Proofs.Ytbnndajpjhgafaa
open Go.RowKit
set_option linter.unusedVariables false
set_option maxRecDepth 100000

/-- the mark behind a copy of files -/
def spareF : Fi := ⟨0, 0, ⟨#[115, 112, 97, 114, 101]⟩, ByteArray.empty⟩
theorem run_headF (w : World) (A : Option Addr) (n c h : Nat) (h3 : h ≤ c) :
    (Instr.slice 22 (.slice A n c) none (some (.int .i64 (h : Int))) none).run Try.prog w = .ok (.slice A h c) w := by
  obtain ⟨i0, hi, hz0, hz1, hz2⟩ := info_parts file_info
  unfold Instr.slice
  simp [run_underlying Try.underlying22, Instr.sliceBounds, Instr.sliceBound, asIntOf, sizeOf, typeInfo, hi, h3]
  cases A <;> simp [Addr.add]

set_option maxHeartbeats 4000000 in
theorem twinF_any (A : Option Addr) (n c : Nat) (l : List Fi) (w : World) (h : Lies w w.heap.size 4 A n (fcs l)) (hn : n ≤ 1000000) :
    Calls Try.prog 21 #[.slice A n c] w fun e w' => ∃ g c', e = .returned (.slice (some ⟨g, 0, none⟩) n c') ∧ w'.ownsRow w.heap.size 33 4 (.slice (some ⟨g, 0, none⟩) (n + 1) c') (n + 1) (fcs (l ++ [spareF])) ∧ Below w.heap.size w w' := by
  obtain ⟨i0, hi, hz0, hz1, hz2⟩ := info_parts file_info
  have hln := h.flen
  have HN := Lib.hid h; have HLn := Lib.hid hln; clear h hln
  go_enter Try.func21, Try.ntmps21
  go_wp2_with (at_make; refine wpList_make_own _ rfl _ _ 22 rfl w.heap.size 33 i0 _ 4 Try.underlying22 hi hz0 hz1 _ _ _ (n + 1) rfl rfl (by omega) (by rw [hz2]; omega) (by unfold maxLen; omega) (Nat.le_refl _) ?_; intro w1 hown1 hgrow1)
  have hb1 : Below w.heap.size w w1 := (Below.refl _ _).grown hgrow1 (Nat.le_refl _) (by simp)
  clear hgrow1
  go_loopw [3, 4] (fun v i wr => ∃ k : Nat, k ≤ n ∧ i = .int .i64 (k : Int) ∧ wr.ownsRow w.heap.size 33 4 v k (fcs (l.take k)) ∧ Below w.heap.size w wr) (fun _ i _ => n - (intOf i).toNat)
  case atStart => exact ⟨0, Nat.zero_le _, rfl, hown1, hb1⟩
  case round =>
    clear hown1 hb1
    obtain ⟨k, hk, rfl, hown, hb⟩ := hrel
    have hbs := hb.size
    obtain ⟨A1, c1, rfl, hnc1, hcm1, hA1⟩ := own_shape hown
    have HOW := Lib.hid hown; have HB := Lib.hid hb
    by_cases hlt : k < n
    · obtain ⟨b, o, x, rfl, hbB, hx, d0, d1, d2, d3⟩ := (HN.out.keep (fun p hp => HB.out.cell hp) : Lies wr w.heap.size 4 A n (fcs l)).file hlt
      have HX := Lib.hid (show l.take (k + 1) = l.take k ++ [x] from by rw [List.take_add_one, hx]; rfl)
      have hba := fiW_below wr x
      have HOA := Lib.hid (own_below HOW.out hba)
      have HBA := Lib.hid (HB.out.trans (hba.mono HB.out.size))
      have HLA := Lib.hid (fi_lies wr x)
      have i0' : (0 : Int) ≤ (k : Int) := by omega
      have i1' : (k : Int) < (n : Int) := by omega
      clear hx hown hb hba
      go_wp2_with (at_builtin; refine wpList_app _ rfl _ _ 22 rfl w.heap.size 33 i0 _ 4 48 Try.underlying22 hi hz0 hz1 hz2 rfl (by decide) (.slice A1 k c1) k (fcs (l.take k)) rfl HOA.out (wr.heap.size + 1) (some ⟨wr.heap.size, 0, none⟩) 1 1 (fcs [x]) rfl HLA.out (fcs_one _) (by unfold maxLen; omega) (by omega) (by simp; omega) ?_)
      intro v2 w2 hown2 hg2 _
      have hb2 := HBA.out.grown hg2 HBA.out.size (fun k hk => (HOA.out.lt k hk).1)
      have hown3 : w2.ownsRow w.heap.size 33 4 v2 (k + 1) (fcs (l.take (k + 1))) := by rw [HX.out, fcs_app]; exact hown2
      clear hown2 hg2 HX HOA HLA HBA
      go_wp2
      go_roundw
      case rel => exact ⟨k + 1, hlt, by go_num, hown3, hb2⟩
      case measure => simp [intOf]; omega
    · obtain rfl : n = k := by omega
      have hl : l.take n = l := List.take_of_length_le (by have := HLn.out; omega)
      rw [hl] at HOW
      have hba := fiW_below wr spareF
      have HOA := Lib.hid (own_below HOW.out hba)
      have HBA := Lib.hid (HB.out.trans (hba.mono HB.out.size))
      have HLA := Lib.hid (fi_lies wr spareF)
      clear hown hb hba
      go_wp2_with (at_builtin; refine wpList_app _ rfl _ _ 22 rfl w.heap.size 33 i0 _ 4 48 Try.underlying22 hi hz0 hz1 hz2 rfl (by decide) (.slice A1 n c1) n (fcs l) rfl HOA.out (wr.heap.size + 1) (some ⟨wr.heap.size, 0, none⟩) 1 1 (fcs [spareF]) rfl HLA.out (fcs_one _) (by unfold maxLen; omega) (by omega) (by simp; omega) ?_)
      intro v2 w2 hown2 hg2 _
      have hb2 := HBA.out.grown hg2 HBA.out.size (fun k hk => (HOA.out.lt k hk).1)
      have hown3 : w2.ownsRow w.heap.size 33 4 v2 (n + 1) (fcs (l ++ [spareF])) := by rw [fcs_app]; exact hown2
      clear hown2 hg2 HOA HLA HBA
      obtain ⟨g, c2, rfl, hnc2, hcm2⟩ : ∃ g c2, v2 = .slice (some ⟨g, 0, none⟩) (n + 1) c2 ∧ n + 1 ≤ c2 ∧ c2 ≤ maxLen := by
        rcases hown3.2 with ⟨_, h0⟩ | ⟨g, cap, cur, rfl, _, _, h1, h2, _⟩
        · omega
        · exact ⟨g, cap, rfl, h1, h2⟩
      have r1 := fun W => run_headF W (some ⟨g, 0, none⟩) (n + 1) c2 n (by omega)
      unfold maxLen at hcm2
      go_wp2
      go_ret
      exact ⟨g, c2, rfl, hown3, hb2⟩
theorem own_lessF {w : World} {base e n c g : Nat} {xs us : List Value} (h : w.ownsRow base e 4 (.slice (some ⟨g, 0, none⟩) (n + 1) c) (n + 1) (xs ++ us)) (hl : xs.length = n * 4) : w.ownsRow base e 4 (.slice (some ⟨g, 0, none⟩) n c) n xs := by
  refine ⟨hl, ?_⟩
  rcases h.2 with ⟨h0, _⟩ | ⟨g', cap, cur, hv, hb, hh, h1, h2, h3, h4⟩
  · cases h0
  · injection hv with e1 e2 e3
    injection e1 with e1
    injection e1 with e1
    subst e1 e3
    refine .inr ⟨g, c, cur, rfl, hb, hh, by omega, h2, h3, ?_⟩
    have h5 : cur.toList.take (n * 4) = (cur.toList.take ((n + 1) * 4)).take (n * 4) := by rw [List.take_take]; congr 1; omega
    rw [h5, h4, List.take_append_of_le_length (by omega), List.take_of_length_le (by omega)]
theorem twinF_own (A : Option Addr) (n c : Nat) (l : List Fi) (w : World) (h : Lies w w.heap.size 4 A n (fcs l)) (hn : n ≤ 1000000) :
    Calls Try.prog 21 #[.slice A n c] w fun e w' => ∃ g c', e = .returned (.slice (some ⟨g, 0, none⟩) n c') ∧ n ≤ c' ∧ c' ≤ maxLen ∧ w'.ownsRow w.heap.size 33 4 (.slice (some ⟨g, 0, none⟩) n c') n (fcs l) ∧ Below w.heap.size w w' :=
  (twinF_any A n c l w h hn).mono fun e w' ⟨g, c', he, ho, hb⟩ => by
    rw [fcs_app] at ho
    have hb1 := own_bound ho
    exact ⟨g, c', he, by omega, hb1.2, own_lessF ho (by rw [fcs_len, h.flen]), hb⟩

/-! how many files there are -/
noncomputable def inB (L : List Fi) (f : Fi) : Bool := @decide (f ∈ L) (Classical.propDecidable _)
theorem inB_iff {L : List Fi} {f : Fi} : inB L f = true ↔ f ∈ L := by unfold inB; exact @decide_eq_true_iff _ (Classical.propDecidable _)
noncomputable def cnt (L xs : List Fi) : Nat := xs.countP (inB L)
theorem cnt_step {L xs : List Fi} {k : Nat} {f : Fi} (h : xs[k]? = some f) (b : Bool) (hb : b = true ↔ f ∈ L) : cnt L (xs.take (k + 1)) = cnt L (xs.take k) + (if b then 1 else 0) := by
  have e : inB L f = b := by
    have := (inB_iff (L := L) (f := f)).trans hb.symm
    cases b <;> cases h2 : inB L f <;> simp_all
  unfold cnt
  rw [List.take_add_one, h, List.countP_append]
  congr 1
  show List.countP _ [f] = _
  rw [List.countP_singleton, e]
theorem cnt_le (L xs : List Fi) (k : Nat) : cnt L (xs.take k) ≤ k := by
  unfold cnt
  exact Nat.le_trans List.countP_le_length (by rw [List.length_take]; omega)
theorem cnt_all {L a y : List Fi} {r : List Nat} (hp : L.Perm (left a r ++ y)) : L.length ≤ cnt L (a ++ y) := by
  rw [hp.length_eq, List.length_append]
  unfold cnt
  rw [List.countP_append]
  have h1 : (left a r).length ≤ a.countP (inB L) := by
    unfold left
    rw [← List.countP_eq_length_filter]
    refine List.countP_mono_left fun f hf h => ?_
    exact inB_iff.2 (hp.mem_iff.2 (List.mem_append_left _ (List.mem_filter.2 ⟨hf, h⟩)))
  have h2 : y.countP (inB L) = y.length := by
    rw [List.countP_eq_length]
    intro f hf
    exact inB_iff.2 (hp.mem_iff.2 (List.mem_append_right _ hf))
  omega
theorem left_len {a : List Fi} {r : List Nat} (hn : (nms a).Nodup) (hr : RemOk a r) : (left a r).length + r.length = a.length := by
  have h1 : (nms (a.filter fun f => r.contains f.num)).Perm r := by
    refine (List.perm_ext_iff_of_nodup ((List.Sublist.map _ List.filter_sublist).nodup hn) hr.1).2 fun k => ?_
    rw [List.mem_map]
    constructor
    · rintro ⟨f, hf, rfl⟩
      simpa using (List.mem_filter.1 hf).2
    · intro hk
      obtain ⟨f, hf, rfl⟩ := nms_mem.1 (hr.2 k hk)
      exact ⟨f, List.mem_filter.2 ⟨hf, by simpa using hk⟩, rfl⟩
  have h2 := h1.length_eq
  unfold nms at h2
  rw [List.length_map] at h2
  have h3 := List.length_eq_countP_add_countP (l := a) (fun f : Fi => r.contains f.num)
  rw [List.countP_eq_length_filter] at h3
  unfold left
  rw [← List.countP_eq_length_filter]
  have h4 : a.countP (fun f => !r.contains f.num) = a.countP (fun f => decide ¬(r.contains f.num = true)) := by
    refine List.countP_congr fun f _ => ?_
    simp
  omega
end Go.Proofs.Ytbnndajpjhgafaa
