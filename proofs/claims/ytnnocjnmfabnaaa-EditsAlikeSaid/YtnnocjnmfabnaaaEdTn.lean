/-
  Layer 11's laws: turned; what is undone; the order in which files stand.
-/
import Derived.Test.YtnnocjnmfabnaaaEdTw
import Derived.Test.YtnnocjnmfabnaaaEdY
namespace Go.Proofs.Ytnnocjnmfabnaaa
open Go.RowKit
set_option linter.unusedVariables false
set_option maxRecDepth 100000

section
variable {w : World} {B n k m c : Nat} {A : Option Addr} {xs : List Value}
theorem Lies.takeF (h : Lies w B k A n xs) (hm : m ≤ n) : Lies w B k A m (xs.take (m * k)) := by
  have hl := h.len
  have hmk : m * k ≤ n * k := Nat.mul_le_mul_right _ hm
  refine ⟨by rw [List.length_take, hl]; exact Nat.min_eq_left hmk, fun j hj => ?_⟩
  rw [List.length_take, hl, Nat.min_eq_left hmk] at hj
  obtain ⟨ad, u, e, hb, hx, hc⟩ := h.spot j (by omega)
  exact ⟨ad, u, e, hb, by rw [List.getElem?_take, if_pos hj]; exact hx, hc⟩
def cutF (A : Option Addr) (c m : Nat) : Option Addr := if c = m then A else A.map (·.add (m * 4))
theorem Lies.cutF (h : Lies w B 4 A n xs) (hm : m ≤ n) (hc : n ≤ c) : Lies w B 4 (cutF A c m) (n - m) (xs.drop (m * 4)) := by
  have hl := h.len
  unfold Go.Proofs.Ytnnocjnmfabnaaa.cutF
  by_cases e : c = m
  · rw [if_pos e, show n - m = 0 from by omega, List.drop_eq_nil_of_le (by rw [hl, show m = n from by omega]; exact Nat.le_refl _)]
    exact Lies.none_ _ _ _ _
  · rw [if_neg e]
    refine ⟨by rw [List.length_drop, hl]; omega, fun j hj => ?_⟩
    rw [List.length_drop, hl] at hj
    obtain ⟨ad, u, rfl, hb, hx, hcc⟩ := h.spot (m * 4 + j) (by omega)
    exact ⟨ad.add (m * 4), u, rfl, by rw [add_block]; exact hb, by rw [List.getElem?_drop]; exact hx, by rw [add_add]; exact hcc⟩
end
theorem run_cutF (w : World) (A : Option Addr) (n c l : Nat) (h : l ≤ n) :
    (Instr.slice 22 (.slice A n c) (some (.int .i64 (l : Int))) none none).run Try.prog w = .ok (.slice (cutF A c l) (n - l) (c - l)) w := by
  obtain ⟨i0, hi, hz0, hz1, hz2⟩ := info_parts file_info
  unfold Instr.slice cutF
  simp [run_underlying Try.underlying22, Instr.sliceBounds, Instr.sliceBound, asIntOf, sizeOf, typeInfo, hi, hz1, h]
theorem fcs_take (l : List Fi) (k : Nat) : (fcs l).take (k * 4) = fcs (l.take k) := by
  unfold fcs
  induction l generalizing k with
  | nil => simp
  | cons a l ih => cases k with
    | zero => simp
    | succ k => rw [List.take_succ_cons, List.flatMap_cons, List.flatMap_cons, ← ih k, Nat.succ_mul]; simp [Fi.cs, List.take_succ_cons]
theorem fcs_drop (l : List Fi) (k : Nat) : (fcs l).drop (k * 4) = fcs (l.drop k) := by
  unfold fcs
  induction l generalizing k with
  | nil => simp
  | cons a l ih => cases k with
    | zero => simp
    | succ k => rw [List.drop_succ_cons, List.flatMap_cons, ← ih k, Nat.succ_mul]; simp [Fi.cs]

set_option maxHeartbeats 2000000 in
theorem turned_any (A : Option Addr) (n c m : Nat) (l : List Fi) (w : World) (h : Lies w w.heap.size 4 A n (fcs l)) (hnc : n ≤ c) (hc : c ≤ 140737488351232) (hn : n ≤ 1000000) (hm : m < 256) :
    Calls Try.prog 7 #[.slice A n c, .int .i64 (m : Int)] w fun e w' => ∃ A2 c2 L, e = .returned (.slice A2 n c2) ∧ w'.ownsRow w.heap.size 37 4 (.slice A2 n c2) n (fcs L) ∧ L.Perm l ∧ Below w.heap.size w w' := by
  have HL := Lib.hid h; have HN := Lib.hid h.flen
  clear h
  by_cases h0 : n = 0
  · subst h0
    have HF : Hid (∃ A2 c2 L, Ending.returned (.slice none 0 0) = .returned (.slice A2 0 c2) ∧ w.ownsRow w.heap.size 37 4 (.slice A2 0 c2) 0 (fcs L) ∧ L.Perm l ∧ Below w.heap.size w w) := ⟨none, 0, [], rfl, ⟨rfl, .inl ⟨rfl, rfl⟩⟩, by rw [List.eq_nil_of_length_eq_zero HN.out], Below.refl _ _⟩
    go_enter Try.func7, Try.ntmps7
    go_wp2
    go_ret
    exact HF.out
  · have hne : ((n : Int) == 0) = false := by rw [beq_eq_false_iff_ne]; omega
    obtain ⟨r, hr⟩ : ∃ r, m % n = r := ⟨_, rfl⟩
    have hrn : r < n := by rw [← hr]; exact Nat.mod_lt _ (by omega)
    have e3 : (m : Int).tmod (n : Int) = (r : Int) := by rw [← hr]; simp [Int.tmod]
    have e4 : (m : Int) % (n : Int) = (r : Int) := by rw [← hr]; simp
    have hri : (r : Int) ≤ 255 := by have := Nat.mod_le m n; omega
    have s1 := fun W => run_cutF W A n c r (by omega)
    have s2 := fun W => run_headF W A n c r (by omega)
    have HC := Lib.hid (HL.out.cutF (c := c) (m := r) (by omega) hnc)
    have HH := Lib.hid (HL.out.takeF (m := r) (by omega))
    rw [fcs_drop] at HC
    rw [fcs_take] at HH
    obtain ⟨i0, hi, hz0, hz1, hz2⟩ := info_parts file_info
    have E0 : Below w.heap.size w w.drew := (Below.refl _ _).drew
    clear hr
    go_enter Try.func7, Try.ntmps7
    go_wp2_with fail
    go_region_held3 (fun _ => True) (exact trivial)
      (first
      | (refine step_app _ (by rfl) _ (.tmp 15) 22 (by rfl) w.heap.size 37 i0 _ 4 48 Try.underlying22 hi hz0 hz1 hz2 rfl (by decide) (.slice none 0 0) 0 [] (by rfl) ⟨rfl, .inl ⟨rfl, rfl⟩⟩ w.heap.size (cutF A c r) (n - r) (c - r) (fcs (l.drop r)) (by rfl) (up_lies HC.out E0) (fcs_one _) (by unfold maxLen; omega) (by omega) (Nat.le_refl _) ?_; intro v3 w3 o3 hg3 _; have B3 := E0.grown hg3 (Nat.le_refl _) (fun k hk => by cases hk); obtain ⟨A3, c3, rfl, q31, q32, _⟩ := own_shape o3)
      | (refine step_app _ (by rfl) (.tmp 16) (.tmp 19) 22 (by rfl) w.heap.size 37 i0 _ 4 48 Try.underlying22 hi hz0 hz1 hz2 rfl (by decide) (.slice A3 (0 + (n - r)) c3) (0 + (n - r)) ([] ++ fcs (l.drop r)) (by rfl) o3 w3.heap.size A r c (fcs (l.take r)) (by rfl) (up_lies HH.out B3) (fcs_one _) (by unfold maxLen; omega) (by omega) B3.size ?_; intro v4 w4 o4 hg4 _; have B4 := B3.grown hg4 B3.size (fun k hk => (o3.lt k hk).1); obtain ⟨A4, c4, rfl, q41, q42, _⟩ := own_shape o4)
      | fail)
    have hnn : 0 + (n - r) + r = n := by omega
    have HF : Hid (∃ A2 c2 L, Ending.returned (.slice A4 (n - r + r) c4) = .returned (.slice A2 n c2) ∧ w4.ownsRow w.heap.size 37 4 (.slice A2 n c2) n (fcs L) ∧ L.Perm l ∧ Below w.heap.size w w4) := by
      refine ⟨A4, c4, l.drop r ++ l.take r, by rw [show n - r + r = n from by omega], ?_, ?_, B4⟩
      · have h9 := o4
        rw [hnn, List.nil_append, ← fcs_app] at h9
        exact h9
      · refine List.perm_append_comm.trans ?_
        rw [List.take_append_drop]
    clear o3 o4 hg3 hg4 B3 B4 E0
    go_wp2
    go_ret
    exact HF.out

/-! what is undone -/
/-- those that are taken -/
def gone (l : List Fi) (r : List Nat) : List Fi := l.filter fun f => r.contains f.num
theorem left_gone (l : List Fi) (r : List Nat) : (left l r ++ gone l r).Perm l := by
  refine List.perm_append_comm.trans ?_
  exact List.filter_append_perm (fun f : Fi => r.contains f.num) l
theorem undo_left {l a x : List Fi} {r : List Nat} (h : DoOk l x r) (hp : a.Perm (left l r ++ x)) : (left a (nms x)).Perm (left l r) := by
  refine (left_perm hp _).trans ?_
  have hn := h.2.2.2
  rw [nms_app, List.nodup_append] at hn
  rw [left_app, left_all fun f hf q => hn.2.2 f.num (List.mem_map_of_mem hf) f.num q rfl]
  have : left x (nms x) = [] := by
    unfold left
    rw [List.filter_eq_nil_iff]
    intro f hf
    have : f.num ∈ nms x := List.mem_map_of_mem hf
    simp [this]
  rw [this, List.append_nil]
theorem undo_ok {l a x : List Fi} {r : List Nat} (h : DoOk l x r) (hp : a.Perm (left l r ++ x)) : DoOk a (gone l r) (nms x) := by
  have hn := h.2.2.2
  rw [nms_app, List.nodup_append] at hn
  refine ⟨addOk_perm (doOk_after h) hp, ⟨hn.2.1, fun k hk => ?_⟩, ⟨fun f hf => h.1.1 f (List.mem_filter.1 hf).1, ?_⟩⟩
  · obtain ⟨f, hf, rfl⟩ := nms_mem.1 hk
    exact List.mem_map_of_mem (hp.mem_iff.2 (List.mem_append_right _ hf))
  · have h1 : (left a (nms x) ++ gone l r).Perm l := (List.Perm.append_right _ (undo_left h hp)).trans (left_gone l r)
    exact ((h1.map Fi.num).nodup_iff).2 h.1.2
theorem undo_perm {l a x b : List Fi} {r : List Nat} (h : DoOk l x r) (hp : a.Perm (left l r ++ x)) (hb : b.Perm (left a (nms x) ++ gone l r)) : b.Perm l :=
  hb.trans ((List.Perm.append_right _ (undo_left h hp)).trans (left_gone l r))

/-! the order in which files stand -/
theorem remOk_perm {l m : List Fi} {r s : List Nat} (h : RemOk l r) (hl : m.Perm l) (hr : s.Perm r) : RemOk m s :=
  ⟨hr.nodup_iff.2 h.1, fun k hk => ((hl.map Fi.num).mem_iff).2 (h.2 k (hr.mem_iff.1 hk))⟩
theorem left_perm2 {l m : List Fi} {r s : List Nat} (hl : m.Perm l) (hr : s.Perm r) : (left m s).Perm (left l r) := by
  have e : left m s = left m r := by
    unfold left
    refine List.filter_congr fun f _ => ?_
    rw [List.contains_eq_mem, List.contains_eq_mem]
    simp [hr.mem_iff]
  rw [e]
  exact left_perm hl r
theorem doOk_perm {l m a b : List Fi} {r s : List Nat} (h : DoOk l a r) (hl : m.Perm l) (ha : b.Perm a) (hr : s.Perm r) : DoOk m b s :=
  ⟨addOk_perm h.1 hl, remOk_perm h.2.1 hl hr, ⟨fun f hf => h.2.2.1 f (ha.mem_iff.1 hf), ((((left_perm2 hl hr).append ha).map Fi.num).nodup_iff).2 h.2.2.2⟩⟩
end Go.Proofs.Ytnnocjnmfabnaaa
