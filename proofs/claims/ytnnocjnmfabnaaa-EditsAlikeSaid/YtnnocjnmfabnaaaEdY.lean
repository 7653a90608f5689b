/-
  Layer 11's laws: nums, meet; two edits with no number in common.
-/
import Derived.Test.YtnnocjnmfabnaaaEdX
import Derived.Test.YtnnocjnmfabnaaaEdU
namespace Go.Proofs.Ytnnocjnmfabnaaa
open Go.RowKit
set_option linter.unusedVariables false
set_option maxRecDepth 100000

/-- the numbers of an edit -/
def numE (x : Edt) : List Nat := x.rem ++ nms x.add
theorem ed_lieY (w : World) (P1 : Option Addr) (n1 c1 : Nat) (P2 : Option Addr) (n2 c2 : Nat) (j x s : Nat) : EtAt (edW w P1 n1 c1 P2 n2 c2 j x s) w.heap.size P1 n1 c1 P2 n2 c2 j x s ∧ Below w.heap.size w (edW w P1 n1 c1 P2 n2 c2 j x s) := ⟨heap_alloc_new w _, al_below w _⟩
section
variable {w : World} {n1 n2 c1 c2 : Nat} {P1 P2 : Option Addr}
end

/-! two edits with no number in common -/
theorem left_app (a b : List Fi) (r : List Nat) : left (a ++ b) r = left a r ++ left b r := by unfold left; rw [List.filter_append]
theorem left_comm (l : List Fi) (r s : List Nat) : left (left l r) s = left (left l s) r := by
  unfold left
  rw [List.filter_filter, List.filter_filter]
  exact List.filter_congr fun f _ => Bool.and_comm _ _
theorem left_all {l : List Fi} {r : List Nat} (h : ∀ f ∈ l, f.num ∉ r) : left l r = l := by
  unfold left
  rw [List.filter_eq_self]
  intro f hf
  have := h f hf
  simp [this]
theorem left_perm {l m : List Fi} (h : l.Perm m) (r : List Nat) : (left l r).Perm (left m r) := List.Perm.filter _ h
theorem both_ok {l a : List Fi} {x y : Edt} (hx : DoOk l x.add x.rem) (hy : DoOk l y.add y.rem) (hxy : ∀ k ∈ numE x, k ∉ numE y) (hp : a.Perm (left l x.rem ++ x.add)) : DoOk a y.add y.rem := by
  have ha := addOk_perm (doOk_after hx) hp
  have ax : ∀ f ∈ x.add, f.num ∉ numE y := fun f hf => hxy _ (List.mem_append_right _ (List.mem_map_of_mem hf))
  refine ⟨ha, ⟨hy.2.1.1, fun k hk => ?_⟩, ⟨hy.2.2.1, ?_⟩⟩
  · obtain ⟨f, hf, rfl⟩ := nms_mem.1 (hy.2.1.2 k hk)
    refine List.mem_map_of_mem (hp.mem_iff.2 (List.mem_append_left _ (mem_left.2 ⟨hf, fun h => ?_⟩)))
    exact hxy _ (List.mem_append_left _ h) (List.mem_append_left _ hk)
  · rw [nms_app, List.nodup_append]
    have hyn := hy.2.2.2
    rw [nms_app, List.nodup_append] at hyn
    refine ⟨left_nodup ha.2 _, hyn.2.1, fun p hp2 q hq e => ?_⟩
    obtain ⟨f, hf, rfl⟩ := nms_mem.1 hp2
    obtain ⟨hfa, hfr⟩ := mem_left.1 hf
    rcases List.mem_append.1 (hp.mem_iff.1 hfa) with q1 | q1
    · exact hyn.2.2 f.num (List.mem_map_of_mem (mem_left.2 ⟨(mem_left.1 q1).1, hfr⟩)) q hq e
    · exact ax f q1 (List.mem_append_right _ (e ▸ hq))
theorem both_perm {l a b : List Fi} {x y : Edt} (hxy : ∀ k ∈ numE x, k ∉ numE y) (hp : a.Perm (left l x.rem ++ x.add)) (hq : b.Perm (left l y.rem ++ y.add)) : (left a y.rem ++ y.add).Perm (left b x.rem ++ x.add) := by
  have h1 : (left a y.rem ++ y.add).Perm ((left (left l x.rem) y.rem ++ x.add) ++ y.add) := by
    refine List.Perm.append_right _ ((left_perm hp _).trans ?_)
    rw [left_app, left_all (l := x.add) fun f hf h => hxy _ (List.mem_append_right _ (List.mem_map_of_mem hf)) (List.mem_append_left _ h)]
  have h2 : (left b x.rem ++ x.add).Perm ((left (left l y.rem) x.rem ++ y.add) ++ x.add) := by
    refine List.Perm.append_right _ ((left_perm hq _).trans ?_)
    rw [left_app, left_all (l := y.add) fun f hf h => hxy _ (List.mem_append_left _ h) (List.mem_append_right _ (List.mem_map_of_mem hf))]
  refine h1.trans (List.Perm.trans ?_ h2.symm)
  rw [left_comm l y.rem x.rem, List.append_assoc, List.append_assoc]
  exact List.Perm.append_left _ List.perm_append_comm
end Go.Proofs.Ytnnocjnmfabnaaa
