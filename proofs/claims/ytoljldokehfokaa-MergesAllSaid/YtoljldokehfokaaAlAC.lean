/-
  What layer 12's alive calls, and what that answers.
  What layer 12's alive calls, and what that answers: lists, looks.
  What layer 12's alive calls at its end.
-/
import Derived.Test.YtoljldokehfokaaHelp12
import Derived.KernelRfl
namespace Go.Proofs.Ytoljldokehfokaa
open Go.RowKit
set_option linter.unusedVariables false
set_option maxRecDepth 100000

def G0 : En := ⟨⟨⟨#[97]⟩, 9, true⟩, ⟨#[]⟩⟩
def G1 : En := ⟨⟨⟨#[97]⟩, 5, false⟩, ⟨#[120]⟩⟩
def G2 : En := ⟨⟨⟨#[97]⟩, 2, false⟩, ⟨#[121]⟩⟩
def G3 : En := ⟨⟨⟨#[98]⟩, 7, true⟩, ⟨#[]⟩⟩
def GX : En := ⟨⟨⟨#[97]⟩, 1, false⟩, ⟨#[120]⟩⟩
def GY : En := ⟨⟨⟨#[97]⟩, 1, false⟩, ⟨#[121]⟩⟩
def GB : En := ⟨⟨⟨#[98]⟩, 1, false⟩, ⟨#[120]⟩⟩
def S12 : List En := [G0, G1, G2, G3]
theorem em12_x : (⟨#[120]⟩ : ByteArray).toList.isEmpty = false := by decide +kernel
theorem em12_y : (⟨#[121]⟩ : ByteArray).toList.isEmpty = false := by decide +kernel
theorem em12_0 : (⟨#[]⟩ : ByteArray).toList.isEmpty = true := by decide +kernel
theorem ent12_v (k : ByteArray) (s : Nat) (w : World) : Calls Try.prog 13 #[.string k, .int .u64 (s : Int), .string ⟨#[]⟩] w fun e w' => e = .returned (.agg #[.string k, .int .u64 (s : Int), .bool true, .string ⟨#[]⟩]) ∧ Below w.heap.size w w' := by
  have q := ent12_any k s ⟨#[]⟩ w
  unfold mkE En.v at q
  rw [em12_0] at q
  exact q
theorem ent12_x (k : ByteArray) (s : Nat) (w : World) : Calls Try.prog 13 #[.string k, .int .u64 (s : Int), .string ⟨#[120]⟩] w fun e w' => e = .returned (.agg #[.string k, .int .u64 (s : Int), .bool false, .string ⟨#[120]⟩]) ∧ Below w.heap.size w w' := by
  have q := ent12_any k s ⟨#[120]⟩ w
  unfold mkE En.v at q
  rw [em12_x] at q
  exact q
theorem ent12_y (k : ByteArray) (s : Nat) (w : World) : Calls Try.prog 13 #[.string k, .int .u64 (s : Int), .string ⟨#[121]⟩] w fun e w' => e = .returned (.agg #[.string k, .int .u64 (s : Int), .bool false, .string ⟨#[121]⟩]) ∧ Below w.heap.size w w' := by
  have q := ent12_any k s ⟨#[121]⟩ w
  unfold mkE En.v at q
  rw [em12_y] at q
  exact q

theorem rise12 : Rise S12 := by decide +kernel
theorem rise12_a : Rise [G0, G3] := by decide +kernel
theorem rise12_b : Rise [G1, G2] := by decide +kernel
theorem fall12 : ¬ Rise [GB, GX] := by decide +kernel
theorem small12 : ∀ x ∈ S12, x.m.s ≤ MX := by
  intro x hx
  simp only [S12, List.mem_cons, List.not_mem_nil, or_false] at hx
  rcases hx with rfl | rfl | rfl | rfl <;> decide
theorem size12 : ∀ x ∈ [G0, G1, G2, G3, GX, GY, GB], x.m.k.size ≤ 140737488351232 ∧ x.x.size ≤ 140737488351232 := by
  intro x hx
  simp only [List.mem_cons, List.not_mem_nil, or_false] at hx
  rcases hx with rfl | rfl | rfl | rfl | rfl | rfl | rfl <;> decide
theorem see12_9 : rowsV 9 S12 = [] := by kernel_rfl
theorem see12_5 : rowsV 5 S12 = [(⟨#[97]⟩, ⟨#[120]⟩)] := by kernel_rfl
theorem see12_4 : rowsV 4 S12 = [(⟨#[97]⟩, ⟨#[121]⟩)] := by kernel_rfl
theorem thin12_0 : thinF ([] ++ [MX]) false S12 = [G0, G3] := by kernel_rfl
theorem thin12_1 : thinF ([] ++ [MX]) true S12 = [] := by kernel_rfl
theorem thin12_6 : thinF ([6] ++ [MX]) true S12 = [G0, G1] := by kernel_rfl
theorem thin12_3 : thinF ([3, 1] ++ [MX]) false S12 = [G0, G2, G3] := by kernel_rfl

/-- lists that lie, and a list of them that is made now -/
theorem ls_lit (w : World) (L : List Ls) (n : Nat) (hn : L.length = n) : Lies (w.alloc (.cells (L.map Ls.v).toArray 22)) (w.heap.size + 1) 1 (some ⟨w.heap.size, 0, none⟩) n (L.map Ls.v) := by
  have h := lits_lie (w := w) rfl (L.map Ls.v) 22
  rw [List.length_map, hn] at h
  exact h
theorem two_lit {W : World} {b1 b2 : Nat} {l1 l2 : List En} {n1 n2 : Nat} (h1 : EL W W.heap.size (some ⟨b1, 0, none⟩) n1 n1 l1) (h2 : EL W W.heap.size (some ⟨b2, 0, none⟩) n2 n2 l2) (hs : l1.length + l2.length ≤ 1000) :
    Calls Try.prog 9 #[.slice (some ⟨W.heap.size, 0, none⟩) 2 2] (W.alloc (.cells #[.slice (some ⟨b1, 0, none⟩) n1 n1, .slice (some ⟨b2, 0, none⟩) n2 n2] 22)) fun e w' =>
      Below W.heap.size W w' ∧ ∃ out, MgO [l1, l2] out ∧ ((Rise out ∧ ∃ v, e = .returned (.tuple #[v, .int .i64 0]) ∧ w'.ownsRow W.heap.size 31 4 v out.length (ecs out)) ∨ (¬ Rise out ∧ e = .returned (.tuple #[.slice none 0 0, .int .i64 1]))) := by
  have hb := al_belowM W (.cells #[.slice (some ⟨b1, 0, none⟩) n1 n1, .slice (some ⟨b2, 0, none⟩) n2 n2] 22)
  have hsz : (W.alloc (.cells #[.slice (some ⟨b1, 0, none⟩) n1 n1, .slice (some ⟨b2, 0, none⟩) n2 n2] 22)).heap.size = W.heap.size + 1 := by simp
  have hl := ls_lit W [⟨some ⟨b1, 0, none⟩, n1, n1, l1⟩, ⟨some ⟨b2, 0, none⟩, n2, n2, l2⟩] 2 rfl
  have hu : ∀ {n : Nat} {A : Option Addr} {l : List En}, EL W W.heap.size A n n l → EL (W.alloc (.cells #[.slice (some ⟨b1, 0, none⟩) n1 n1, .slice (some ⟨b2, 0, none⟩) n2 n2] 22)) (W.heap.size + 1) A n n l := fun h =>
    ⟨(h.lies.below hb).more (Nat.le_succ _), Nat.le_of_eq hsz.symm, h.nc, h.cc, h.sz⟩
  refine (merge_any _ (W.heap.size + 1) 2 2 _ [⟨some ⟨b1, 0, none⟩, n1, n1, l1⟩, ⟨some ⟨b2, 0, none⟩, n2, n2, l2⟩] hl (Nat.le_of_eq hsz.symm) ?_ (by omega) (by simp; omega)).mono ?_
  · intro r hr
    simp only [List.mem_cons, List.not_mem_nil, or_false] at hr
    rcases hr with rfl | rfl
    · exact hu h1
    · exact hu h2
  · rintro e w' ⟨hb2, out, ho, h⟩
    refine ⟨hb.trans (hb2.mono hb.size), out, ho, ?_⟩
    rcases h with ⟨hr, v, he, hw⟩ | h
    · exact .inl ⟨hr, v, he, own_base hw hb.size⟩
    · exact .inr h
theorem out12 {out : List En} (h : MgO [[G0, G3], [G1, G2]] out) : out = S12 := by
  refine h.no ⟨fun l hl => ?_, ?_, rise12⟩
  · simp only [List.mem_cons, List.not_mem_nil, or_false] at hl
    rcases hl with rfl | rfl
    · exact rise12_a
    · exact rise12_b
  · show [G0, G1, G2, G3].Perm [G0, G3, G1, G2]
    exact List.Perm.cons _ (((List.Perm.cons G1 (List.Perm.swap G3 G2 [])).trans (List.Perm.swap G3 G1 [G2])))
theorem two12 {out : List En} (h : MgO [[GX], [GY]] out) : ¬ Rise out := by
  intro hr
  have hp : out.Perm [GX, GY] := h.perm
  have h1 : GX ∈ out := hp.mem_iff.2 (by simp)
  have h2 : GY ∈ out := hp.mem_iff.2 (by simp)
  obtain ⟨i, hi⟩ := List.mem_iff_getElem?.1 h1
  obtain ⟨j, hj⟩ := List.mem_iff_getElem?.1 h2
  have e : GX.m = GY.m := rfl
  have e0 : cmpM GX.m GY.m = 0 := by rw [e]; exact cmp_self _
  have e1 : cmpM GY.m GX.m = 0 := by rw [e]; exact cmp_self _
  rcases Nat.lt_trichotomy i j with q | q | q
  · have := hr.ne q hi hj; omega
  · subst q
    rw [hi] at hj
    injection hj with hj
    have := congrArg (fun z : En => z.x.data.toList) hj
    simp [GX, GY] at this
  · have := hr.ne q hj hi; omega
end Go.Proofs.Ytoljldokehfokaa

namespace Go.Proofs.Ytoljldokehfokaa
open Go.RowKit
set_option linter.unusedVariables false
set_option maxRecDepth 100000

theorem en12_0 (W : World) : Calls Try.prog 13 #[.string ⟨#[97]⟩, .int .u64 9, .string ⟨#[]⟩] W fun e w' => e = .returned (.agg #[.string ⟨#[97]⟩, .int .u64 9, .bool true, .string ⟨#[]⟩]) ∧ Below W.heap.size W w' := ent12_v ⟨#[97]⟩ 9 W
theorem en12_1 (W : World) : Calls Try.prog 13 #[.string ⟨#[97]⟩, .int .u64 5, .string ⟨#[120]⟩] W fun e w' => e = .returned (.agg #[.string ⟨#[97]⟩, .int .u64 5, .bool false, .string ⟨#[120]⟩]) ∧ Below W.heap.size W w' := ent12_x ⟨#[97]⟩ 5 W
theorem en12_2 (W : World) : Calls Try.prog 13 #[.string ⟨#[97]⟩, .int .u64 2, .string ⟨#[121]⟩] W fun e w' => e = .returned (.agg #[.string ⟨#[97]⟩, .int .u64 2, .bool false, .string ⟨#[121]⟩]) ∧ Below W.heap.size W w' := ent12_y ⟨#[97]⟩ 2 W
theorem en12_3 (W : World) : Calls Try.prog 13 #[.string ⟨#[98]⟩, .int .u64 7, .string ⟨#[]⟩] W fun e w' => e = .returned (.agg #[.string ⟨#[98]⟩, .int .u64 7, .bool true, .string ⟨#[]⟩]) ∧ Below W.heap.size W w' := ent12_v ⟨#[98]⟩ 7 W
theorem en12_4 (W : World) : Calls Try.prog 13 #[.string ⟨#[97]⟩, .int .u64 1, .string ⟨#[120]⟩] W fun e w' => e = .returned (.agg #[.string ⟨#[97]⟩, .int .u64 1, .bool false, .string ⟨#[120]⟩]) ∧ Below W.heap.size W w' := ent12_x ⟨#[97]⟩ 1 W
theorem en12_5 (W : World) : Calls Try.prog 13 #[.string ⟨#[97]⟩, .int .u64 1, .string ⟨#[121]⟩] W fun e w' => e = .returned (.agg #[.string ⟨#[97]⟩, .int .u64 1, .bool false, .string ⟨#[121]⟩]) ∧ Below W.heap.size W w' := ent12_y ⟨#[97]⟩ 1 W
theorem en12_6 (W : World) : Calls Try.prog 13 #[.string ⟨#[98]⟩, .int .u64 1, .string ⟨#[120]⟩] W fun e w' => e = .returned (.agg #[.string ⟨#[98]⟩, .int .u64 1, .bool false, .string ⟨#[120]⟩]) ∧ Below W.heap.size W w' := ent12_x ⟨#[98]⟩ 1 W
abbrev P12 (g : Nat) (W : World) : Prop := W.cell? ⟨g, 0, none⟩ = some (.string ⟨#[97]⟩) ∧ W.cell? ⟨g, 1, none⟩ = some (.int .u64 9) ∧ W.cell? ⟨g, 2, none⟩ = some (.bool true) ∧ W.cell? ⟨g, 3, none⟩ = some (.string ⟨#[]⟩) ∧ W.cell? ⟨g, 4, none⟩ = some (.string ⟨#[97]⟩) ∧ W.cell? ⟨g, 5, none⟩ = some (.int .u64 5) ∧ W.cell? ⟨g, 6, none⟩ = some (.bool false) ∧ W.cell? ⟨g, 7, none⟩ = some (.string ⟨#[120]⟩) ∧ W.cell? ⟨g, 8, none⟩ = some (.string ⟨#[97]⟩) ∧ W.cell? ⟨g, 9, none⟩ = some (.int .u64 2) ∧ W.cell? ⟨g, 10, none⟩ = some (.bool false) ∧ W.cell? ⟨g, 11, none⟩ = some (.string ⟨#[121]⟩) ∧ W.cell? ⟨g, 12, none⟩ = some (.string ⟨#[98]⟩) ∧ W.cell? ⟨g, 13, none⟩ = some (.int .u64 7) ∧ W.cell? ⟨g, 14, none⟩ = some (.bool true) ∧ W.cell? ⟨g, 15, none⟩ = some (.string ⟨#[]⟩)
theorem p12_of {g : Nat} {W0 W : World} (h : W0.heap[g]? = some (.cells #[.string ⟨#[97]⟩, .int .u64 9, .bool true, .string ⟨#[]⟩, .string ⟨#[97]⟩, .int .u64 5, .bool false, .string ⟨#[120]⟩, .string ⟨#[97]⟩, .int .u64 2, .bool false, .string ⟨#[121]⟩, .string ⟨#[98]⟩, .int .u64 7, .bool true, .string ⟨#[]⟩] 31 (0, 0))) (hb : Below W0.heap.size W0 W) : P12 g W := by
  have h2 := (hb.block g (Array.getElem?_eq_some_iff.1 h).1).trans h
  exact ⟨cell_of_row _ _ 0 _ _ (0, 0) h2, cell_of_row _ _ 1 _ _ (0, 0) h2, cell_of_row _ _ 2 _ _ (0, 0) h2, cell_of_row _ _ 3 _ _ (0, 0) h2, cell_of_row _ _ 4 _ _ (0, 0) h2, cell_of_row _ _ 5 _ _ (0, 0) h2, cell_of_row _ _ 6 _ _ (0, 0) h2, cell_of_row _ _ 7 _ _ (0, 0) h2, cell_of_row _ _ 8 _ _ (0, 0) h2, cell_of_row _ _ 9 _ _ (0, 0) h2, cell_of_row _ _ 10 _ _ (0, 0) h2, cell_of_row _ _ 11 _ _ (0, 0) h2, cell_of_row _ _ 12 _ _ (0, 0) h2, cell_of_row _ _ 13 _ _ (0, 0) h2, cell_of_row _ _ 14 _ _ (0, 0) h2, cell_of_row _ _ 15 _ _ (0, 0) h2⟩
theorem pair_lit (w : World) (l1 l2 : List En) (n1 n2 : Nat) (e1 : l1.length = n1) (e2 : l2.length = n2) (h1 : n1 ≤ 1000) (h2 : n2 ≤ 1000) (s1 : ∀ e ∈ l1, e.m.k.size ≤ 140737488351232 ∧ e.x.size ≤ 140737488351232) (s2 : ∀ e ∈ l2, e.m.k.size ≤ 140737488351232 ∧ e.x.size ≤ 140737488351232) :
    EL ((w.alloc (.cells (ecs l1).toArray 31)).alloc (.cells (ecs l2).toArray 31)).drew (w.heap.size + 1 + 1) (some ⟨w.heap.size, 0, none⟩) n1 n1 l1 ∧ EL ((w.alloc (.cells (ecs l1).toArray 31)).alloc (.cells (ecs l2).toArray 31)).drew (w.heap.size + 1 + 1) (some ⟨w.heap.size + 1, 0, none⟩) n2 n2 l2 := by
  have a := lit_EL w l1 n1 e1 h1 s1
  have hz : (w.alloc (.cells (ecs l1).toArray 31)).heap.size = w.heap.size + 1 := by simp
  have b := lit_EL (w.alloc (.cells (ecs l1).toArray 31)) l2 n2 e2 h2 s2
  rw [hz] at b
  have hz2 : ((w.alloc (.cells (ecs l1).toArray 31)).alloc (.cells (ecs l2).toArray 31)).drew.heap.size = w.heap.size + 1 + 1 := by show ((w.alloc (.cells (ecs l1).toArray 31)).alloc (.cells (ecs l2).toArray 31)).heap.size = _; simp
  have hb := (al_belowM (w.alloc (.cells (ecs l1).toArray 31)) (.cells (ecs l2).toArray 31)).drew
  have a2 := a.below hb
  exact ⟨⟨a2.lies.more (Nat.le_succ _), Nat.le_of_eq hz2.symm, a2.nc, a2.cc, a2.sz⟩, (b.below (Below.refl _ _).drew)⟩

/-- what comes of the two lists -/
def M12 (w : World) (e : Ending) (w' : World) : Prop := Below w.heap.size w w' ∧ ∃ A c, e = .returned (.tuple #[.slice A 4 c, .int .i64 0]) ∧ Lies w' w'.heap.size 4 A 4 (ecs S12)
theorem mrg12 {W : World} {b1 b2 : Nat} (h1 : EL W W.heap.size (some ⟨b1, 0, none⟩) 2 2 [G0, G3]) (h2 : EL W W.heap.size (some ⟨b2, 0, none⟩) 2 2 [G1, G2]) :
    Calls Try.prog 9 #[.slice (some ⟨W.heap.size, 0, none⟩) 2 2] (W.alloc (.cells #[.slice (some ⟨b1, 0, none⟩) 2 2, .slice (some ⟨b2, 0, none⟩) 2 2] 22)) (M12 W) := by
  refine (two_lit h1 h2 (by decide)).mono ?_
  rintro e w' ⟨hb, out, ho, h⟩
  obtain rfl := out12 ho
  rcases h with ⟨_, v, rfl, hw⟩ | ⟨hno, _⟩
  · obtain ⟨A, c, rfl, _⟩ := own_shape hw
    exact ⟨hb, A, c, rfl, Lies.of_own hw⟩
  · exact absurd rise12 hno
theorem mrg12_a (w : World) : Calls Try.prog 9 #[.slice (some ⟨w.heap.size + 1 + 1, 0, none⟩) 2 2] (((w.alloc (.cells #[.string ⟨#[97]⟩, .int .u64 9, .bool true, .string ⟨#[]⟩, .string ⟨#[98]⟩, .int .u64 7, .bool true, .string ⟨#[]⟩] 31)).alloc (.cells #[.string ⟨#[97]⟩, .int .u64 5, .bool false, .string ⟨#[120]⟩, .string ⟨#[97]⟩, .int .u64 2, .bool false, .string ⟨#[121]⟩] 31)).alloc (.cells #[.slice (some ⟨w.heap.size, 0, none⟩) 2 2, .slice (some ⟨w.heap.size + 1, 0, none⟩) 2 2] 22)).drew (M12 w) := by
  obtain ⟨h1, h2⟩ := pair_lit w [G0, G3] [G1, G2] 2 2 rfl rfl (by decide) (by decide) (fun e he => size12 e (by simp only [List.mem_cons, List.not_mem_nil, or_false] at he ⊢; rcases he with h | h <;> simp [h])) (fun e he => size12 e (by simp only [List.mem_cons, List.not_mem_nil, or_false] at he ⊢; rcases he with h | h <;> simp [h]))
  have hb : Below w.heap.size w ((w.alloc (.cells #[.string ⟨#[97]⟩, .int .u64 9, .bool true, .string ⟨#[]⟩, .string ⟨#[98]⟩, .int .u64 7, .bool true, .string ⟨#[]⟩] 31)).alloc (.cells #[.string ⟨#[97]⟩, .int .u64 5, .bool false, .string ⟨#[120]⟩, .string ⟨#[97]⟩, .int .u64 2, .bool false, .string ⟨#[121]⟩] 31)).drew := ((((Below.refl _ _).alloc (Nat.le_refl _) _).alloc (by simp) _)).drew
  have hz : ((w.alloc (.cells #[.string ⟨#[97]⟩, .int .u64 9, .bool true, .string ⟨#[]⟩, .string ⟨#[98]⟩, .int .u64 7, .bool true, .string ⟨#[]⟩] 31)).alloc (.cells #[.string ⟨#[97]⟩, .int .u64 5, .bool false, .string ⟨#[120]⟩, .string ⟨#[97]⟩, .int .u64 2, .bool false, .string ⟨#[121]⟩] 31)).drew.heap.size = w.heap.size + 1 + 1 := by show ((w.alloc _).alloc _).heap.size = _; simp
  have h3 : EL ((w.alloc (.cells #[.string ⟨#[97]⟩, .int .u64 9, .bool true, .string ⟨#[]⟩, .string ⟨#[98]⟩, .int .u64 7, .bool true, .string ⟨#[]⟩] 31)).alloc (.cells #[.string ⟨#[97]⟩, .int .u64 5, .bool false, .string ⟨#[120]⟩, .string ⟨#[97]⟩, .int .u64 2, .bool false, .string ⟨#[121]⟩] 31)).drew (w.heap.size + 1 + 1) (some ⟨w.heap.size, 0, none⟩) 2 2 [G0, G3] := h1
  have h4 : EL ((w.alloc (.cells #[.string ⟨#[97]⟩, .int .u64 9, .bool true, .string ⟨#[]⟩, .string ⟨#[98]⟩, .int .u64 7, .bool true, .string ⟨#[]⟩] 31)).alloc (.cells #[.string ⟨#[97]⟩, .int .u64 5, .bool false, .string ⟨#[120]⟩, .string ⟨#[97]⟩, .int .u64 2, .bool false, .string ⟨#[121]⟩] 31)).drew (w.heap.size + 1 + 1) (some ⟨w.heap.size + 1, 0, none⟩) 2 2 [G1, G2] := h2
  have q := mrg12 (b1 := w.heap.size) (b2 := w.heap.size + 1) (by rw [hz]; exact h3) (by rw [hz]; exact h4)
  rw [hz] at q
  exact Calls.mono q fun e w' ⟨a, r⟩ => ⟨hb.trans (a.mono hb.size), r⟩
theorem mrg12_b (w : World) : Calls Try.prog 9 #[.slice (some ⟨w.heap.size + 1 + 1, 0, none⟩) 2 2] (((w.alloc (.cells #[.string ⟨#[97]⟩, .int .u64 5, .bool false, .string ⟨#[120]⟩, .string ⟨#[97]⟩, .int .u64 2, .bool false, .string ⟨#[121]⟩] 31)).alloc (.cells #[.string ⟨#[97]⟩, .int .u64 9, .bool true, .string ⟨#[]⟩, .string ⟨#[98]⟩, .int .u64 7, .bool true, .string ⟨#[]⟩] 31)).alloc (.cells #[.slice (some ⟨w.heap.size + 1, 0, none⟩) 2 2, .slice (some ⟨w.heap.size, 0, none⟩) 2 2] 22)).drew (M12 w) := by
  obtain ⟨h1, h2⟩ := pair_lit w [G1, G2] [G0, G3] 2 2 rfl rfl (by decide) (by decide) (fun e he => size12 e (by simp only [List.mem_cons, List.not_mem_nil, or_false] at he ⊢; rcases he with h | h <;> simp [h])) (fun e he => size12 e (by simp only [List.mem_cons, List.not_mem_nil, or_false] at he ⊢; rcases he with h | h <;> simp [h]))
  have hb : Below w.heap.size w ((w.alloc (.cells #[.string ⟨#[97]⟩, .int .u64 5, .bool false, .string ⟨#[120]⟩, .string ⟨#[97]⟩, .int .u64 2, .bool false, .string ⟨#[121]⟩] 31)).alloc (.cells #[.string ⟨#[97]⟩, .int .u64 9, .bool true, .string ⟨#[]⟩, .string ⟨#[98]⟩, .int .u64 7, .bool true, .string ⟨#[]⟩] 31)).drew := ((((Below.refl _ _).alloc (Nat.le_refl _) _).alloc (by simp) _)).drew
  have hz : ((w.alloc (.cells #[.string ⟨#[97]⟩, .int .u64 5, .bool false, .string ⟨#[120]⟩, .string ⟨#[97]⟩, .int .u64 2, .bool false, .string ⟨#[121]⟩] 31)).alloc (.cells #[.string ⟨#[97]⟩, .int .u64 9, .bool true, .string ⟨#[]⟩, .string ⟨#[98]⟩, .int .u64 7, .bool true, .string ⟨#[]⟩] 31)).drew.heap.size = w.heap.size + 1 + 1 := by show ((w.alloc _).alloc _).heap.size = _; simp
  have h3 : EL ((w.alloc (.cells #[.string ⟨#[97]⟩, .int .u64 5, .bool false, .string ⟨#[120]⟩, .string ⟨#[97]⟩, .int .u64 2, .bool false, .string ⟨#[121]⟩] 31)).alloc (.cells #[.string ⟨#[97]⟩, .int .u64 9, .bool true, .string ⟨#[]⟩, .string ⟨#[98]⟩, .int .u64 7, .bool true, .string ⟨#[]⟩] 31)).drew (w.heap.size + 1 + 1) (some ⟨w.heap.size, 0, none⟩) 2 2 [G1, G2] := h1
  have h4 : EL ((w.alloc (.cells #[.string ⟨#[97]⟩, .int .u64 5, .bool false, .string ⟨#[120]⟩, .string ⟨#[97]⟩, .int .u64 2, .bool false, .string ⟨#[121]⟩] 31)).alloc (.cells #[.string ⟨#[97]⟩, .int .u64 9, .bool true, .string ⟨#[]⟩, .string ⟨#[98]⟩, .int .u64 7, .bool true, .string ⟨#[]⟩] 31)).drew (w.heap.size + 1 + 1) (some ⟨w.heap.size + 1, 0, none⟩) 2 2 [G0, G3] := h2
  have q := mrg12 (b1 := w.heap.size + 1) (b2 := w.heap.size) (by rw [hz]; exact h4) (by rw [hz]; exact h3)
  rw [hz] at q
  exact Calls.mono q fun e w' ⟨a, r⟩ => ⟨hb.trans (a.mono hb.size), r⟩

/-- one mark in two lists -/
theorem dup12 (w7 w9 : World) (hb : Below (w7.alloc (.cells #[.string ⟨#[97]⟩, .int .u64 1, .bool false, .string ⟨#[120]⟩] 31)).heap.size (w7.alloc (.cells #[.string ⟨#[97]⟩, .int .u64 1, .bool false, .string ⟨#[120]⟩] 31)) w9) :
    Calls Try.prog 9 #[.slice (some ⟨w9.heap.size + 1, 0, none⟩) 2 2] ((w9.alloc (.cells #[.string ⟨#[97]⟩, .int .u64 1, .bool false, .string ⟨#[121]⟩] 31)).alloc (.cells #[.slice (some ⟨w7.heap.size, 0, none⟩) 1 1, .slice (some ⟨w9.heap.size, 0, none⟩) 1 1] 22)) fun e w' => e = .returned (.tuple #[.slice none 0 0, .int .i64 1]) ∧ Below w9.heap.size w9 w' := by
  have a : EL (w7.alloc (.cells #[.string ⟨#[97]⟩, .int .u64 1, .bool false, .string ⟨#[120]⟩] 31)) (w7.heap.size + 1) (some ⟨w7.heap.size, 0, none⟩) 1 1 [GX] := lit_EL w7 [GX] 1 rfl (by decide) (fun e he => size12 e (by simp only [List.mem_cons, List.not_mem_nil, or_false] at he ⊢; simp [he]))
  have b : EL (w9.alloc (.cells #[.string ⟨#[97]⟩, .int .u64 1, .bool false, .string ⟨#[121]⟩] 31)) (w9.heap.size + 1) (some ⟨w9.heap.size, 0, none⟩) 1 1 [GY] := lit_EL w9 [GY] 1 rfl (by decide) (fun e he => size12 e (by simp only [List.mem_cons, List.not_mem_nil, or_false] at he ⊢; simp [he]))
  have hz : (w9.alloc (.cells #[.string ⟨#[97]⟩, .int .u64 1, .bool false, .string ⟨#[121]⟩] 31)).heap.size = w9.heap.size + 1 := by simp
  have hb9 := al_belowM w9 (.cells #[.string ⟨#[97]⟩, .int .u64 1, .bool false, .string ⟨#[121]⟩] 31)
  have a2 := (a.below hb).below hb9
  have hsz := hb.size
  have hs7 : (w7.alloc (.cells #[.string ⟨#[97]⟩, .int .u64 1, .bool false, .string ⟨#[120]⟩] 31)).heap.size = w7.heap.size + 1 := by simp
  have a3 : EL (w9.alloc (.cells #[.string ⟨#[97]⟩, .int .u64 1, .bool false, .string ⟨#[121]⟩] 31)) (w9.alloc (.cells #[.string ⟨#[97]⟩, .int .u64 1, .bool false, .string ⟨#[121]⟩] 31)).heap.size (some ⟨w7.heap.size, 0, none⟩) 1 1 [GX] := ⟨a2.lies.more (by omega), Nat.le_refl _, a2.nc, a2.cc, a2.sz⟩
  have b3 : EL (w9.alloc (.cells #[.string ⟨#[97]⟩, .int .u64 1, .bool false, .string ⟨#[121]⟩] 31)) (w9.alloc (.cells #[.string ⟨#[97]⟩, .int .u64 1, .bool false, .string ⟨#[121]⟩] 31)).heap.size (some ⟨w9.heap.size, 0, none⟩) 1 1 [GY] := by rw [hz]; exact b
  have q := two_lit a3 b3 (by decide)
  rw [hz] at q
  refine q.mono ?_
  rintro e w' ⟨hb2, out, ho, h⟩
  rcases h with ⟨hr, _⟩ | ⟨_, rfl⟩
  · exact absurd hr (two12 ho)
  · exact ⟨rfl, hb9.trans (hb2.mono (by omega))⟩
/-- what is seen of the four -/
theorem see12 {w : World} {B : Nat} {A : Option Addr} (s k : Nat) (rows : List Rw) (h : rowsV s S12 = rows) (hk : rows.length = k) (hE : EL w B A 4 4 S12) :
    Calls Try.prog 11 #[.slice A 4 4, .int .u64 (s : Int)] w fun e w' => ∃ A' c', e = .returned (.tuple #[.slice A' k c', .int .i64 0]) ∧ Lies w' w'.heap.size 2 A' k (rcs rows) ∧ Below w.heap.size w w' := by
  refine (see_any B 4 4 A S12 s w hE (by omega)).mono ?_
  rintro e w' ⟨hb, h2⟩
  rcases h2 with ⟨_, v, rfl, ho⟩ | ⟨hno, _⟩
  · rw [h, hk] at ho
    obtain ⟨A', c', rfl, _⟩ := own_shape ho
    exact ⟨A', c', rfl, Lies.of_own ho, hb⟩
  · exact absurd rise12 hno
theorem see12_no (w : World) : Calls Try.prog 11 #[.slice (some ⟨w.heap.size, 0, none⟩) 2 2, .int .u64 5] (w.alloc (.cells #[.string ⟨#[98]⟩, .int .u64 1, .bool false, .string ⟨#[120]⟩, .string ⟨#[97]⟩, .int .u64 1, .bool false, .string ⟨#[120]⟩] 31)) fun e w' => e = .returned (.tuple #[.slice none 0 0, .int .i64 1]) ∧ Below w.heap.size w w' := by
  have a : EL (w.alloc (.cells #[.string ⟨#[98]⟩, .int .u64 1, .bool false, .string ⟨#[120]⟩, .string ⟨#[97]⟩, .int .u64 1, .bool false, .string ⟨#[120]⟩] 31)) (w.heap.size + 1) (some ⟨w.heap.size, 0, none⟩) 2 2 [GB, GX] := lit_EL w [GB, GX] 2 rfl (by decide) (fun e he => size12 e (by simp only [List.mem_cons, List.not_mem_nil, or_false] at he ⊢; rcases he with h | h <;> simp [h]))
  have hb0 := al_belowM w (.cells #[.string ⟨#[98]⟩, .int .u64 1, .bool false, .string ⟨#[120]⟩, .string ⟨#[97]⟩, .int .u64 1, .bool false, .string ⟨#[120]⟩] 31)
  refine (see_any (w.heap.size + 1) 2 2 _ [GB, GX] 5 _ a (by omega)).mono ?_
  rintro e w' ⟨hb, h2⟩
  rcases h2 with ⟨hr, _⟩ | ⟨_, rfl⟩
  · exact absurd hr fall12
  · exact ⟨rfl, hb0.trans (hb.mono hb0.size)⟩
/-- what is left of the four -/
theorem thin12 {w : World} {B m c2 k : Nat} {A A2 : Option Addr} (looks : List Nat) (last : Bool) (T : List En) (h : thinF (looks ++ [MX]) last S12 = T) (hk : T.length = k) (hE : EL w B A 4 4 S12) (hL : Lies w w.heap.size 1 A2 m (looks.map uv)) (hm : m ≤ 12) (hlk : ∀ k ∈ looks, k ≤ MX) :
    Calls Try.prog 14 #[.slice A 4 4, .bool last, .slice A2 m c2] w fun e w' => ∃ A' c', e = .returned (.slice A' k c') ∧ Lies w' w'.heap.size 4 A' k (ecs T) ∧ Below w.heap.size w w' := by
  refine (left12_any B 4 4 m c2 A A2 S12 looks last w hE (by omega) small12 hL hm hlk rise12).mono ?_
  rintro e w' ⟨A', c', rfl, ho, hb⟩
  rw [h, hk] at ho
  exact ⟨A', c', by rw [h, hk], Lies.of_own ho, hb⟩
/-- a row that is made now, and one like it -/
theorem rowlit12 {w : World} {A : Option Addr} {c : Nat} (k v : ByteArray) (h : Lies w w.heap.size 2 A 1 (rcs [(k, v)])) :
    Calls Try.prog 12 #[.slice A 1 c, .slice (some ⟨w.heap.size, 0, none⟩) 1 1] (w.alloc (.cells #[.string k, .string v] 41)) fun e w' => e = .returned (.bool true) ∧ Below w.heap.size w w' := by
  have hb := al_belowM w (.cells #[.string k, .string v] 41)
  have hh : (w.alloc (.cells #[.string k, .string v] 41)).heap[w.heap.size]? = some (.cells #[.string k, .string v] 41 (0, 0)) := heap_alloc_new w _
  have hl : Lies (w.alloc (.cells #[.string k, .string v] 41)) (w.alloc (.cells #[.string k, .string v] 41)).heap.size 2 (some ⟨w.heap.size, 0, none⟩) 1 (rcs [(k, v)]) := by
    refine ⟨rfl, fun j hj => ?_⟩
    have hj2 : j < 2 := hj
    refine ⟨_, _, rfl, by simp, List.getElem?_eq_getElem hj2, ?_⟩
    rw [add_lit, Nat.zero_add, cell_of_row _ _ j _ _ (0, 0) hh, List.getElem?_toArray]
    exact List.getElem?_eq_getElem hj2
  exact (sameRw_yes ((h.below hb).more hb.size) hl (by omega)).mono fun e w' ⟨he, hb2⟩ => ⟨he, hb.trans (hb2.mono hb.size)⟩
end Go.Proofs.Ytoljldokehfokaa

namespace Go.Proofs.Ytoljldokehfokaa
open Go.RowKit
set_option linter.unusedVariables false
set_option maxRecDepth 100000

theorem p12_el {g B : Nat} {W : World} (h : EL W B (some ⟨g, 0, none⟩) 4 4 S12) : P12 g W := by
  have hc : ∀ (j : Nat) (v : Value), (ecs S12)[j]? = some v → W.cell? ⟨g, j, none⟩ = some v := fun j v hv => by
    obtain ⟨ad, u, e, _, hx, hcc⟩ := h.lies.spot j (List.getElem?_eq_some_iff.1 hv).1
    injection e with e
    subst e
    rw [hv] at hx
    injection hx with hx
    subst hx
    rw [add_lit, Nat.zero_add] at hcc
    exact hcc
  exact ⟨hc 0 _ rfl, hc 1 _ rfl, hc 2 _ rfl, hc 3 _ rfl, hc 4 _ rfl, hc 5 _ rfl, hc 6 _ rfl, hc 7 _ rfl, hc 8 _ rfl, hc 9 _ rfl, hc 10 _ rfl, hc 11 _ rfl, hc 12 _ rfl, hc 13 _ rfl, hc 14 _ rfl, hc 15 _ rfl⟩
theorem la12 {W : World} {B g : Nat} (hE : EL W B (some ⟨g, 0, none⟩) 4 4 S12) : Calls Try.prog 14 #[.slice (some ⟨g, 0, none⟩) 4 4, .bool false, .slice none 0 0] W fun e w' => ∃ A' c', e = .returned (.slice A' 2 c') ∧ Lies w' w'.heap.size 4 A' 2 (ecs [G0, G3]) ∧ Below W.heap.size W w' :=
  thin12 [] false [G0, G3] thin12_0 rfl hE (Lies.none_ _ _ _ _) (by omega) (fun k hk => by cases hk)
theorem lb12 {W : World} {B g : Nat} (hE : EL W B (some ⟨g, 0, none⟩) 4 4 S12) : Calls Try.prog 14 #[.slice (some ⟨g, 0, none⟩) 4 4, .bool true, .slice none 0 0] W fun e w' => ∃ A' c', e = .returned (.slice A' 0 c') ∧ Lies w' w'.heap.size 4 A' 0 (ecs []) ∧ Below W.heap.size W w' :=
  thin12 [] true [] thin12_1 rfl hE (Lies.none_ _ _ _ _) (by omega) (fun k hk => by cases hk)
theorem lc12 {W : World} {B g : Nat} (hE : EL W B (some ⟨g, 0, none⟩) 4 4 S12) : Calls Try.prog 14 #[.slice (some ⟨g, 0, none⟩) 4 4, .bool true, .slice (some ⟨W.heap.size, 0, none⟩) 1 1] (W.alloc (.cells #[.int .u64 6] 27)) fun e w' => ∃ A' c', e = .returned (.slice A' 2 c') ∧ Lies w' w'.heap.size 4 A' 2 (ecs [G0, G1]) ∧ Below W.heap.size W w' := by
  have hb := al_belowM W (.cells #[.int .u64 6] 27)
  have hl : Lies (W.alloc (.cells #[.int .u64 6] 27)) (W.alloc (.cells #[.int .u64 6] 27)).heap.size 1 (some ⟨W.heap.size, 0, none⟩) 1 (([6] : List Nat).map uv) := by
    have h := lits_lie (w := W) rfl [uv 6] 27
    exact h.more (by simp)
  exact (thin12 [6] true [G0, G1] thin12_6 rfl (hE.below hb) hl (by omega) (fun k hk => by obtain rfl := List.mem_singleton.1 hk; decide)).mono fun e w' ⟨A', c', h1, h2, h3⟩ => ⟨A', c', h1, h2, hb.trans (h3.mono hb.size)⟩
theorem ld12 {W : World} {B g : Nat} {A2 : Option Addr} (hE : EL W B (some ⟨g, 0, none⟩) 4 4 S12) (hU : Lies W W.heap.size 1 A2 2 (([3, 1] : List Nat).map uv)) : Calls Try.prog 14 #[.slice (some ⟨g, 0, none⟩) 4 4, .bool false, .slice A2 2 2] W fun e w' => ∃ A' c', e = .returned (.slice A' 3 c') ∧ Lies w' w'.heap.size 4 A' 3 (ecs [G0, G2, G3]) ∧ Below W.heap.size W w' :=
  thin12 [3, 1] false [G0, G2, G3] thin12_3 rfl hE hU (by omega) (fun k hk => by simp at hk; rcases hk with rfl | rfl <;> decide)
theorem u31_lie (W : World) : Lies (W.alloc (.cells #[.int .u64 3, .int .u64 1] 27)) (W.heap.size + 1) 1 (some ⟨W.heap.size, 0, none⟩) 2 (([3, 1] : List Nat).map uv) := lits_lie (w := W) rfl [uv 3, uv 1] 27
theorem alw12 (W : World) (o : Obj) : W.heap.size + 1 ≤ (W.alloc o).drew.heap.size := by
  show W.heap.size + 1 ≤ (W.alloc o).heap.size
  simp
theorem u31_lie2 (W : World) (o : Obj) : Lies ((W.alloc o).alloc (.cells #[.int .u64 3, .int .u64 1] 27)) (W.heap.size + 2) 1 (some ⟨W.heap.size + 1, 0, none⟩) 2 (([3, 1] : List Nat).map uv) := by
  have h := u31_lie (W.alloc o)
  have e : (W.alloc o).heap.size = W.heap.size + 1 := by simp
  rw [e] at h
  exact h
theorem e03_lie (W : World) : Lies (W.alloc (.cells #[.string ⟨#[97]⟩, .int .u64 9, .bool true, .string ⟨#[]⟩, .string ⟨#[98]⟩, .int .u64 7, .bool true, .string ⟨#[]⟩] 31)) (W.heap.size + 1) 4 (some ⟨W.heap.size, 0, none⟩) 2 (ecs [G0, G3]) := lits_lieE rfl [G0, G3]
theorem e023_lie (W : World) : Lies (W.alloc (.cells #[.string ⟨#[97]⟩, .int .u64 9, .bool true, .string ⟨#[]⟩, .string ⟨#[97]⟩, .int .u64 2, .bool false, .string ⟨#[121]⟩, .string ⟨#[98]⟩, .int .u64 7, .bool true, .string ⟨#[]⟩] 31)) (W.heap.size + 1) 4 (some ⟨W.heap.size, 0, none⟩) 3 (ecs [G0, G2, G3]) := lits_lieE rfl [G0, G2, G3]
theorem same03 {w : World} {A : Option Addr} {c : Nat} (h : Lies w w.heap.size 4 A 2 (ecs [G0, G3])) : Calls Try.prog 10 #[.slice A 2 c, .slice (some ⟨w.heap.size, 0, none⟩) 2 2] (w.alloc (.cells #[.string ⟨#[97]⟩, .int .u64 9, .bool true, .string ⟨#[]⟩, .string ⟨#[98]⟩, .int .u64 7, .bool true, .string ⟨#[]⟩] 31)) fun e w' => e = .returned (.bool true) ∧ Below w.heap.size w w' := by
  have hb := al_belowM w (.cells #[.string ⟨#[97]⟩, .int .u64 9, .bool true, .string ⟨#[]⟩, .string ⟨#[98]⟩, .int .u64 7, .bool true, .string ⟨#[]⟩] 31)
  exact (sameE_yes ((h.below hb).more hb.size) ((e03_lie w).more (by simp)) (by omega)).mono fun e w' ⟨h1, h2⟩ => ⟨h1, hb.trans (h2.mono hb.size)⟩
theorem same023 {w : World} {A : Option Addr} {c : Nat} (h : Lies w w.heap.size 4 A 3 (ecs [G0, G2, G3])) : Calls Try.prog 10 #[.slice A 3 c, .slice (some ⟨w.heap.size, 0, none⟩) 3 3] (w.alloc (.cells #[.string ⟨#[97]⟩, .int .u64 9, .bool true, .string ⟨#[]⟩, .string ⟨#[97]⟩, .int .u64 2, .bool false, .string ⟨#[121]⟩, .string ⟨#[98]⟩, .int .u64 7, .bool true, .string ⟨#[]⟩] 31)) fun e w' => e = .returned (.bool true) ∧ Below w.heap.size w w' := by
  have hb := al_belowM w (.cells #[.string ⟨#[97]⟩, .int .u64 9, .bool true, .string ⟨#[]⟩, .string ⟨#[97]⟩, .int .u64 2, .bool false, .string ⟨#[121]⟩, .string ⟨#[98]⟩, .int .u64 7, .bool true, .string ⟨#[]⟩] 31)
  exact (sameE_yes ((h.below hb).more hb.size) ((e023_lie w).more (by simp)) (by omega)).mono fun e w' ⟨h1, h2⟩ => ⟨h1, hb.trans (h2.mono hb.size)⟩
theorem take12 {W : World} {B g : Nat} (hE : EL W B (some ⟨g, 0, none⟩) 4 4 S12) : Lies W W.heap.size 4 (some ⟨g, 0, none⟩) 2 (ecs [G0, G1]) := by
  have h := hE.lies.takeE (m := 2) (by omega)
  rw [ecs_take] at h
  exact h.more hE.B
end Go.Proofs.Ytoljldokehfokaa

