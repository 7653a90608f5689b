/-
  Contracts of package order: Cmp.
-/
import Derived.Test.YtiodiiedgmobjaaCmpA
import Derived.LoopTactic
namespace Go.Proofs.Ytiodiiedgmobjaa
open Go.RowKit
set_option linter.unusedVariables false

def cmpF1 (w : World) : Value := .func (.func 27) #[] #[.pointer (some ⟨w.heap.size, 0, none⟩), .pointer (some ⟨w.heap.size + 1, 0, none⟩)]
def cmpF2 (w : World) : Value := .func (.func 29) #[] #[.pointer (some ⟨w.heap.size + 1, 0, none⟩), .pointer (some ⟨w.heap.size, 0, none⟩)]
def cmpF3 (w : World) : Value := .func (.func 31) #[] #[.pointer (some ⟨w.heap.size, 0, none⟩), .pointer (some ⟨w.heap.size + 1, 0, none⟩)]
/-- the world ahead of Cmp's loop -/
def cmpW (a b : Mk) (w : World) : World :=
  ((w.alloc (.cells #[.string a.k, .int .u64 (a.s : Int), .bool a.g] 37)).alloc (.cells #[.string b.k, .int .u64 (b.s : Int), .bool b.g] 37)).alloc
    (.cells #[cmpF1 w, cmpF2 w, cmpF3 w] 58)
theorem cmpW_facts (a b : Mk) (w : World) : MkAt (cmpW a b w) w.heap.size a ∧ MkAt (cmpW a b w) (w.heap.size + 1) b ∧
    (cmpW a b w).cell? ⟨w.heap.size + 1 + 1, 0, none⟩ = some (cmpF1 w) ∧ (cmpW a b w).cell? ⟨w.heap.size + 1 + 1, 1, none⟩ = some (cmpF2 w) ∧ (cmpW a b w).cell? ⟨w.heap.size + 1 + 1, 2, none⟩ = some (cmpF3 w) ∧ Below w.heap.size w (cmpW a b w) := by
  unfold cmpW MkAt
  generalize ha : Obj.cells #[Value.string a.k, .int .u64 (a.s : Int), .bool a.g] 37 = oa
  generalize hb : Obj.cells #[Value.string b.k, .int .u64 (b.s : Int), .bool b.g] 37 = ob
  have s1 : (w.alloc oa).heap.size = w.heap.size + 1 := by simp
  have s2 : ((w.alloc oa).alloc ob).heap.size = w.heap.size + 1 + 1 := by simp
  have h1 : (w.alloc oa).heap[w.heap.size]? = some oa := heap_alloc_new w _
  have h2 : ((w.alloc oa).alloc ob).heap[w.heap.size + 1]? = some ob := by rw [← s1]; exact heap_alloc_new _ _
  have h3 : (((w.alloc oa).alloc ob).alloc (.cells #[cmpF1 w, cmpF2 w, cmpF3 w] 58)).heap[w.heap.size + 1 + 1]? = some (.cells #[cmpF1 w, cmpF2 w, cmpF3 w] 58 (0, 0)) := by rw [← s2]; exact heap_alloc_new _ _
  refine ⟨?_, ?_, cell_of_row _ _ 0 _ _ (0, 0) h3, cell_of_row _ _ 1 _ _ (0, 0) h3, cell_of_row _ _ 2 _ _ (0, 0) h3, ?_⟩
  · exact (Below.heap_alloc _ _ _ (by omega)).trans ((Below.heap_alloc _ _ _ (by omega)).trans h1)
  · exact (Below.heap_alloc _ _ _ (by omega)).trans h2
  · exact (((Below.refl _ _).alloc (Nat.le_refl _) oa).alloc (by omega) ob).alloc (by omega) _

def CmpAt (x y z : Int) (i : Value) : Prop := i = .int .i64 0 ∨ i = .int .i64 1 ∧ x = 0 ∨ i = .int .i64 2 ∧ x = 0 ∧ y = 0 ∨ i = .int .i64 3 ∧ x = 0 ∧ y = 0 ∧ z = 0
set_option maxHeartbeats 2000000 in
theorem cmp_any (a b : Mk) (w : World) :
    Calls Try.prog 17 #[a.v, b.v] w fun e w' => e = .returned (.int .i64 (cmpM a b)) ∧ Below w.heap.size w w' := by
  rw [cmpM_eq]
  unfold Mk.v
  obtain ⟨m1, m2, c1, c2, c3, hB⟩ := cmpW_facts a b w
  obtain ⟨x, hx⟩ : ∃ x, cmpS a.k b.k = x := ⟨_, rfl⟩
  obtain ⟨y, hy⟩ : ∃ y, cmpN b.s a.s = y := ⟨_, rfl⟩
  obtain ⟨z, hz⟩ : ∃ z, cmpG a.g b.g = z := ⟨_, rfl⟩
  have K1 := cmp1_any a b _ _ _ m1 m2
  have K2 := cmp2_any b a _ _ _ m2 m1
  have K3 := cmp3_any a b _ _ _ m1 m2
  rw [hx] at K1 ⊢; rw [hy] at K2 ⊢; rw [hz] at K3 ⊢
  have H1 := Lib.hid K1; have H2 := Lib.hid K2; have H3 := Lib.hid K3
  have HB := Lib.hid hB
  clear hx hy hz K1 K2 K3 m1 m2 hB
  unfold cmpF1 at c1; unfold cmpF2 at c2; unfold cmpF3 at c3
  go_enter Try.func17, Try.ntmps17
  go_wp2_with fail
  change Code.wp _ _ _ _ (cmpW a b w)
  generalize cmpW a b w = W at *
  generalize hS : w.heap.size = g at *
  have HS := Lib.hid hS; clear hS
  go_loop [15] (fun i => CmpAt x y z i) (fun i => 3 - (intOf i).toNat)
  case atStart => exact .inl rfl
  case round =>
    rcases hrel with rfl | ⟨rfl, rfl⟩ | ⟨rfl, rfl, rfl⟩ | ⟨rfl, rfl, rfl, rfl⟩
    · by_cases h0 : x = 0
      · subst h0
        go_wp2_with (go_at_call 27; refine H1.out.mono ?_; rintro e w' ⟨rfl, rfl⟩)
        go_round
        case rel => exact .inr (.inl ⟨rfl, rfl⟩)
        case measure => decide
      · have hb0 : (x != 0) = true := by simp [h0]
        go_wp2_with (go_at_call 27; refine H1.out.mono ?_; rintro e w' ⟨rfl, rfl⟩)
        go_ret
        exact ⟨by simp, by rw [HS.out]; exact HB.out⟩
    · by_cases h0 : y = 0
      · subst h0
        go_wp2_with (go_at_call 29; refine H2.out.mono ?_; rintro e w' ⟨rfl, rfl⟩)
        go_round
        case rel => exact .inr (.inr (.inl ⟨rfl, rfl, rfl⟩))
        case measure => decide
      · have hb0 : (y != 0) = true := by simp [h0]
        go_wp2_with (go_at_call 29; refine H2.out.mono ?_; rintro e w' ⟨rfl, rfl⟩)
        go_ret
        exact ⟨by simp, by rw [HS.out]; exact HB.out⟩
    · by_cases h0 : z = 0
      · subst h0
        go_wp2_with (go_at_call 31; refine H3.out.mono ?_; rintro e w' ⟨rfl, rfl⟩)
        go_round
        case rel => exact .inr (.inr (.inr ⟨rfl, rfl, rfl, rfl⟩))
        case measure => decide
      · have hb0 : (z != 0) = true := by simp [h0]
        go_wp2_with (go_at_call 31; refine H3.out.mono ?_; rintro e w' ⟨rfl, rfl⟩)
        go_ret
        exact ⟨by simp, by rw [HS.out]; exact HB.out⟩
    · go_wp2
      go_ret
      exact ⟨rfl, by rw [HS.out]; exact HB.out⟩
end Go.Proofs.Ytiodiiedgmobjaa
