/-
  Contracts of package order: Check, Cmp.
  Contracts of package order: Cmp.
-/
import Derived.Test.YtbbimfbkllellaaGreatDoorMemM
import Derived.Test.YtbbimfbkllellaaGreatDoorTxt
import Derived.LoopTactic
namespace Go.Proofs.YtbbimfbkllellaaGreatDoor
open Go.RowKit
set_option linter.unusedVariables false

/-- may a key be? -/
def chk (s : ByteArray) : Bool := decide (1 ≤ s.size ∧ s.size ≤ 32)
theorem chk_any (s : ByteArray) (w : World) (hs : s.size ≤ 9223372036854775807) :
    Calls Tryz.prog 115 #[.string s] w fun e w' => e = .returned (.bool (chk s)) ∧ w = w' := by
  unfold chk
  by_cases h1 : 1 ≤ s.size
  · have hd1 : decide (1 ≤ (s.size : Int)) = true := by simp; omega
    by_cases h2 : s.size ≤ 32
    · have hd : decide ((s.size : Int) ≤ 32) = true := by simp; omega
      rw [decide_eq_true (⟨h1, h2⟩ : 1 ≤ s.size ∧ s.size ≤ 32)]
      go_enter Tryz.func115, Tryz.ntmps115
      go_wp2
      go_ret
      exact ⟨rfl, rfl⟩
    · have hd : decide ((s.size : Int) ≤ 32) = false := by simp; omega
      rw [decide_eq_false (fun h => h2 h.2 : ¬ (1 ≤ s.size ∧ s.size ≤ 32))]
      go_enter Tryz.func115, Tryz.ntmps115
      go_wp2
      go_ret
      exact ⟨rfl, rfl⟩
  · have hd1 : decide (1 ≤ (s.size : Int)) = false := by simp; omega
    rw [decide_eq_false (fun h => h1 h.1 : ¬ (1 ≤ s.size ∧ s.size ≤ 32))]
    go_enter Tryz.func115, Tryz.ntmps115
    go_wp2
    go_ret
    exact ⟨rfl, rfl⟩

theorem nanS (x : ByteArray) (w : World) : Calls Tryz.prog 120 #[.string x] w fun e w' => e = .returned (.bool false) ∧ w = w' := by
  go_enter Tryz.func120, Tryz.ntmps120
  go_wp2
  go_ret
  exact ⟨by simp, rfl⟩
theorem nanN (x : Nat) (w : World) : Calls Tryz.prog 121 #[.int .u64 (x : Int)] w fun e w' => e = .returned (.bool false) ∧ w = w' := by
  go_enter Tryz.func121, Tryz.ntmps121
  go_wp2
  go_ret
  exact ⟨by simp, rfl⟩
theorem cmpS_any (a b : ByteArray) (w : World) : Calls Tryz.prog 75 #[.string a, .string b] w fun e w' => e = .returned (.int .i64 (cmpS a b)) ∧ w = w' := by
  have h1 : Op.bytesLess a.toList b.toList = lessB a b := rfl
  have h2 := lessB_gt a b
  unfold cmpS
  cases e1 : lessB a b
  · cases e2 : lessB b a
    · have he : (a.toList == b.toList) = true := by rw [txt_eqB, lessB_total e1 e2]; simp
      rw [e1] at h1
      clear h2 e1 e2
      rw [if_neg (by decide), if_neg (by decide)]
      go_enter Tryz.func75, Tryz.ntmps75
      go_wp2_with (go_at_call 120; refine (nanS _ _).mono ?_; rintro e w' ⟨rfl, rfl⟩)
      go_ret
      exact ⟨rfl, rfl⟩
    · have he : (a.toList == b.toList) = false := by
        rw [txt_eqB]
        exact decide_eq_false (fun h => by subst h; rw [e1] at e2; cases e2)
      rw [e1] at h1
      clear h2 e1 e2
      rw [if_neg (by decide), if_pos rfl]
      go_enter Tryz.func75, Tryz.ntmps75
      go_wp2_with (go_at_call 120; refine (nanS _ _).mono ?_; rintro e w' ⟨rfl, rfl⟩)
      go_ret
      exact ⟨rfl, rfl⟩
  · rw [e1] at h1
    clear h2 e1
    rw [if_pos rfl]
    go_enter Tryz.func75, Tryz.ntmps75
    go_wp2_with (go_at_call 120; refine (nanS _ _).mono ?_; rintro e w' ⟨rfl, rfl⟩)
    go_ret
    exact ⟨rfl, rfl⟩
theorem cmpN_any (a b : Nat) (w : World) : Calls Tryz.prog 77 #[.int .u64 (a : Int), .int .u64 (b : Int)] w fun e w' => e = .returned (.int .i64 (cmpN a b)) ∧ w = w' := by
  go_enter Tryz.func77, Tryz.ntmps77
  go_wp2_with (go_at_call 121; refine (nanN _ _).mono ?_; rintro e w' ⟨rfl, rfl⟩)
  all_goals (go_ret; refine ⟨?_, rfl⟩; unfold cmpN; (repeat' split) <;> first | rfl | (exfalso; omega))
theorem cmpG_any (a b : Bool) (w : World) : Calls Tryz.prog 79 #[.bool a, .bool b] w fun e w' => e = .returned (.int .i64 (cmpG a b)) ∧ w = w' := by
  cases a <;> cases b <;>
    (go_enter Tryz.func79, Tryz.ntmps79
     go_wp2
     go_ret
     exact ⟨rfl, rfl⟩)

/-- a mark that lies in a block of its own -/
def MkAt (w : World) (g : Nat) (m : Mk) : Prop := w.heap[g]? = some (.cells #[.string m.k, .int .u64 (m.s : Int), .bool m.g] 25 (0, 0))
theorem MkAt.cell {w : World} {g : Nat} {m : Mk} (h : MkAt w g m) : w.cell? ⟨g, 0, none⟩ = some (.string m.k) ∧ w.cell? ⟨g, 1, none⟩ = some (.int .u64 (m.s : Int)) ∧ w.cell? ⟨g, 2, none⟩ = some (.bool m.g) :=
  ⟨cell_of_row w g 0 _ _ (0, 0) h, cell_of_row w g 1 _ _ (0, 0) h, cell_of_row w g 2 _ _ (0, 0) h⟩
theorem cmp1_any (a b : Mk) (g h : Nat) (w : World) (ha : MkAt w g a) (hb : MkAt w h b) :
    Calls Tryz.prog 74 #[.pointer (some ⟨g, 0, none⟩), .pointer (some ⟨h, 0, none⟩)] w fun e w' => e = .returned (.int .i64 (cmpS a.k b.k)) ∧ w = w' := by
  obtain ⟨a1, a2, a3⟩ := ha.cell
  obtain ⟨b1, b2, b3⟩ := hb.cell
  go_enter Tryz.func74, Tryz.ntmps74
  go_wp2_with (go_at_call 75; refine (cmpS_any _ _ _).mono ?_; rintro e w' ⟨rfl, rfl⟩)
  go_ret
  exact ⟨rfl, rfl⟩
theorem cmp2_any (a b : Mk) (g h : Nat) (w : World) (ha : MkAt w g a) (hb : MkAt w h b) :
    Calls Tryz.prog 76 #[.pointer (some ⟨g, 0, none⟩), .pointer (some ⟨h, 0, none⟩)] w fun e w' => e = .returned (.int .i64 (cmpN a.s b.s)) ∧ w = w' := by
  obtain ⟨a1, a2, a3⟩ := ha.cell
  obtain ⟨b1, b2, b3⟩ := hb.cell
  go_enter Tryz.func76, Tryz.ntmps76
  go_wp2_with (go_at_call 77; refine (cmpN_any _ _ _).mono ?_; rintro e w' ⟨rfl, rfl⟩)
  go_ret
  exact ⟨rfl, rfl⟩
theorem cmp3_any (a b : Mk) (g h : Nat) (w : World) (ha : MkAt w g a) (hb : MkAt w h b) :
    Calls Tryz.prog 78 #[.pointer (some ⟨g, 0, none⟩), .pointer (some ⟨h, 0, none⟩)] w fun e w' => e = .returned (.int .i64 (cmpG a.g b.g)) ∧ w = w' := by
  obtain ⟨a1, a2, a3⟩ := ha.cell
  obtain ⟨b1, b2, b3⟩ := hb.cell
  go_enter Tryz.func78, Tryz.ntmps78
  go_wp2_with (go_at_call 79; refine (cmpG_any _ _ _).mono ?_; rintro e w' ⟨rfl, rfl⟩)
  go_ret
  exact ⟨rfl, rfl⟩
end Go.Proofs.YtbbimfbkllellaaGreatDoor

namespace Go.Proofs.YtbbimfbkllellaaGreatDoor
open Go.RowKit
set_option linter.unusedVariables false

def cmpF1 (w : World) : Value := .func (.func 74) #[] #[.pointer (some ⟨w.heap.size, 0, none⟩), .pointer (some ⟨w.heap.size + 1, 0, none⟩)]
def cmpF2 (w : World) : Value := .func (.func 76) #[] #[.pointer (some ⟨w.heap.size + 1, 0, none⟩), .pointer (some ⟨w.heap.size, 0, none⟩)]
def cmpF3 (w : World) : Value := .func (.func 78) #[] #[.pointer (some ⟨w.heap.size, 0, none⟩), .pointer (some ⟨w.heap.size + 1, 0, none⟩)]
/-- the world ahead of Cmp's loop -/
def cmpW (a b : Mk) (w : World) : World :=
  ((w.alloc (.cells #[.string a.k, .int .u64 (a.s : Int), .bool a.g] 25)).alloc (.cells #[.string b.k, .int .u64 (b.s : Int), .bool b.g] 25)).alloc
    (.cells #[cmpF1 w, cmpF2 w, cmpF3 w] 81)
theorem cmpW_facts (a b : Mk) (w : World) : MkAt (cmpW a b w) w.heap.size a ∧ MkAt (cmpW a b w) (w.heap.size + 1) b ∧
    (cmpW a b w).cell? ⟨w.heap.size + 1 + 1, 0, none⟩ = some (cmpF1 w) ∧ (cmpW a b w).cell? ⟨w.heap.size + 1 + 1, 1, none⟩ = some (cmpF2 w) ∧ (cmpW a b w).cell? ⟨w.heap.size + 1 + 1, 2, none⟩ = some (cmpF3 w) ∧ Below w.heap.size w (cmpW a b w) := by
  unfold cmpW MkAt
  generalize ha : Obj.cells #[Value.string a.k, .int .u64 (a.s : Int), .bool a.g] 25 = oa
  generalize hb : Obj.cells #[Value.string b.k, .int .u64 (b.s : Int), .bool b.g] 25 = ob
  have s1 : (w.alloc oa).heap.size = w.heap.size + 1 := by simp
  have s2 : ((w.alloc oa).alloc ob).heap.size = w.heap.size + 1 + 1 := by simp
  have h1 : (w.alloc oa).heap[w.heap.size]? = some oa := heap_alloc_new w _
  have h2 : ((w.alloc oa).alloc ob).heap[w.heap.size + 1]? = some ob := by rw [← s1]; exact heap_alloc_new _ _
  have h3 : (((w.alloc oa).alloc ob).alloc (.cells #[cmpF1 w, cmpF2 w, cmpF3 w] 81)).heap[w.heap.size + 1 + 1]? = some (.cells #[cmpF1 w, cmpF2 w, cmpF3 w] 81 (0, 0)) := by rw [← s2]; exact heap_alloc_new _ _
  refine ⟨?_, ?_, cell_of_row _ _ 0 _ _ (0, 0) h3, cell_of_row _ _ 1 _ _ (0, 0) h3, cell_of_row _ _ 2 _ _ (0, 0) h3, ?_⟩
  · exact (Below.heap_alloc _ _ _ (by omega)).trans ((Below.heap_alloc _ _ _ (by omega)).trans h1)
  · exact (Below.heap_alloc _ _ _ (by omega)).trans h2
  · exact (((Below.refl _ _).alloc (Nat.le_refl _) oa).alloc (by omega) ob).alloc (by omega) _

def CmpAt (x y z : Int) (i : Value) : Prop := i = .int .i64 0 ∨ i = .int .i64 1 ∧ x = 0 ∨ i = .int .i64 2 ∧ x = 0 ∧ y = 0 ∨ i = .int .i64 3 ∧ x = 0 ∧ y = 0 ∧ z = 0
set_option maxHeartbeats 2000000 in
theorem cmp_any (a b : Mk) (w : World) :
    Calls Tryz.prog 20 #[a.v, b.v] w fun e w' => e = .returned (.int .i64 (cmpM a b)) ∧ Below w.heap.size w w' := by
  rw [cmpM_eq]
  unfold Mk.v
  obtain ⟨m1, m2, c1, c2, c3, hB⟩ := cmpW_facts a b w
  obtain ⟨x, hx⟩ : ∃ x, cmpS a.k b.k = x := ⟨_, rfl⟩
  obtain ⟨y, hy⟩ : ∃ y, cmpN b.s a.s = y := ⟨_, rfl⟩
  obtain ⟨z, hz⟩ : ∃ z, cmpG a.g b.g = z := ⟨_, rfl⟩
  have K1 := cmp1_any a b _ _ _ m1 m2
  have K2 := cmp2_any b a _ _ _ m2 m1
  have K3 := cmp3_any a b _ _ _ m1 m2
  rw [hx] at K1 ⊢; rw [hy] at K2 ⊢; rw [hz] at K3 ⊢
  have H1 := Lib.hid K1; have H2 := Lib.hid K2; have H3 := Lib.hid K3
  have HB := Lib.hid hB
  clear hx hy hz K1 K2 K3 m1 m2 hB
  unfold cmpF1 at c1; unfold cmpF2 at c2; unfold cmpF3 at c3
  go_enter Tryz.func20, Tryz.ntmps20
  go_wp2_with fail
  change Code.wp _ _ _ _ (cmpW a b w)
  generalize cmpW a b w = W at *
  generalize hS : w.heap.size = g at *
  have HS := Lib.hid hS; clear hS
  go_loop [15] (fun i => CmpAt x y z i) (fun i => 3 - (intOf i).toNat)
  case atStart => exact .inl rfl
  case round =>
    rcases hrel with rfl | ⟨rfl, rfl⟩ | ⟨rfl, rfl, rfl⟩ | ⟨rfl, rfl, rfl, rfl⟩
    · by_cases h0 : x = 0
      · subst h0
        go_wp2_with (go_at_call 74; refine H1.out.mono ?_; rintro e w' ⟨rfl, rfl⟩)
        go_round
        case rel => exact .inr (.inl ⟨rfl, rfl⟩)
        case measure => decide
      · have hb0 : (x != 0) = true := by simp [h0]
        go_wp2_with (go_at_call 74; refine H1.out.mono ?_; rintro e w' ⟨rfl, rfl⟩)
        go_ret
        exact ⟨by simp, by rw [HS.out]; exact HB.out⟩
    · by_cases h0 : y = 0
      · subst h0
        go_wp2_with (go_at_call 76; refine H2.out.mono ?_; rintro e w' ⟨rfl, rfl⟩)
        go_round
        case rel => exact .inr (.inr (.inl ⟨rfl, rfl, rfl⟩))
        case measure => decide
      · have hb0 : (y != 0) = true := by simp [h0]
        go_wp2_with (go_at_call 76; refine H2.out.mono ?_; rintro e w' ⟨rfl, rfl⟩)
        go_ret
        exact ⟨by simp, by rw [HS.out]; exact HB.out⟩
    · by_cases h0 : z = 0
      · subst h0
        go_wp2_with (go_at_call 78; refine H3.out.mono ?_; rintro e w' ⟨rfl, rfl⟩)
        go_round
        case rel => exact .inr (.inr (.inr ⟨rfl, rfl, rfl, rfl⟩))
        case measure => decide
      · have hb0 : (z != 0) = true := by simp [h0]
        go_wp2_with (go_at_call 78; refine H3.out.mono ?_; rintro e w' ⟨rfl, rfl⟩)
        go_ret
        exact ⟨by simp, by rw [HS.out]; exact HB.out⟩
    · go_wp2
      go_ret
      exact ⟨rfl, by rw [HS.out]; exact HB.out⟩
end Go.Proofs.YtbbimfbkllellaaGreatDoor

