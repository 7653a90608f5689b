/-
  Contracts of package order: Check, Cmp.
-/
import Derived.Test.YtiodiiedgmobjaaMem
import Derived.Test.YtiodiiedgmobjaaTxt
namespace Go.Proofs.Ytiodiiedgmobjaa
open Go.RowKit
set_option linter.unusedVariables false

/-- may a key be? -/
def chk (s : ByteArray) : Bool := decide (1 ≤ s.size ∧ s.size ≤ 32)
theorem chk_any (s : ByteArray) (w : World) (hs : s.size ≤ 9223372036854775807) :
    Calls Try.prog 22 #[.string s] w fun e w' => e = .returned (.bool (chk s)) ∧ w = w' := by
  unfold chk
  by_cases h1 : 1 ≤ s.size
  · have hd1 : decide (1 ≤ (s.size : Int)) = true := by simp; omega
    by_cases h2 : s.size ≤ 32
    · have hd : decide ((s.size : Int) ≤ 32) = true := by simp; omega
      rw [decide_eq_true (⟨h1, h2⟩ : 1 ≤ s.size ∧ s.size ≤ 32)]
      go_enter Try.func22, Try.ntmps22
      go_wp2
      go_ret
      exact ⟨rfl, rfl⟩
    · have hd : decide ((s.size : Int) ≤ 32) = false := by simp; omega
      rw [decide_eq_false (fun h => h2 h.2 : ¬ (1 ≤ s.size ∧ s.size ≤ 32))]
      go_enter Try.func22, Try.ntmps22
      go_wp2
      go_ret
      exact ⟨rfl, rfl⟩
  · have hd1 : decide (1 ≤ (s.size : Int)) = false := by simp; omega
    rw [decide_eq_false (fun h => h1 h.1 : ¬ (1 ≤ s.size ∧ s.size ≤ 32))]
    go_enter Try.func22, Try.ntmps22
    go_wp2
    go_ret
    exact ⟨rfl, rfl⟩

theorem nanS (x : ByteArray) (w : World) : Calls Try.prog 41 #[.string x] w fun e w' => e = .returned (.bool false) ∧ w = w' := by
  go_enter Try.func41, Try.ntmps41
  go_wp2
  go_ret
  exact ⟨by simp, rfl⟩
theorem nanN (x : Nat) (w : World) : Calls Try.prog 42 #[.int .u64 (x : Int)] w fun e w' => e = .returned (.bool false) ∧ w = w' := by
  go_enter Try.func42, Try.ntmps42
  go_wp2
  go_ret
  exact ⟨by simp, rfl⟩
theorem cmpS_any (a b : ByteArray) (w : World) : Calls Try.prog 28 #[.string a, .string b] w fun e w' => e = .returned (.int .i64 (cmpS a b)) ∧ w = w' := by
  have h1 : Op.bytesLess a.toList b.toList = lessB a b := rfl
  have h2 := lessB_gt a b
  unfold cmpS
  cases e1 : lessB a b
  · cases e2 : lessB b a
    · have he : (a.toList == b.toList) = true := by rw [txt_eqB, lessB_total e1 e2]; simp
      rw [e1] at h1
      clear h2 e1 e2
      rw [if_neg (by decide), if_neg (by decide)]
      go_enter Try.func28, Try.ntmps28
      go_wp2_with (go_at_call 41; refine (nanS _ _).mono ?_; rintro e w' ⟨rfl, rfl⟩)
      go_ret
      exact ⟨rfl, rfl⟩
    · have he : (a.toList == b.toList) = false := by
        rw [txt_eqB]
        exact decide_eq_false (fun h => by subst h; rw [e1] at e2; cases e2)
      rw [e1] at h1
      clear h2 e1 e2
      rw [if_neg (by decide), if_pos rfl]
      go_enter Try.func28, Try.ntmps28
      go_wp2_with (go_at_call 41; refine (nanS _ _).mono ?_; rintro e w' ⟨rfl, rfl⟩)
      go_ret
      exact ⟨rfl, rfl⟩
  · rw [e1] at h1
    clear h2 e1
    rw [if_pos rfl]
    go_enter Try.func28, Try.ntmps28
    go_wp2_with (go_at_call 41; refine (nanS _ _).mono ?_; rintro e w' ⟨rfl, rfl⟩)
    go_ret
    exact ⟨rfl, rfl⟩
theorem cmpN_any (a b : Nat) (w : World) : Calls Try.prog 30 #[.int .u64 (a : Int), .int .u64 (b : Int)] w fun e w' => e = .returned (.int .i64 (cmpN a b)) ∧ w = w' := by
  go_enter Try.func30, Try.ntmps30
  go_wp2_with (go_at_call 42; refine (nanN _ _).mono ?_; rintro e w' ⟨rfl, rfl⟩)
  all_goals (go_ret; refine ⟨?_, rfl⟩; unfold cmpN; (repeat' split) <;> first | rfl | (exfalso; omega))
theorem cmpG_any (a b : Bool) (w : World) : Calls Try.prog 32 #[.bool a, .bool b] w fun e w' => e = .returned (.int .i64 (cmpG a b)) ∧ w = w' := by
  cases a <;> cases b <;>
    (go_enter Try.func32, Try.ntmps32
     go_wp2
     go_ret
     exact ⟨rfl, rfl⟩)

/-- a mark that lies in a block of its own -/
def MkAt (w : World) (g : Nat) (m : Mk) : Prop := w.heap[g]? = some (.cells #[.string m.k, .int .u64 (m.s : Int), .bool m.g] 37 (0, 0))
theorem MkAt.cell {w : World} {g : Nat} {m : Mk} (h : MkAt w g m) : w.cell? ⟨g, 0, none⟩ = some (.string m.k) ∧ w.cell? ⟨g, 1, none⟩ = some (.int .u64 (m.s : Int)) ∧ w.cell? ⟨g, 2, none⟩ = some (.bool m.g) :=
  ⟨cell_of_row w g 0 _ _ (0, 0) h, cell_of_row w g 1 _ _ (0, 0) h, cell_of_row w g 2 _ _ (0, 0) h⟩
theorem cmp1_any (a b : Mk) (g h : Nat) (w : World) (ha : MkAt w g a) (hb : MkAt w h b) :
    Calls Try.prog 27 #[.pointer (some ⟨g, 0, none⟩), .pointer (some ⟨h, 0, none⟩)] w fun e w' => e = .returned (.int .i64 (cmpS a.k b.k)) ∧ w = w' := by
  obtain ⟨a1, a2, a3⟩ := ha.cell
  obtain ⟨b1, b2, b3⟩ := hb.cell
  go_enter Try.func27, Try.ntmps27
  go_wp2_with (go_at_call 28; refine (cmpS_any _ _ _).mono ?_; rintro e w' ⟨rfl, rfl⟩)
  go_ret
  exact ⟨rfl, rfl⟩
theorem cmp2_any (a b : Mk) (g h : Nat) (w : World) (ha : MkAt w g a) (hb : MkAt w h b) :
    Calls Try.prog 29 #[.pointer (some ⟨g, 0, none⟩), .pointer (some ⟨h, 0, none⟩)] w fun e w' => e = .returned (.int .i64 (cmpN a.s b.s)) ∧ w = w' := by
  obtain ⟨a1, a2, a3⟩ := ha.cell
  obtain ⟨b1, b2, b3⟩ := hb.cell
  go_enter Try.func29, Try.ntmps29
  go_wp2_with (go_at_call 30; refine (cmpN_any _ _ _).mono ?_; rintro e w' ⟨rfl, rfl⟩)
  go_ret
  exact ⟨rfl, rfl⟩
theorem cmp3_any (a b : Mk) (g h : Nat) (w : World) (ha : MkAt w g a) (hb : MkAt w h b) :
    Calls Try.prog 31 #[.pointer (some ⟨g, 0, none⟩), .pointer (some ⟨h, 0, none⟩)] w fun e w' => e = .returned (.int .i64 (cmpG a.g b.g)) ∧ w = w' := by
  obtain ⟨a1, a2, a3⟩ := ha.cell
  obtain ⟨b1, b2, b3⟩ := hb.cell
  go_enter Try.func31, Try.ntmps31
  go_wp2_with (go_at_call 32; refine (cmpG_any _ _ _).mono ?_; rintro e w' ⟨rfl, rfl⟩)
  go_ret
  exact ⟨rfl, rfl⟩
end Go.Proofs.Ytiodiiedgmobjaa
