/-
  Contracts of package order: Check, Cmp.
-/
import Derived.Test.YtopcnlophmplgaaMem
import Derived.Test.YtopcnlophmplgaaTxt
namespace Go.Proofs.Ytopcnlophmplgaa
open Go.RowKit
set_option linter.unusedVariables false

/-- may a key be? -/
def chk (s : ByteArray) : Bool := decide (1 ≤ s.size ∧ s.size ≤ 32)
theorem chk_any (s : ByteArray) (w : World) (hs : s.size ≤ 9223372036854775807) :
    Calls Try.prog 58 #[.string s] w fun e w' => e = .returned (.bool (chk s)) ∧ w = w' := by
  unfold chk
  by_cases h1 : 1 ≤ s.size
  · have hd1 : decide (1 ≤ (s.size : Int)) = true := by simp; omega
    by_cases h2 : s.size ≤ 32
    · have hd : decide ((s.size : Int) ≤ 32) = true := by simp; omega
      rw [decide_eq_true (⟨h1, h2⟩ : 1 ≤ s.size ∧ s.size ≤ 32)]
      go_enter Try.func58, Try.ntmps58
      go_wp2
      go_ret
      exact ⟨rfl, rfl⟩
    · have hd : decide ((s.size : Int) ≤ 32) = false := by simp; omega
      rw [decide_eq_false (fun h => h2 h.2 : ¬ (1 ≤ s.size ∧ s.size ≤ 32))]
      go_enter Try.func58, Try.ntmps58
      go_wp2
      go_ret
      exact ⟨rfl, rfl⟩
  · have hd1 : decide (1 ≤ (s.size : Int)) = false := by simp; omega
    rw [decide_eq_false (fun h => h1 h.1 : ¬ (1 ≤ s.size ∧ s.size ≤ 32))]
    go_enter Try.func58, Try.ntmps58
    go_wp2
    go_ret
    exact ⟨rfl, rfl⟩

theorem nanS (x : ByteArray) (w : World) : Calls Try.prog 79 #[.string x] w fun e w' => e = .returned (.bool false) ∧ w = w' := by
  go_enter Try.func79, Try.ntmps79
  go_wp2
  go_ret
  exact ⟨by simp, rfl⟩
theorem nanN (x : Nat) (w : World) : Calls Try.prog 80 #[.int .u64 (x : Int)] w fun e w' => e = .returned (.bool false) ∧ w = w' := by
  go_enter Try.func80, Try.ntmps80
  go_wp2
  go_ret
  exact ⟨by simp, rfl⟩
theorem cmpS_any (a b : ByteArray) (w : World) : Calls Try.prog 60 #[.string a, .string b] w fun e w' => e = .returned (.int .i64 (cmpS a b)) ∧ w = w' := by
  have h1 : Op.bytesLess a.toList b.toList = lessB a b := rfl
  have h2 := lessB_gt a b
  unfold cmpS
  cases e1 : lessB a b
  · cases e2 : lessB b a
    · have he : (a.toList == b.toList) = true := by rw [txt_eqB, lessB_total e1 e2]; simp
      rw [e1] at h1
      clear h2 e1 e2
      rw [if_neg (by decide), if_neg (by decide)]
      go_enter Try.func60, Try.ntmps60
      go_wp2_with (go_at_call 79; refine (nanS _ _).mono ?_; rintro e w' ⟨rfl, rfl⟩)
      go_ret
      exact ⟨rfl, rfl⟩
    · have he : (a.toList == b.toList) = false := by
        rw [txt_eqB]
        exact decide_eq_false (fun h => by subst h; rw [e1] at e2; cases e2)
      rw [e1] at h1
      clear h2 e1 e2
      rw [if_neg (by decide), if_pos rfl]
      go_enter Try.func60, Try.ntmps60
      go_wp2_with (go_at_call 79; refine (nanS _ _).mono ?_; rintro e w' ⟨rfl, rfl⟩)
      go_ret
      exact ⟨rfl, rfl⟩
  · rw [e1] at h1
    clear h2 e1
    rw [if_pos rfl]
    go_enter Try.func60, Try.ntmps60
    go_wp2_with (go_at_call 79; refine (nanS _ _).mono ?_; rintro e w' ⟨rfl, rfl⟩)
    go_ret
    exact ⟨rfl, rfl⟩
theorem cmpN_any (a b : Nat) (w : World) : Calls Try.prog 62 #[.int .u64 (a : Int), .int .u64 (b : Int)] w fun e w' => e = .returned (.int .i64 (cmpN a b)) ∧ w = w' := by
  go_enter Try.func62, Try.ntmps62
  go_wp2_with (go_at_call 80; refine (nanN _ _).mono ?_; rintro e w' ⟨rfl, rfl⟩)
  all_goals (go_ret; refine ⟨?_, rfl⟩; unfold cmpN; (repeat' split) <;> first | rfl | (exfalso; omega))
theorem cmpG_any (a b : Bool) (w : World) : Calls Try.prog 64 #[.bool a, .bool b] w fun e w' => e = .returned (.int .i64 (cmpG a b)) ∧ w = w' := by
  cases a <;> cases b <;>
    (go_enter Try.func64, Try.ntmps64
     go_wp2
     go_ret
     exact ⟨rfl, rfl⟩)

/-- a mark that lies in a block of its own -/
def MkAt (w : World) (g : Nat) (m : Mk) : Prop := w.heap[g]? = some (.cells #[.string m.k, .int .u64 (m.s : Int), .bool m.g] 46 (0, 0))
theorem MkAt.cell {w : World} {g : Nat} {m : Mk} (h : MkAt w g m) : w.cell? ⟨g, 0, none⟩ = some (.string m.k) ∧ w.cell? ⟨g, 1, none⟩ = some (.int .u64 (m.s : Int)) ∧ w.cell? ⟨g, 2, none⟩ = some (.bool m.g) :=
  ⟨cell_of_row w g 0 _ _ (0, 0) h, cell_of_row w g 1 _ _ (0, 0) h, cell_of_row w g 2 _ _ (0, 0) h⟩
theorem cmp1_any (a b : Mk) (g h : Nat) (w : World) (ha : MkAt w g a) (hb : MkAt w h b) :
    Calls Try.prog 59 #[.pointer (some ⟨g, 0, none⟩), .pointer (some ⟨h, 0, none⟩)] w fun e w' => e = .returned (.int .i64 (cmpS a.k b.k)) ∧ w = w' := by
  obtain ⟨a1, a2, a3⟩ := ha.cell
  obtain ⟨b1, b2, b3⟩ := hb.cell
  go_enter Try.func59, Try.ntmps59
  go_wp2_with (go_at_call 60; refine (cmpS_any _ _ _).mono ?_; rintro e w' ⟨rfl, rfl⟩)
  go_ret
  exact ⟨rfl, rfl⟩
theorem cmp2_any (a b : Mk) (g h : Nat) (w : World) (ha : MkAt w g a) (hb : MkAt w h b) :
    Calls Try.prog 61 #[.pointer (some ⟨g, 0, none⟩), .pointer (some ⟨h, 0, none⟩)] w fun e w' => e = .returned (.int .i64 (cmpN a.s b.s)) ∧ w = w' := by
  obtain ⟨a1, a2, a3⟩ := ha.cell
  obtain ⟨b1, b2, b3⟩ := hb.cell
  go_enter Try.func61, Try.ntmps61
  go_wp2_with (go_at_call 62; refine (cmpN_any _ _ _).mono ?_; rintro e w' ⟨rfl, rfl⟩)
  go_ret
  exact ⟨rfl, rfl⟩
theorem cmp3_any (a b : Mk) (g h : Nat) (w : World) (ha : MkAt w g a) (hb : MkAt w h b) :
    Calls Try.prog 63 #[.pointer (some ⟨g, 0, none⟩), .pointer (some ⟨h, 0, none⟩)] w fun e w' => e = .returned (.int .i64 (cmpG a.g b.g)) ∧ w = w' := by
  obtain ⟨a1, a2, a3⟩ := ha.cell
  obtain ⟨b1, b2, b3⟩ := hb.cell
  go_enter Try.func63, Try.ntmps63
  go_wp2_with (go_at_call 64; refine (cmpG_any _ _ _).mono ?_; rintro e w' ⟨rfl, rfl⟩)
  go_ret
  exact ⟨rfl, rfl⟩
end Go.Proofs.Ytopcnlophmplgaa
