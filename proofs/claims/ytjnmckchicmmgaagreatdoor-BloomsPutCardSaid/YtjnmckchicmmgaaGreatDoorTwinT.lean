/-
  Contracts of the laws' helpers: TwinTexts, LeftTexts.
-/
import Derived.Test.YtjnmckchicmmgaaGreatDoorApp9
import Derived.Test.YtjnmckchicmmgaaGreatDoorTSize
import Derived.OwnWalk
namespace Go.Proofs.YtjnmckchicmmgaaGreatDoor
open Go.RowKit
set_option linter.unusedVariables false
set_option maxRecDepth 100000

/-- the mark in the room behind -/
def SPT : ByteArray := ⟨#[115, 112, 97, 114, 101]⟩
set_option maxHeartbeats 2000000 in
/-- a copy in memory of its own, with a mark in the room behind -/
theorem twinT_any (A : Option Addr) (n c : Nat) (T : List ByteArray) (w : World) (h : Lies w w.heap.size 1 A n (T.map Value.string)) (hn : n ≤ 100000) :
    Calls Tryz.prog 5 #[.slice A n c] w fun e w' => ∃ g c', e = .returned (.slice (some ⟨g, 0, none⟩) n c') ∧ w'.ownsRow w.heap.size 9 1 (.slice (some ⟨g, 0, none⟩) (n + 1) c') (n + 1) ((T ++ [SPT]).map Value.string) ∧ Below w.heap.size w w' := by
  obtain ⟨i0, hi, hz0, hz1, hz2⟩ := info_parts str_info9
  have HN := Lib.hid h; clear h
  go_enter Tryz.func5, Tryz.ntmps5
  go_wp2_with (at_make; refine wpList_make_own _ rfl _ _ 22 rfl w.heap.size 9 i0 _ 1 Tryz.underlying22 hi hz0 hz1 _ _ _ (n + 1) rfl rfl (by omega) (by rw [hz2]; omega) (by unfold maxLen; omega) (Nat.le_refl _) ?_; intro w1 hown1 hgrow1)
  have hb1 : Below w.heap.size w w1 := (Below.refl _ _).grown hgrow1 (Nat.le_refl _) (by simp)
  clear hgrow1
  have R0 : Hid (∃ k : Nat, k ≤ n ∧ (Value.int .i64 0) = .int .i64 (k : Int) ∧ w1.ownsRow w.heap.size 9 1 (.slice (some ⟨w.heap.size, 0, none⟩) 0 (n + 1)) k ((T.take k).map Value.string) ∧ Below w.heap.size w w1) := ⟨0, Nat.zero_le _, rfl, hown1, hb1⟩
  clear hown1 hb1 hi hz0 hz1 hz2
  go_loopw [3, 4] (fun v i wr => ∃ k : Nat, k ≤ n ∧ i = .int .i64 (k : Int) ∧ wr.ownsRow w.heap.size 9 1 v k ((T.take k).map Value.string) ∧ Below w.heap.size w wr) (fun _ i _ => n - (intOf i).toNat)
  case atStart => exact R0.out
  case round =>
    clear R0
    obtain ⟨k, hk, rfl, hown, hb⟩ := hrel
    obtain ⟨A1, c1, rfl, hnc1, hcm1, hA1⟩ := own_shape hown
    have HO := Lib.hid hown; have HB := Lib.hid hb
    clear hown hb hA1
    by_cases hlt : k < n
    · obtain ⟨b, o, u, rfl, hbB, hu, hc0⟩ := HN.out.at_ hlt
      obtain ⟨x, hx, rfl⟩ := at_of hu
      have hcell : wr.cell? ⟨b, o + k, none⟩ = some (.string x) := (HB.out.cell (p := ⟨b, o + k, none⟩) hbB).trans hc0
      have HX := Lib.hid (show T.take (k + 1) = T.take k ++ [x] from by rw [List.take_add_one, hx]; rfl)
      clear hc0 hx hu
      go_wp2_with (at_builtin; refine wpList_appS _ (by rfl) (.tmp 15) (.tmp 20) rfl w.heap.size k 1 1 c1 (wr.heap.size + 1) A1 (some ⟨wr.heap.size, 0, none⟩) (T.take k) [x] rfl rfl (HO.out.alloc _) (one_lies rfl _ _) (by omega) (HB.out.alloc HB.out.size _).size ?_)
      intro A2 c2 w2 ha hg
      have hown3 : w2.ownsRow w.heap.size 9 1 (.slice A2 (k + 1) c2) (k + 1) ((T.take (k + 1)).map Value.string) := by rw [HX.out]; exact ha.own
      have R : Hid (∃ k' : Nat, k' ≤ n ∧ (Value.int .i64 ((k : Int) + 1)) = .int .i64 (k' : Int) ∧ w2.ownsRow w.heap.size 9 1 (.slice A2 (k + 1) c2) k' ((T.take k').map Value.string) ∧ Below w.heap.size w w2) := ⟨k + 1, hlt, by simp, hown3, (HB.out.alloc HB.out.size _).trans ha.below⟩
      clear ha hg hown3 hcell
      go_wp2
      go_roundw
      case rel => exact R.out
      case measure => simp [intOf]; omega
    · obtain rfl : n = k := by omega
      have hl : T.take n = T := List.take_of_length_le (by have := HN.out.len; simp at this; omega)
      rw [hl] at HO
      clear hl
      go_wp2_with (at_builtin; refine wpList_appS _ (by rfl) (.tmp 22) (.tmp 23) rfl w.heap.size n 1 1 c1 (wr.heap.size + 1) A1 (some ⟨wr.heap.size, 0, none⟩) T [SPT] rfl rfl (HO.out.alloc _) (one_lies rfl _ _) (by omega) (HB.out.alloc HB.out.size _).size ?_)
      intro A2 c2 w2 ha hg
      have hb2 : Below w.heap.size w w2 := (HB.out.alloc HB.out.size _).trans ha.below
      have hown3 : w2.ownsRow w.heap.size 9 1 (.slice A2 (n + 1) c2) (n + 1) ((T ++ [SPT]).map Value.string) := ha.own
      obtain ⟨g, rfl⟩ : ∃ g, A2 = some ⟨g, 0, none⟩ := by
        rcases hown3.2 with ⟨_, h0⟩ | ⟨g, cap, cur, hv, _⟩
        · omega
        · injection hv with h1 _ _; exact ⟨g, h1⟩
      have hcap := ha.cap
      have hmax := ha.max
      unfold maxLen at hmax
      have HW := Lib.hid hown3; have HB2 := Lib.hid hb2
      clear ha hg hown3 hb2
      go_wp2
      go_ret
      exact ⟨g, c2, rfl, HW.out, HB2.out⟩

set_option maxHeartbeats 2000000 in
/-- a copy that nobody touched is still what it was made of, its mark too -/
theorem leftT_any (A : Option Addr) (g og n c c2 B : Nat) (T : List ByteArray) (w : World) (h1 : Lies w B 1 (some ⟨g, og, none⟩) (n + 1) ((T ++ [SPT]).map Value.string)) (hc1 : n + 1 ≤ c) (hc2 : c ≤ maxLen) (h2 : Lies w B 1 A n (T.map Value.string)) :
    Calls Tryz.prog 9 #[.slice (some ⟨g, og, none⟩) n c, .slice A n c2] w fun e w' => e = .returned (.bool true) ∧ ∃ q, w' = w.drewN q := by
  unfold maxLen at hc2
  have H1 := Lib.hid h1; clear h1
  have hTl : T.length = n := by have := h2.len; simpa using this
  have HTL := Lib.hid hTl
  have H2 := Lib.hid h2; clear h2 hTl
  have hne : ((n : Int) != (n : Int)) = false := by simp
  have hle : decide ((c : Int) ≤ (n : Int)) = false := by simp; omega
  have hle2 : decide (c ≤ n) = false := by simp; omega
  go_enter Tryz.func9, Tryz.ntmps9
  go_wp2
  go_loopw [5] (fun i wr => ∃ k q : Nat, k ≤ n ∧ i = .int .i64 (k : Int) ∧ wr = w.drewN q) (fun i _ => n - (intOf i).toNat)
  case atStart => exact ⟨0, 0, Nat.zero_le _, rfl, rfl⟩
  case round =>
    obtain ⟨k, q, hk, rfl, rfl⟩ := hrel
    by_cases hlt : k < n
    · obtain ⟨b, o, u, hbo, _, hu, hc1'⟩ := H1.out.at_ (j := k) (by omega)
      injection hbo with hbo
      injection hbo with hb0 ho0
      subst hb0 ho0
      obtain ⟨b2, o2, u2, rfl, _, hu2, hc2'⟩ := H2.out.at_ hlt
      obtain ⟨x, hx, rfl⟩ := at_of hu
      obtain ⟨y, hy, rfl⟩ := at_of hu2
      have hxy : x = y := by
        rw [List.getElem?_append_left (by have := HTL.out; omega), hy] at hx
        injection hx with hx
        exact hx.symm
      subst hxy
      have hi : (k : Int) < (n : Int) := by omega
      have hi0 : (0 : Int) ≤ (k : Int) := by omega
      have hbq : (x.toList == x.toList) = true := by simp
      have hbq2 : (x.toList != x.toList) = false := by simp
      clear hx hy hu hu2
      go_wp2
      go_quiet (fail)
      go_wp2
      go_roundw
      case rel => exact ⟨k + 1, _, hlt, by go_num, by first | rfl | (rw [World.drewN_drewN])⟩
      case measure => simp [intOf]; omega
    · obtain ⟨b, o, u, hbo, _, hu, hc1'⟩ := H1.out.at_ (j := n) (by omega)
      injection hbo with hbo
      injection hbo with hb0 ho0
      subst hb0 ho0
      obtain ⟨x, hx, rfl⟩ := at_of hu
      have hxs : x = SPT := by
        rw [List.getElem?_append_right (by have := HTL.out; omega), HTL.out] at hx
        simp at hx
        exact hx.symm
      subst hxs
      have hcs : w.cell? ⟨g, og + n, none⟩ = some (.string ⟨#[115, 112, 97, 114, 101]⟩) := hc1'
      have hbq : ((⟨#[115, 112, 97, 114, 101]⟩ : ByteArray).toList == (⟨#[115, 112, 97, 114, 101]⟩ : ByteArray).toList) = true := by simp
      clear hx hc1' hu
      go_wp2
      go_ret
      exact ⟨rfl, _, rfl⟩
end Go.Proofs.YtjnmckchicmmgaaGreatDoor
