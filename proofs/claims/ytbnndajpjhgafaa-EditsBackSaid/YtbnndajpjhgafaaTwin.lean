/-
  Contracts of the laws' helpers: TwinBytes.
-/
import Derived.Test.YtbnndajpjhgafaaMem
namespace Go.Proofs.Ytbnndajpjhgafaa
open Go.RowKit
set_option linter.unusedVariables false

set_option maxHeartbeats 2000000 in
/-- a copy in memory of its own, with a mark in the room behind -/
theorem twin_any (A : Option Addr) (n c : Nat) (l : List UInt8) (w : World) (h : Lies w w.heap.size 1 A n (l.map bv)) (hn : n ≤ 1099511627776) :
    Calls Try.prog 15 #[.slice A n c] w fun e w' => ∃ g c', e = .returned (.slice (some ⟨g, 0, none⟩) n c') ∧ w'.ownsRow w.heap.size 5 1 (.slice (some ⟨g, 0, none⟩) (n + 1) c') (n + 1) ((l ++ [77]).map bv) ∧ Below w.heap.size w w' := by
  obtain ⟨i0, hi, hz0, hz1, hz2⟩ := info_parts byte_info
  have HN := Lib.hid h; clear h
  go_enter Try.func15, Try.ntmps15
  go_wp2_with (at_make; refine wpList_make_own _ rfl _ _ 28 rfl w.heap.size 5 i0 _ 1 Try.underlying28 hi hz0 hz1 _ _ _ (n + 1) rfl rfl (by omega) (by rw [hz2]; omega) (by unfold maxLen; omega) (Nat.le_refl _) ?_; intro w1 hown1 hgrow1)
  have hb1 : Below w.heap.size w w1 := (Below.refl _ _).grown hgrow1 (Nat.le_refl _) (by simp)
  clear hgrow1
  go_loopw [3, 4] (fun v i wr => ∃ k : Nat, k ≤ n ∧ i = .int .i64 (k : Int) ∧ wr.ownsRow w.heap.size 5 1 v k ((l.take k).map bv) ∧ Below w.heap.size w wr) (fun _ i _ => n - (intOf i).toNat)
  case atStart => exact ⟨0, Nat.zero_le _, rfl, hown1, hb1⟩
  case round =>
    clear hown1 hb1
    obtain ⟨k, hk, rfl, hown, hb⟩ := hrel
    have hbs := hb.size
    obtain ⟨A1, c1, rfl, hnc1, hcm1, hA1⟩ := own_shape hown
    by_cases hlt : k < n
    · obtain ⟨b, o, x, rfl, hbB, hx, hc0⟩ := HN.out.byte hlt
      have hcell : wr.cell? ⟨b, o + k, none⟩ = some (.int .u8 (x.toNat : Int)) := (hb.cell hbB).trans hc0
      have HX := Lib.hid (show l.take (k + 1) = l.take k ++ [x] from by rw [List.take_add_one, hx]; rfl)
      have hxl := x.toNat_lt
      clear hc0 hx
      go_wp2_with (at_builtin; refine wpList_app _ rfl (.tmp 15) (.tmp 20) 28 rfl w.heap.size 5 i0 _ 1 1 Try.underlying28 hi hz0 hz1 hz2 rfl (by decide) (.slice A1 k c1) k ((l.take k).map bv) rfl (hown.alloc _) (wr.heap.size + 1) (some ⟨wr.heap.size, 0, none⟩) 1 1 [.int .u8 (x.toNat : Int)] rfl ?c1 ?c2 ?c3 ?c4 ?c5 ?_)
      case c1 => exact one_lies rfl _ _
      case c2 => intro u hu; simp at hu; subst hu; rfl
      case c3 => unfold maxLen; omega
      case c4 => omega
      case c5 => simp; omega
      intro v2 w2 hown2 hg2 _
      have hb2 : Below w.heap.size w w2 := (hb.alloc hbs _).grown hg2 (by simp; omega) (fun j hj => (hown.lt j hj).1)
      have hown3 : w2.ownsRow w.heap.size 5 1 v2 (k + 1) ((l.take (k + 1)).map bv) := by rw [HX.out, List.map_append, List.map_take]; exact hown2
      clear hown2 hg2 hown HX
      go_wp2
      go_roundw
      case rel => exact ⟨k + 1, hlt, by go_num, hown3, hb2⟩
      case measure => simp [intOf]; omega
    · obtain rfl : n = k := by omega
      have hl : l.take n = l := List.take_of_length_le (by have := HN.out.blen; omega)
      rw [hl] at hown
      go_wp2_with (at_builtin; refine wpList_app _ rfl (.tmp 22) (.tmp 23) 28 rfl w.heap.size 5 i0 _ 1 1 Try.underlying28 hi hz0 hz1 hz2 rfl (by decide) (.slice A1 n c1) n (l.map bv) rfl (hown.alloc _) (wr.heap.size + 1) (some ⟨wr.heap.size, 0, none⟩) 1 1 [.int .u8 77] rfl ?d1 ?d2 ?d3 ?d4 ?d5 ?_)
      case d1 => exact one_lies rfl _ _
      case d2 => intro u hu; simp at hu; subst hu; rfl
      case d3 => unfold maxLen; omega
      case d4 => omega
      case d5 => simp; omega
      intro v2 w2 hown2 hg2 _
      have hb2 : Below w.heap.size w w2 := (hb.alloc hbs _).grown hg2 (by simp; omega) (fun j hj => (hown.lt j hj).1)
      have hown3 : w2.ownsRow w.heap.size 5 1 v2 (n + 1) ((l ++ [77]).map bv) := by rw [List.map_append]; exact hown2
      clear hown2 hg2 hown
      obtain ⟨g, c2, rfl, hnc2, hcm2⟩ : ∃ g c2, v2 = .slice (some ⟨g, 0, none⟩) (n + 1) c2 ∧ n + 1 ≤ c2 ∧ c2 ≤ maxLen := by
        rcases hown3.2 with ⟨_, h0⟩ | ⟨g, cap, cur, rfl, _, _, h1, h2, _⟩
        · omega
        · exact ⟨g, cap, rfl, h1, h2⟩
      unfold maxLen at hcm2
      go_wp2
      go_ret
      exact ⟨g, c2, rfl, hown3, hb2⟩
theorem twin_own (A : Option Addr) (n c : Nat) (l : List UInt8) (w : World) (h : Lies w w.heap.size 1 A n (l.map bv)) (hn : n ≤ 1099511627776) :
    Calls Try.prog 15 #[.slice A n c] w fun e w' => GotS w n l e w' :=
  (twin_any A n c l w h hn).mono fun e w' ⟨g, c', he, ho, hb⟩ => by
    have ho2 := ho
    rcases ho2.2 with ⟨h0, _⟩ | ⟨g', cap, cur, hv, _, hh, h1, h2, h3, h4⟩
    · cases h0
    injection hv with _ _ e3
    subst e3
    rw [List.map_append] at ho
    exact ⟨g, c', he, by omega, h2, own_less ho, hb⟩


end Go.Proofs.Ytbnndajpjhgafaa
