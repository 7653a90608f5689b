/-
  The walk of ModelsNone.
-/
import Derived.Test.YtlbnhiilllohfaaModNone
import Derived.Deep.DeepCutAuto
import Derived.Deep.Cut
import Derived.Deep.RegionHeld3
namespace Go.Proofs.Ytlbnhiilllohfaa
open Go.RowKit
set_option linter.unusedVariables false
set_option maxRecDepth 100000

/-- a state that no call made, as it lies in memory -/
def noState : Obj := .cells #[.bool false, .slice none 0 0, .int .u8 0, .int .u32 0, .int .i64 0, .bool false, .slice none 0 0, .int .u8 0, .int .u32 0, .int .i64 0, .bool false, .slice none 0 0, .int .u8 0, .int .u32 0, .int .i64 0, .bool false, .slice none 0 0, .int .u8 0, .int .u32 0, .int .i64 0, .bool false, .slice none 0 0, .int .u8 0, .int .u32 0, .int .i64 0, .bool false, .slice none 0 0, .int .u8 0, .int .u32 0, .int .i64 0, .bool false, .slice none 0 0, .int .u8 0, .int .u32 0, .int .i64 0, .bool false, .slice none 0 0, .int .u8 0, .int .u32 0, .int .i64 0, .bool false, .slice none 0 0] 37
/-- the two states that no call made, as they lie in memory -/
def Two (g : Nat) (wr : World) : Prop :=
  MNo wr none ∧ MNo wr (some ⟨g, 0, none⟩) ∧ Lies wr wr.heap.size 1 (some ⟨g + 1, 0, none⟩) 2 [.pointer none, .pointer (some ⟨g, 0, none⟩)]
theorem Two.below {g : Nat} {w w' : World} (h : Two g w) (hb : Below w.heap.size w w') : Two g w' :=
  ⟨h.1.below hb, h.2.1.below hb, (h.2.2.below hb).more hb.size⟩
def NoRel (W : World) (j : Nat) (i : Value) (wr : World) : Prop := ∃ k : Nat, k ≤ 2 ∧ j = 2 - k ∧ i = .int .i64 (k : Int) ∧ Below W.heap.size W wr ∧ Two W.heap.size wr
theorem two_new (w : World) (u : TypeId) : Two w.heap.size ((w.alloc noState).alloc (.cells #[.pointer none, .pointer (some ⟨w.heap.size, 0, none⟩)] u)) := by
  have hs : w.heap.size + 1 = (w.alloc noState).heap.size := by simp
  have h1 : (w.alloc noState).heap[w.heap.size]? = some noState := heap_alloc_new w _
  generalize hW : w.alloc noState = W at *
  have hs2 : W.heap.size + 1 = (W.alloc (.cells #[.pointer none, .pointer (some ⟨w.heap.size, 0, none⟩)] u)).heap.size := by simp
  refine ⟨.inl rfl, .inr ⟨_, rfl, ?_, ?_⟩, ?_⟩
  · show w.heap.size < _; omega
  · rw [World.cell?_alloc_lt W _ _ (by show w.heap.size < _; omega), cell_of_row _ w.heap.size 0 _ _ (0, 0) h1]
    rfl
  · have h := lits_lie hs [.pointer none, .pointer (some ⟨w.heap.size, 0, none⟩)] u
    rw [← hs2, ← hs]
    exact h

set_option maxHeartbeats 4000000 in
theorem modelsNone_walk (c m : Nat) (v0 v1 v2 v3 v4 v5 v6 v7 : Value) (w : World) (hc : c < 256) (hm : m < 4294967296) :
    Calls Try.prog 3 #[.int .u8 (c : Int), .int .u32 (m : Int), .agg #[v0, v1, v2, v3, v4, v5, v6, v7]] w fun e w' => e = .returned (.bool true) ∧ Below w.heap.size w w' := by
  have hB : Below w.heap.size w (w.alloc (.cells #[v0, v1, v2, v3, v4, v5, v6, v7] 26)) := (Below.refl _ _).alloc (Nat.le_refl _) _
  have hrow : (w.alloc (.cells #[v0, v1, v2, v3, v4, v5, v6, v7] 26)).heap[w.heap.size]? = some (.cells #[v0, v1, v2, v3, v4, v5, v6, v7] 26 (0, 0)) := heap_alloc_new w _
  have hz : (w.alloc (.cells #[v0, v1, v2, v3, v4, v5, v6, v7] 26)).heap.size = w.heap.size + 1 := by simp
  obtain ⟨W, hW⟩ : ∃ W, w.alloc (.cells #[v0, v1, v2, v3, v4, v5, v6, v7] 26) = W := ⟨_, rfl⟩
  rw [hW] at hB hrow hz
  have HR : Hid (NoRel W 2 (.int .i64 0) ((W.alloc noState).alloc (.cells #[.pointer none, .pointer (some ⟨W.heap.size, 0, none⟩)] 27))) :=
    ⟨0, by omega, rfl, rfl, ((Below.refl _ _).alloc (Nat.le_refl _) _).alloc (by simp) _, two_new _ _⟩
  have HB := Lib.hid hB
  have KX : Hid (∀ W', Below W.heap.size W W' → W'.cell? ⟨w.heap.size, 0, none⟩ = some v0 ∧ W'.cell? ⟨w.heap.size, 1, none⟩ = some v1 ∧ W'.cell? ⟨w.heap.size, 2, none⟩ = some v2 ∧ W'.cell? ⟨w.heap.size, 3, none⟩ = some v3 ∧ W'.cell? ⟨w.heap.size, 4, none⟩ = some v4 ∧ W'.cell? ⟨w.heap.size, 5, none⟩ = some v5 ∧ W'.cell? ⟨w.heap.size, 6, none⟩ = some v6 ∧ W'.cell? ⟨w.heap.size, 7, none⟩ = some v7) := fun W' hb => by
    have hr := (hb.block w.heap.size (by omega)).trans hrow
    exact ⟨cell_of_row _ _ 0 _ _ (0, 0) hr, cell_of_row _ _ 1 _ _ (0, 0) hr, cell_of_row _ _ 2 _ _ (0, 0) hr, cell_of_row _ _ 3 _ _ (0, 0) hr, cell_of_row _ _ 4 _ _ (0, 0) hr, cell_of_row _ _ 5 _ _ (0, 0) hr, cell_of_row _ _ 6 _ _ (0, 0) hr, cell_of_row _ _ 7 _ _ (0, 0) hr⟩
  have HZ := Lib.hid hz
  clear hB hrow hz
  go_enter Try.func3, Try.ntmps3
  go_wp2
  go_loopg [8] 2 (fun j i wr => NoRel W j i wr)
  case atStart => exact HR.out
  case round =>
    clear HR hW
    obtain ⟨k, hk2, rfl, rfl, hb, htw⟩ := hrel
    have HWB := Lib.hid hb; have HT := Lib.hid htw
    by_cases hlt : k < 2
    · obtain ⟨p, hp, hcell⟩ : ∃ p, MNo wr p ∧ wr.cell? ⟨W.heap.size + 1, k, none⟩ = some (.pointer p) := by
        obtain ⟨h1, h2, h3⟩ := HT.out
        obtain ⟨b, o, v, hA, _, hu, hcell⟩ := h3.at_ hlt
        injection hA with hA
        injection hA with hA1 hA2
        subst hA1 hA2
        rw [Nat.zero_add] at hcell
        have : k = 0 ∨ k = 1 := by omega
        rcases this with rfl | rfl
        · injection hu with hu; subst hu; exact ⟨none, h1, hcell⟩
        · injection hu with hu; subst hu; exact ⟨_, h2, hcell⟩
      have HP := Lib.hid hp
      have i0 : (0 : Int) ≤ (k : Int) := by omega
      have i1 : (k : Int) < 2 := by omega
      have hcs : W.heap.size + 1 < wr.heap.size := by
        rcases Nat.lt_or_ge (W.heap.size + 1) wr.heap.size with q | q
        · exact q
        · rw [World.cell?, Array.getElem?_eq_none q] at hcell; cases hcell
      have KE : Hid (∀ W', Below wr.heap.size wr W' → W'.cell? ⟨W.heap.size + 1, k, none⟩ = some (.pointer p) ∧ W'.cell? ⟨w.heap.size, 0, none⟩ = some v0 ∧ W'.cell? ⟨w.heap.size, 1, none⟩ = some v1 ∧ W'.cell? ⟨w.heap.size, 2, none⟩ = some v2 ∧ W'.cell? ⟨w.heap.size, 3, none⟩ = some v3 ∧ W'.cell? ⟨w.heap.size, 4, none⟩ = some v4 ∧ W'.cell? ⟨w.heap.size, 5, none⟩ = some v5 ∧ W'.cell? ⟨w.heap.size, 6, none⟩ = some v6 ∧ W'.cell? ⟨w.heap.size, 7, none⟩ = some v7) := fun W' hb' =>
        ⟨(hb'.cell (p := ⟨W.heap.size + 1, k, none⟩) hcs).trans hcell, KX.out W' (HWB.out.trans (hb'.mono HWB.out.size))⟩
      have hd0 : Below wr.heap.size wr wr.drew := (Below.refl _ _).drew
      have HG : Hid (∀ W', Below wr.heap.size wr W' → Calls Try.prog 4 #[.pointer p, .int .u8 (c : Int), .int .u32 (m : Int), .agg #[v0, v1, v2, v3, v4, v5, v6, v7]] W' fun e w' => e = .returned (.tuple #[.agg #[.int .i64 0, .bool false, .slice none 0 0], .int .i64 2]) ∧ Below W'.heap.size W' w') := fun W' hb' => do_mno (HP.out.below hb') _ _ v0 v1 v2 v3 v4 v5 v6 v7
      have hal : Below wr.heap.size wr (wr.alloc (.cells #[.int .i64 0, .bool false, .slice none 0 0] 31)) := (Below.refl _ _).alloc (Nat.le_refl _) _
      have hd1 : Below wr.heap.size wr (wr.alloc (.cells #[.int .i64 0, .bool false, .slice none 0 0] 31)).drew := hal.drew
      have YB : Hid (∀ W', Below (wr.alloc (.cells #[.int .i64 0, .bool false, .slice none 0 0] 31)).heap.size (wr.alloc (.cells #[.int .i64 0, .bool false, .slice none 0 0] 31)).drew W' → W'.heap[wr.heap.size]? = some (.cells #[.int .i64 0, .bool false, .slice none 0 0] 31 (0, 0))) := fun W' hb' =>
        (hb'.block wr.heap.size (by simp)).trans (heap_alloc_new wr _)
      clear hb htw hp hcell hk2 hal
      go_upto_region 5 with fail
      go_cut [9, 10] (fun y ok wx => ∃ gy, y = .pointer (some ⟨gy, 0, none⟩) ∧ ok = .int .i64 2 ∧ Below wr.heap.size wr wx ∧ wx.cell? ⟨gy, 0, none⟩ = some (.int .i64 0) ∧ wx.cell? ⟨gy, 1, none⟩ = some (.bool false) ∧ wx.cell? ⟨gy, 2, none⟩ = some (.slice none 0 0))
      case first =>
       go_region_held3 (fun W' => W'.cell? ⟨W.heap.size + 1, k, none⟩ = some (.pointer p) ∧ W'.cell? ⟨w.heap.size, 0, none⟩ = some v0 ∧ W'.cell? ⟨w.heap.size, 1, none⟩ = some v1 ∧ W'.cell? ⟨w.heap.size, 2, none⟩ = some v2 ∧ W'.cell? ⟨w.heap.size, 3, none⟩ = some v3 ∧ W'.cell? ⟨w.heap.size, 4, none⟩ = some v4 ∧ W'.cell? ⟨w.heap.size, 5, none⟩ = some v5 ∧ W'.cell? ⟨w.heap.size, 6, none⟩ = some v6 ∧ W'.cell? ⟨w.heap.size, 7, none⟩ = some v7)
        (first | exact KE.out _ hd0 | exact KE.out _ hd1 | exact KE.out _ hb2 | exact KE.out _ (Below.alloc hb2 hb2.size _) | exact KE.out _ (Below.setCell (Below.setCell (Below.setCell hb2 (Nat.le_refl _) _) (Nat.le_refl _) _) (Nat.le_refl _) _) | exact KE.out _ (Below.setCell (Below.setCell (Below.setCell (Below.alloc hb2 hb2.size _) hb2.size _) hb2.size _) hb2.size _))
        (first
          | (go_at_call 4; refine Calls.mono (HG.out _ hd1) ?_; rintro e w2 ⟨rfl, hb2'⟩; have hb2 : Below wr.heap.size wr w2 := hd1.trans (hb2'.mono hd1.size); have hbx := YB.out w2 hb2'; have z0 : w2.cell? ⟨wr.heap.size, 0, none⟩ = some (.int .i64 0) := cell_of_row w2 _ 0 _ _ (0, 0) hbx; have z1 : w2.cell? ⟨wr.heap.size, 1, none⟩ = some (.bool false) := cell_of_row w2 _ 1 _ _ (0, 0) hbx; have z2 : w2.cell? ⟨wr.heap.size, 2, none⟩ = some (.slice none 0 0) := cell_of_row w2 _ 2 _ _ (0, 0) hbx; have f0 : w2.frozen? ⟨wr.heap.size, 0, none⟩ = false := (by simp [World.frozen?, hbx]); have f1 : w2.frozen? ⟨wr.heap.size, 1, none⟩ = false := (by simp [World.frozen?, hbx]); have f2 : w2.frozen? ⟨wr.heap.size, 2, none⟩ = false := (by simp [World.frozen?, hbx]))
          | (go_at_call 4; refine Calls.mono (HG.out _ hd0) ?_; rintro e w2 ⟨rfl, hb2'⟩; have hb2 : Below wr.heap.size wr w2 := hd0.trans (hb2'.mono hd0.size))
          | fail)
       all_goals (go_wp2_with fail; go_meet)
       all_goals first
        | (obtain ⟨h1, h2⟩ := three_set hbx hb2 (Nat.le_refl _) (.int .i64 0) (.bool false) (.slice none 0 0); exact ⟨_, rfl, rfl, h2, cell_of_row _ _ 0 _ _ (0, 0) h1, cell_of_row _ _ 1 _ _ (0, 0) h1, cell_of_row _ _ 2 _ _ (0, 0) h1⟩)
        | exact ⟨_, rfl, rfl, hb2.alloc hb2.size _, cell_of_row _ _ 0 _ _ (0, 0) (heap_alloc_new w2 _), cell_of_row _ _ 1 _ _ (0, 0) (heap_alloc_new w2 _), cell_of_row _ _ 2 _ _ (0, 0) (heap_alloc_new w2 _)⟩
      case rest =>
        obtain ⟨gy, rfl, rfl, hbc, hy0, hy1, hy2⟩ := hcut
        have hgy : gy < wc.heap.size := by
          rcases Nat.lt_or_ge gy wc.heap.size with q | q
          · exact q
          · rw [World.cell?, Array.getElem?_eq_none q] at hy0; cases hy0
        have hd2 : Below wc.heap.size wc wc.drew := (Below.refl _ _).drew
        have KE2 : Hid (∀ W', Below wc.heap.size wc W' → W'.cell? ⟨W.heap.size + 1, k, none⟩ = some (.pointer p) ∧ W'.cell? ⟨gy, 0, none⟩ = some (.int .i64 0) ∧ W'.cell? ⟨gy, 1, none⟩ = some (.bool false) ∧ W'.cell? ⟨gy, 2, none⟩ = some (.slice none 0 0) ∧ W'.cell? ⟨w.heap.size, 0, none⟩ = some v0 ∧ W'.cell? ⟨w.heap.size, 1, none⟩ = some v1 ∧ W'.cell? ⟨w.heap.size, 2, none⟩ = some v2 ∧ W'.cell? ⟨w.heap.size, 3, none⟩ = some v3 ∧ W'.cell? ⟨w.heap.size, 4, none⟩ = some v4 ∧ W'.cell? ⟨w.heap.size, 5, none⟩ = some v5 ∧ W'.cell? ⟨w.heap.size, 6, none⟩ = some v6 ∧ W'.cell? ⟨w.heap.size, 7, none⟩ = some v7) := fun W' hb' => by
          obtain ⟨h1, h2⟩ := KE.out W' (hbc.trans (hb'.mono hbc.size))
          exact ⟨h1, (hb'.cell (p := ⟨gy, 0, none⟩) hgy).trans hy0, (hb'.cell (p := ⟨gy, 1, none⟩) hgy).trans hy1, (hb'.cell (p := ⟨gy, 2, none⟩) hgy).trans hy2, h2⟩
        have HNP : Hid (∀ W', Below wc.heap.size wc W' → MNo W' p) := fun W' hb' => HP.out.below (hbc.trans (hb'.mono hbc.size))
        have G1 : Hid (∀ W', Below wc.heap.size wc W' → Calls Try.prog 5 #[.pointer p] W' fun e w' => e = .returned (.slice none 0 0) ∧ w' = W') := fun W' hb' => rows_mno (HNP.out W' hb')
        have G2 : Hid (∀ W', Below wc.heap.size wc W' → Calls Try.prog 6 #[.pointer p] W' fun e w' => e = .returned (.slice none 0 0) ∧ w' = W') := fun W' hb' => said_mno (HNP.out W' hb')
        have G3 : Hid (∀ W', Below wc.heap.size wc W' → Calls Try.prog 7 #[.pointer p, .agg #[v0, v1, v2, v3, v4, v5, v6, v7]] W' fun e w' => e = .returned (.slice none 0 0) ∧ Below W'.heap.size W' w') := fun W' hb' => changes_mno (HNP.out W' hb') v0 v1 v2 v3 v4 v5 v6 v7
        have HB3 := Lib.hid (HWB.out.trans (hbc.mono HWB.out.size))
        have HT3 := Lib.hid (HT.out.below hbc)
        clear hbc hy0 hy1 hy2 KE HG YB HP HNP hd0 hd1
        go_wp2_with fail
        go_region_held3 (fun W' => W'.cell? ⟨W.heap.size + 1, k, none⟩ = some (.pointer p) ∧ W'.cell? ⟨gy, 0, none⟩ = some (.int .i64 0) ∧ W'.cell? ⟨gy, 1, none⟩ = some (.bool false) ∧ W'.cell? ⟨gy, 2, none⟩ = some (.slice none 0 0) ∧ W'.cell? ⟨w.heap.size, 0, none⟩ = some v0 ∧ W'.cell? ⟨w.heap.size, 1, none⟩ = some v1 ∧ W'.cell? ⟨w.heap.size, 2, none⟩ = some v2 ∧ W'.cell? ⟨w.heap.size, 3, none⟩ = some v3 ∧ W'.cell? ⟨w.heap.size, 4, none⟩ = some v4 ∧ W'.cell? ⟨w.heap.size, 5, none⟩ = some v5 ∧ W'.cell? ⟨w.heap.size, 6, none⟩ = some v6 ∧ W'.cell? ⟨w.heap.size, 7, none⟩ = some v7)
          (first | exact KE2.out _ hd2 | exact KE2.out _ hb6)
          (first
            | (go_at_call 5; refine (G1.out _ hd2).mono ?_; rintro e w4 ⟨rfl, hw4⟩; obtain rfl := hw4.symm)
            | (go_at_call 6; refine (G2.out _ hd2).mono ?_; rintro e w5 ⟨rfl, hw5⟩; obtain rfl := hw5.symm)
            | (go_at_call 7; refine (G3.out _ hd2).mono ?_; rintro e w6 ⟨rfl, hb6'⟩; have hb6 := hd2.trans (hb6'.mono hd2.size))
            | fail)
        go_wp2_with fail
        go_roundg (2 - (k + 1))
        case measure => omega
        case rel => exact ⟨k + 1, by omega, rfl, by go_num, HB3.out.trans (hb6.mono HB3.out.size), HT3.out.below hb6⟩
    · obtain rfl : k = 2 := by omega
      have HF := Lib.hid (HB.out.trans (hb.mono HB.out.size))
      clear hb htw
      go_wp2
      go_ret
      exact ⟨rfl, HF.out⟩
end Go.Proofs.Ytlbnhiilllohfaa
