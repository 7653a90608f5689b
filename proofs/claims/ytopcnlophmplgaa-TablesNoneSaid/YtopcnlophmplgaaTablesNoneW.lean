/-
  The walk of TablesNone.
-/
import Derived.Test.YtopcnlophmplgaaTNone
import Derived.Deep.DeepCutAuto
namespace Go.Proofs.Ytopcnlophmplgaa
open Go.RowKit
set_option linter.unusedVariables false
set_option maxRecDepth 100000

/-- the two tables that no call made, as they lie in memory -/
def Two (g : Nat) (wr : World) : Prop :=
  TNo wr none ∧ TNo wr (some ⟨g, 0, none⟩) ∧ Lies wr wr.heap.size 1 (some ⟨g + 1, 0, none⟩) 2 [.pointer none, .pointer (some ⟨g, 0, none⟩)]
theorem Two.below {g : Nat} {w w' : World} (h : Two g w) (hb : Below w.heap.size w w') : Two g w' :=
  ⟨h.1.below hb, h.2.1.below hb, (h.2.2.below hb).more hb.size⟩
def NoRel (W : World) (j : Nat) (i : Value) (wr : World) : Prop := ∃ k : Nat, k ≤ 2 ∧ j = 2 - k ∧ i = .int .i64 (k : Int) ∧ Below W.heap.size W wr ∧ Two W.heap.size wr
theorem two_new (w : World) (t u : TypeId) : Two w.heap.size ((w.alloc (.cells #[.pointer none, .int .i64 0, .int .i64 0] t)).alloc (.cells #[.pointer none, .pointer (some ⟨w.heap.size, 0, none⟩)] u)) := by
  have hs : w.heap.size + 1 = (w.alloc (.cells #[.pointer none, .int .i64 0, .int .i64 0] t)).heap.size := by simp
  have h1 : (w.alloc (.cells #[.pointer none, .int .i64 0, .int .i64 0] t)).heap[w.heap.size]? = some (.cells #[.pointer none, .int .i64 0, .int .i64 0] t) := heap_alloc_new w _
  generalize hW : w.alloc (.cells #[.pointer none, .int .i64 0, .int .i64 0] t) = W at *
  have hs2 : W.heap.size + 1 = (W.alloc (.cells #[.pointer none, .pointer (some ⟨w.heap.size, 0, none⟩)] u)).heap.size := by simp
  refine ⟨.inl rfl, .inr ⟨_, rfl, ?_⟩, ?_⟩
  · rw [World.cell?_alloc_lt W _ _ (by show w.heap.size < _; omega), cell_of_row _ w.heap.size 0 _ _ (0, 0) h1]
    rfl
  · have h := lits_lie hs [.pointer none, .pointer (some ⟨w.heap.size, 0, none⟩)] u
    rw [← hs2, ← hs]
    exact h

set_option maxHeartbeats 4000000 in
theorem tablesNone_walk (x : En) (m : Int) (w : World) (hs : x.m.s < 18446744073709551616) (hk : x.m.k.size ≤ 140737488351232) (hx : x.x.size ≤ 140737488351232) (hm : -9223372036854775808 ≤ m ∧ m ≤ 9223372036854775807) :
    Calls Try.prog 4 #[x.v, .int .i64 m] w fun e w' => e = .returned (.bool true) ∧ Below w.heap.size w w' := by
  obtain ⟨b0, b1, b2, b3, hB, hz⟩ := enW_facts w x
  obtain ⟨W, hW⟩ : ∃ W, w.alloc (Obj.cells #[.string x.m.k, .int .u64 (x.m.s : Int), .bool x.m.g, .string x.x] 48) = W := ⟨_, rfl⟩
  rw [show enW w x = W from hW] at b0 b1 b2 b3 hB hz
  have HR : Hid (NoRel W 2 (.int .i64 0) ((W.alloc (.cells #[.pointer none, .int .i64 0, .int .i64 0] 52)).alloc (.cells #[.pointer none, .pointer (some ⟨W.heap.size, 0, none⟩)] 49))) :=
    ⟨0, by omega, rfl, rfl, ((Below.refl _ _).alloc (Nat.le_refl _) _).alloc (by simp) _, two_new _ _ _⟩
  have HB := Lib.hid hB
  have KX : Hid (∀ W', Below W.heap.size W W' → W'.cell? ⟨w.heap.size, 0, none⟩ = some (.string x.m.k) ∧ W'.cell? ⟨w.heap.size, 1, none⟩ = some (.int .u64 (x.m.s : Int)) ∧ W'.cell? ⟨w.heap.size, 2, none⟩ = some (.bool x.m.g) ∧ W'.cell? ⟨w.heap.size, 3, none⟩ = some (.string x.x)) := fun W' hb =>
    ⟨(hb.cell (p := ⟨w.heap.size, 0, none⟩) (by show w.heap.size < _; omega)).trans b0, (hb.cell (p := ⟨w.heap.size, 1, none⟩) (by show w.heap.size < _; omega)).trans b1, (hb.cell (p := ⟨w.heap.size, 2, none⟩) (by show w.heap.size < _; omega)).trans b2, (hb.cell (p := ⟨w.heap.size, 3, none⟩) (by show w.heap.size < _; omega)).trans b3⟩
  have HZ := Lib.hid hz
  clear hB b0 b1 b2 b3 hz
  unfold En.v
  go_enter Try.func4, Try.ntmps4
  go_wp2
  go_loopg [6] 2 (fun j i wr => NoRel W j i wr)
  case atStart => exact HR.out
  case round =>
    clear HR hW
    obtain ⟨k, hk2, rfl, rfl, hb, htw⟩ := hrel
    have HWB := Lib.hid hb; have HT := Lib.hid htw
    by_cases hlt : k < 2
    · obtain ⟨p, hp, hcell⟩ : ∃ p, TNo wr p ∧ wr.cell? ⟨W.heap.size + 1, k, none⟩ = some (.pointer p) := by
        obtain ⟨h1, h2, h3⟩ := HT.out
        obtain ⟨b, o, v, hA, _, hu, hcell⟩ := h3.at_ hlt
        injection hA with hA
        injection hA with hA1 hA2
        subst hA1 hA2
        rw [Nat.zero_add] at hcell
        have : k = 0 ∨ k = 1 := by omega
        rcases this with rfl | rfl
        · injection hu with hu; subst hu; exact ⟨none, h1, hcell⟩
        · injection hu with hu; subst hu; exact ⟨_, h2, hcell⟩
      have HP := Lib.hid hp
      have i0 : (0 : Int) ≤ (k : Int) := by omega
      have i1 : (k : Int) < 2 := by omega
      have hcs : W.heap.size + 1 < wr.heap.size := by
        rcases Nat.lt_or_ge (W.heap.size + 1) wr.heap.size with q | q
        · exact q
        · rw [World.cell?, Array.getElem?_eq_none q] at hcell; cases hcell
      have KE : Hid (∀ W', Below wr.heap.size wr W' → W'.cell? ⟨W.heap.size + 1, k, none⟩ = some (.pointer p) ∧ W'.cell? ⟨w.heap.size, 0, none⟩ = some (.string x.m.k) ∧ W'.cell? ⟨w.heap.size, 1, none⟩ = some (.int .u64 (x.m.s : Int)) ∧ W'.cell? ⟨w.heap.size, 2, none⟩ = some (.bool x.m.g) ∧ W'.cell? ⟨w.heap.size, 3, none⟩ = some (.string x.x)) := fun W' hb' =>
        ⟨(hb'.cell (p := ⟨W.heap.size + 1, k, none⟩) hcs).trans hcell, KX.out W' (HWB.out.trans (hb'.mono HWB.out.size))⟩
      have hd0 : Below wr.heap.size wr wr.drew := (Below.refl _ _).drew
      have HG : Hid (∀ W', Below wr.heap.size wr W' → Calls Try.prog 21 #[.pointer p, .string x.m.k, .int .u64 (x.m.s : Int)] W' fun e w' => e = .returned (.tuple #[.agg #[.string ⟨#[]⟩, .int .u64 0, .bool false, .string ⟨#[]⟩], .bool false]) ∧ Below W'.heap.size W' w') := fun W' hb' => get_tno (HP.out.below hb') _ _
      have hal : Below wr.heap.size wr (wr.alloc (.cells #[.string ⟨#[]⟩, .int .u64 0, .bool false, .string ⟨#[]⟩] 48)) := (Below.refl _ _).alloc (Nat.le_refl _) _
      have hd1 : Below wr.heap.size wr (wr.alloc (.cells #[.string ⟨#[]⟩, .int .u64 0, .bool false, .string ⟨#[]⟩] 48)).drew := hal.drew
      have YB : Hid (∀ W', Below (wr.alloc (.cells #[.string ⟨#[]⟩, .int .u64 0, .bool false, .string ⟨#[]⟩] 48)).heap.size (wr.alloc (.cells #[.string ⟨#[]⟩, .int .u64 0, .bool false, .string ⟨#[]⟩] 48)).drew W' → W'.heap[wr.heap.size]? = some (.cells #[.string ⟨#[]⟩, .int .u64 0, .bool false, .string ⟨#[]⟩] 48 (0, 0))) := fun W' hb' =>
        (hb'.block wr.heap.size (by simp)).trans (heap_alloc_new wr _)
      clear hb htw hp hcell hk2 hal
      go_upto_region 5 with fail
      go_cut [7, 8] (fun y ok wx => ∃ gy, y = .pointer (some ⟨gy, 0, none⟩) ∧ ok = .bool false ∧ Below wr.heap.size wr wx ∧ wx.cell? ⟨gy, 0, none⟩ = some (.string ⟨#[]⟩))
      case first =>
       go_region_held3 (fun W' => W'.cell? ⟨W.heap.size + 1, k, none⟩ = some (.pointer p) ∧ W'.cell? ⟨w.heap.size, 0, none⟩ = some (.string x.m.k) ∧ W'.cell? ⟨w.heap.size, 1, none⟩ = some (.int .u64 (x.m.s : Int)) ∧ W'.cell? ⟨w.heap.size, 2, none⟩ = some (.bool x.m.g) ∧ W'.cell? ⟨w.heap.size, 3, none⟩ = some (.string x.x))
        (first | exact KE.out _ hd0 | exact KE.out _ hd1 | exact KE.out _ hb2 | exact KE.out _ (Below.alloc hb2 hb2.size _) | exact KE.out _ (Below.setCell (Below.setCell (Below.setCell (Below.setCell hb2 (Nat.le_refl _) _) (Nat.le_refl _) _) (Nat.le_refl _) _) (Nat.le_refl _) _) | exact KE.out _ (Below.setCell (Below.setCell (Below.setCell (Below.setCell (Below.alloc hb2 hb2.size _) hb2.size _) hb2.size _) hb2.size _) hb2.size _))
        (first
          | (go_at_call 21; refine Calls.mono (HG.out _ hd1) ?_; rintro e w2 ⟨rfl, hb2'⟩; have hb2 : Below wr.heap.size wr w2 := hd1.trans (hb2'.mono hd1.size); have hbx := YB.out w2 hb2'; have z0 : w2.cell? ⟨wr.heap.size, 0, none⟩ = some (.string ⟨#[]⟩) := cell_of_row w2 _ 0 _ _ (0, 0) hbx; have z1 : w2.cell? ⟨wr.heap.size, 1, none⟩ = some (.int .u64 0) := cell_of_row w2 _ 1 _ _ (0, 0) hbx; have z2 : w2.cell? ⟨wr.heap.size, 2, none⟩ = some (.bool false) := cell_of_row w2 _ 2 _ _ (0, 0) hbx; have z3 : w2.cell? ⟨wr.heap.size, 3, none⟩ = some (.string ⟨#[]⟩) := cell_of_row w2 _ 3 _ _ (0, 0) hbx; have f0 : w2.frozen? ⟨wr.heap.size, 0, none⟩ = false := (by simp [World.frozen?, hbx]); have f1 : w2.frozen? ⟨wr.heap.size, 1, none⟩ = false := (by simp [World.frozen?, hbx]); have f2 : w2.frozen? ⟨wr.heap.size, 2, none⟩ = false := (by simp [World.frozen?, hbx]); have f3 : w2.frozen? ⟨wr.heap.size, 3, none⟩ = false := (by simp [World.frozen?, hbx]))
          | (go_at_call 21; refine Calls.mono (HG.out _ hd0) ?_; rintro e w2 ⟨rfl, hb2'⟩; have hb2 : Below wr.heap.size wr w2 := hd0.trans (hb2'.mono hd0.size))
          | fail)
       all_goals (go_wp2_with fail; go_meet)
       all_goals first
        | (obtain ⟨h1, h2⟩ := four_set hbx hb2 (Nat.le_refl _) (.string ⟨#[]⟩) (.int .u64 0) (.bool false) (.string ⟨#[]⟩); exact ⟨_, rfl, rfl, h2, cell_of_row _ _ 0 _ _ (0, 0) h1⟩)
        | exact ⟨_, rfl, rfl, hb2.alloc hb2.size _, cell_of_row _ _ 0 _ _ (0, 0) (heap_alloc_new w2 _)⟩
      case rest =>
        obtain ⟨gy, rfl, rfl, hbc, hy0⟩ := hcut
        have hgy : gy < wc.heap.size := by
          rcases Nat.lt_or_ge gy wc.heap.size with q | q
          · exact q
          · rw [World.cell?, Array.getElem?_eq_none q] at hy0; cases hy0
        have hd2 : Below wc.heap.size wc wc.drew := (Below.refl _ _).drew
        have KE2 : Hid (∀ W', Below wc.heap.size wc W' → W'.cell? ⟨W.heap.size + 1, k, none⟩ = some (.pointer p) ∧ W'.cell? ⟨gy, 0, none⟩ = some (.string ⟨#[]⟩) ∧ W'.cell? ⟨w.heap.size, 0, none⟩ = some (.string x.m.k) ∧ W'.cell? ⟨w.heap.size, 1, none⟩ = some (.int .u64 (x.m.s : Int)) ∧ W'.cell? ⟨w.heap.size, 2, none⟩ = some (.bool x.m.g) ∧ W'.cell? ⟨w.heap.size, 3, none⟩ = some (.string x.x)) := fun W' hb' => by
          obtain ⟨h1, h2⟩ := KE.out W' (hbc.trans (hb'.mono hbc.size))
          exact ⟨h1, (hb'.cell (p := ⟨gy, 0, none⟩) hgy).trans hy0, h2⟩
        have HNP : Hid (∀ W', Below wc.heap.size wc W' → TNo W' p) := fun W' hb' => HP.out.below (hbc.trans (hb'.mono hbc.size))
        have G1 : Hid (∀ W', Below wc.heap.size wc W' → Calls Try.prog 22 #[.pointer p, .agg #[.string x.m.k, .int .u64 (x.m.s : Int), .bool x.m.g, .string x.x], .int .i64 m] W' fun e w' => e = .returned (.int .i64 2) ∧ Below W'.heap.size W' w') := fun W' hb' => put_tno (HNP.out W' hb') x m
        have G2 : Hid (∀ W', Below wc.heap.size wc W' → Calls Try.prog 23 #[.pointer p, .agg #[.string x.m.k, .int .u64 (x.m.s : Int), .bool x.m.g], .int .i64 m] W' fun e w' => e = .returned (.slice none 0 0) ∧ Below W'.heap.size W' w') := fun W' hb' => list_tno (HNP.out W' hb') x.m m
        have G3 : Hid (∀ W', Below wc.heap.size wc W' → Calls Try.prog 24 #[.pointer p] W' fun e w' => e = .returned (.int .i64 0) ∧ W' = w') := fun W' hb' => bytes_tno (HNP.out W' hb')
        have G4 : Hid (∀ W', Below wc.heap.size wc W' → Calls Try.prog 25 #[.pointer p] W' fun e w' => e = .returned (.int .i64 0) ∧ W' = w') := fun W' hb' => len_tno (HNP.out W' hb')
        have HB3 := Lib.hid (HWB.out.trans (hbc.mono HWB.out.size))
        have HT3 := Lib.hid (HT.out.below hbc)
        clear hbc hy0 KE HG YB HP HNP hd0 hd1
        go_wp2_with fail
        go_region_held3 (fun W' => W'.cell? ⟨W.heap.size + 1, k, none⟩ = some (.pointer p) ∧ W'.cell? ⟨gy, 0, none⟩ = some (.string ⟨#[]⟩) ∧ W'.cell? ⟨w.heap.size, 0, none⟩ = some (.string x.m.k) ∧ W'.cell? ⟨w.heap.size, 1, none⟩ = some (.int .u64 (x.m.s : Int)) ∧ W'.cell? ⟨w.heap.size, 2, none⟩ = some (.bool x.m.g) ∧ W'.cell? ⟨w.heap.size, 3, none⟩ = some (.string x.x))
          (first | exact KE2.out _ hd2 | exact KE2.out _ hb4 | exact KE2.out _ hb5)
          (first
            | (go_at_call 22; refine (G1.out _ hd2).mono ?_; rintro e w4 ⟨rfl, hb4'⟩; have hb4 := hd2.trans (hb4'.mono hd2.size))
            | (go_at_call 23; refine (G2.out _ hb4).mono ?_; rintro e w5 ⟨rfl, hb5'⟩; have hb5 := hb4.trans (hb5'.mono hb4.size))
            | (go_at_call 24; refine (G3.out _ hb5).mono ?_; rintro e w6 ⟨rfl, rfl⟩)
            | (go_at_call 25; refine (G4.out _ hb5).mono ?_; rintro e w7 ⟨rfl, rfl⟩)
            | fail)
        go_wp2_with fail
        go_roundg (2 - (k + 1))
        case measure => omega
        case rel => exact ⟨k + 1, by omega, rfl, by go_num, HB3.out.trans (hb5.mono HB3.out.size), HT3.out.below hb5⟩
    · obtain rfl : k = 2 := by omega
      have HF := Lib.hid (HB.out.trans (hb.mono HB.out.size))
      clear hb htw
      go_wp2
      go_ret
      exact ⟨rfl, HF.out⟩
end Go.Proofs.Ytopcnlophmplgaa
