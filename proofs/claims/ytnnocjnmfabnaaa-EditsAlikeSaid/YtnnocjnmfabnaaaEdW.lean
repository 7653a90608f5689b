/-
  Package edits: Get.
-/
import Derived.Test.YtnnocjnmfabnaaaEdV
namespace Go.Proofs.Ytnnocjnmfabnaaa
open Go.RowKit
set_option linter.unusedVariables false
set_option maxRecDepth 100000

/-- what Get answers -/
def SGetE (w : World) (b : List UInt8) (e : Ending) (w' : World) : Prop :=
  Below w.heap.size w w' ∧ (∀ x, gotEd b = some x → ∃ A1 n1 c1 A2 n2 c2, e = .returned (.tuple #[.agg #[.slice A1 n1 c1, .slice A2 n2 c2, .int .u32 (x.jn : Int), .int .u32 (x.nx : Int), .int .u64 (x.sq : Int)], .int .i64 0]) ∧
      n1 ≤ b.length ∧ n2 ≤ b.length ∧ w'.ownsRow w.heap.size 37 4 (.slice A1 n1 c1) n1 (fcs x.add) ∧ w'.ownsRow w.heap.size 24 1 (.slice A2 n2 c2) n2 (kvs x.rem)) ∧
    (gotEd b = none → e = .returned (.tuple #[.agg #[.slice none 0 0, .slice none 0 0, .int .u32 0, .int .u32 0, .int .u64 0], .int .i64 4]))

set_option maxHeartbeats 8000000 in
theorem edGet_any (A : Option Addr) (n c : Nat) (b : List UInt8) (w : World) (h : Lies w w.heap.size 1 A n (b.map bv)) (hnc : n ≤ c) (hc : c ≤ maxLen) (hn : n ≤ 100000) :
    Calls Try.prog 11 #[.slice A n c] w (SGetE w b) := by
  have hbl := h.blen
  have hb1 : Below w.heap.size w (w.alloc (.cells zE 27)) := (Below.refl _ _).alloc (Nat.le_refl _) _
  have hx1 := heap_alloc_new w (.cells zE 27)
  have hs1 : (w.alloc (.cells zE 27)).heap.size = w.heap.size + 1 := by simp
  obtain ⟨W1, hW1⟩ : ∃ W, w.alloc (.cells zE 27) = W := ⟨_, rfl⟩
  rw [hW1] at hb1 hx1 hs1
  have hbz : Below w.heap.size w (W1.alloc (.cells #[.slice none 0 0, .bool false] 54)) := hb1.alloc hb1.size _
  have hxz := heap_alloc_new W1 (.cells #[.slice none 0 0, .bool false] 54)
  have hxz1 : (W1.alloc (.cells #[.slice none 0 0, .bool false] 54)).heap[w.heap.size]? = some (.cells zE 27 (0, 0)) := (Below.heap_alloc W1 _ _ (by omega)).trans hx1
  have hsz : (W1.alloc (.cells #[.slice none 0 0, .bool false] 54)).heap.size = w.heap.size + 2 := by simp [hs1]
  obtain ⟨Wz, hWz⟩ : ∃ W, W1.alloc (.cells #[.slice none 0 0, .bool false] 54) = W := ⟨_, rfl⟩
  rw [hWz] at hbz hxz hxz1 hsz
  rw [hs1] at hxz
  have z0 : Wz.cell? ⟨w.heap.size + 1, 0, none⟩ = some (.slice none 0 0) := cell_of_row Wz _ 0 _ _ (0, 0) hxz
  have z1 : Wz.cell? ⟨w.heap.size + 1, 1, none⟩ = some (.bool false) := cell_of_row Wz _ 1 _ _ (0, 0) hxz
  have f0 : Wz.frozen? ⟨w.heap.size + 1, 0, none⟩ = false := by simp [World.frozen?, hxz]
  have f1 : Wz.frozen? ⟨w.heap.size + 1, 1, none⟩ = false := by simp [World.frozen?, hxz]
  have st : ∀ {W : World} {k : Nat} {l : List Value} (v : Value), W.heap[w.heap.size + 1]? = some (.cells l.toArray 54 (0, 0)) → (W.setCell ⟨w.heap.size + 1, k, none⟩ v).heap[w.heap.size + 1]? = some (.cells (l.set k v).toArray 54 (0, 0)) := fun v h => by
    have := h
    simp [World.setCell, Array.getElem?_modify, h]
  have hx2 : ((Wz.setCell ⟨w.heap.size + 1, 0, none⟩ (.slice A n c)).setCell ⟨w.heap.size + 1, 1, none⟩ (.bool false)).heap[w.heap.size + 1]? = some (.cells #[.slice A n c, .bool false] 54 (0, 0)) := st (.bool false) (st (l := [.slice none 0 0, .bool false]) (.slice A n c) hxz)
  have hb2 : Below w.heap.size w ((Wz.setCell ⟨w.heap.size + 1, 0, none⟩ (.slice A n c)).setCell ⟨w.heap.size + 1, 1, none⟩ (.bool false)) := (hbz.setCell (p := ⟨w.heap.size + 1, 0, none⟩) (by show w.heap.size ≤ w.heap.size + 1; omega) _).setCell (p := ⟨w.heap.size + 1, 1, none⟩) (by show w.heap.size ≤ w.heap.size + 1; omega) _
  have hx12 : ((Wz.setCell ⟨w.heap.size + 1, 0, none⟩ (.slice A n c)).setCell ⟨w.heap.size + 1, 1, none⟩ (.bool false)).heap[w.heap.size]? = some (.cells zE 27 (0, 0)) := (Below.heap_setCell _ ⟨w.heap.size + 1, 1, none⟩ _ _ (by show w.heap.size ≠ w.heap.size + 1; omega)).trans ((Below.heap_setCell _ ⟨w.heap.size + 1, 0, none⟩ _ _ (by show w.heap.size ≠ w.heap.size + 1; omega)).trans hxz1)
  have hs2 : ((Wz.setCell ⟨w.heap.size + 1, 0, none⟩ (.slice A n c)).setCell ⟨w.heap.size + 1, 1, none⟩ (.bool false)).heap.size = w.heap.size + 2 := by simp [World.setCell, hsz]
  obtain ⟨W2, hW2⟩ : ∃ W, (Wz.setCell ⟨w.heap.size + 1, 0, none⟩ (.slice A n c)).setCell ⟨w.heap.size + 1, 1, none⟩ (.bool false) = W := ⟨_, rfl⟩
  rw [hW2] at hb2 hx2 hx12 hs2
  obtain ⟨B, hB⟩ : ∃ B, w.heap.size = B := ⟨_, rfl⟩
  have HB := Lib.hid hB
  rw [hB] at h hb2 hx12 hx2 hs1 hs2 z0 z1 f0 f1 hW2
  have hE : ER W2 B (B + 1) (b, false) A n c := ⟨hx2, h.below hb2, hnc, hc, by omega⟩
  have HC := Lib.hid (eedit_any B (B + 1) n c (b, false) A W2 hE hn)
  have HB2 := Lib.hid hb2; have HX := Lib.hid hx12; have HS2 := Lib.hid hs2
  have HGt : Hid (gotEd b = if (rdE5 (b, false)).2 = true ∨ (rdE5 (b, false)).1 ≠ [] then none else some (rdEd (b, false))) := rfl
  obtain ⟨X, hX⟩ : ∃ x, rdEd (b, false) = x := ⟨_, rfl⟩
  obtain ⟨⟨l5, bad⟩, h5⟩ : ∃ x, rdE5 (b, false) = x := ⟨_, rfl⟩
  unfold SEd at HC
  rw [hX, h5] at HC HGt
  dsimp only at HC HGt
  have HBl := Lib.hid hbl
  clear h hb1 hx1 hb2 hx2 hx12 hE hX h5 hbl hs2 hbz hxz hxz1 hsz st
  go_enter Try.func11, Try.ntmps11
  go_wp2_with fail
  clear hW1 hWz hW2 z0 z1 f0 f1
  with_reducible refine Calls.mono HC.out ?_
  rintro e w3 ⟨A1, n1, c1, A2, n2, c2, rfl, hn1, hn2, ho1, ho2, ⟨A5, n5, c5, hr⟩, hg⟩
  have hb4 : Below w3.heap.size w3 (w3.alloc (.cells #[.slice A1 n1 c1, .slice A2 n2 c2, .int .u32 (X.jn : Int), .int .u32 (X.nx : Int), .int .u64 (X.sq : Int)] 27)) := (Below.refl _ _).alloc (Nat.le_refl _) _
  have hx4 := heap_alloc_new w3 (.cells #[.slice A1 n1 c1, .slice A2 n2 c2, .int .u32 (X.jn : Int), .int .u32 (X.nx : Int), .int .u64 (X.sq : Int)] 27)
  have hx3 : w3.heap[B]? = some (.cells zE 27 (0, 0)) := (hg.block B (by have := HS2.out; omega) (by simp)).trans HX.out
  have hlt3 : B < w3.heap.size := (Array.getElem?_eq_some_iff.1 hx3).1
  have hxb := (hb4.block B hlt3).trans hx3
  have hr4 := hr.below hb4
  have o1 := own_below ho1 hb4
  have o2 := own_below ho2 hb4
  have g4 := gro_trans hg (grE_below hb4 (some (B + 1)))
  obtain ⟨B5, hB5⟩ : ∃ B, w3.heap.size = B := ⟨_, rfl⟩
  rw [hB5] at hx4 hlt3
  obtain ⟨W4, hW4⟩ : ∃ W, w3.alloc (.cells #[.slice A1 n1 c1, .slice A2 n2 c2, .int .u32 (X.jn : Int), .int .u32 (X.nx : Int), .int .u64 (X.sq : Int)] 27) = W := ⟨_, rfl⟩
  rw [hW4] at hx4 hxb hr4 o1 o2 g4
  have k0 := hr4.c0; have k1 := hr4.c1
  dsimp only at k1
  have hl5 : l5.length = n5 := hr4.len
  have p0 : W4.cell? ⟨B5, 0, none⟩ = some (.slice A1 n1 c1) := cell_of_row W4 _ 0 _ _ (0, 0) hx4
  have p1 : W4.cell? ⟨B5, 1, none⟩ = some (.slice A2 n2 c2) := cell_of_row W4 _ 1 _ _ (0, 0) hx4
  have p2 : W4.cell? ⟨B5, 2, none⟩ = some (.int .u32 (X.jn : Int)) := cell_of_row W4 _ 2 _ _ (0, 0) hx4
  have p3 : W4.cell? ⟨B5, 3, none⟩ = some (.int .u32 (X.nx : Int)) := cell_of_row W4 _ 3 _ _ (0, 0) hx4
  have p4 : W4.cell? ⟨B5, 4, none⟩ = some (.int .u64 (X.sq : Int)) := cell_of_row W4 _ 4 _ _ (0, 0) hx4
  unfold zE at hxb
  have x0 : W4.cell? ⟨B, 0, none⟩ = some (.slice none 0 0) := cell_of_row W4 _ 0 _ _ (0, 0) hxb
  have x1 : W4.cell? ⟨B, 1, none⟩ = some (.slice none 0 0) := cell_of_row W4 _ 1 _ _ (0, 0) hxb
  have x2 : W4.cell? ⟨B, 2, none⟩ = some (.int .u32 0) := cell_of_row W4 _ 2 _ _ (0, 0) hxb
  have x3 : W4.cell? ⟨B, 3, none⟩ = some (.int .u32 0) := cell_of_row W4 _ 3 _ _ (0, 0) hxb
  have x4 : W4.cell? ⟨B, 4, none⟩ = some (.int .u64 0) := cell_of_row W4 _ 4 _ _ (0, 0) hxb
  have g0 : W4.frozen? ⟨B, 0, none⟩ = false := by simp [World.frozen?, hxb]
  have g1 : W4.frozen? ⟨B, 1, none⟩ = false := by simp [World.frozen?, hxb]
  have g2 : W4.frozen? ⟨B, 2, none⟩ = false := by simp [World.frozen?, hxb]
  have g3 : W4.frozen? ⟨B, 3, none⟩ = false := by simp [World.frozen?, hxb]
  have g4' : W4.frozen? ⟨B, 4, none⟩ = false := by simp [World.frozen?, hxb]
  have HSet := Lib.hid (fun u0 u1 u2 u3 u4 => five_setE (g := B) hxb (Nat.le_refl _) u0 u1 u2 u3 u4)
  have HO : Hid (W4.ownsRow (B + 2) 37 4 (.slice A1 n1 c1) n1 (fcs X.add) ∧ W4.ownsRow (B + 2) 24 1 (.slice A2 n2 c2) n2 (kvs X.rem)) := by rw [HS2.out] at o1 o2; exact ⟨o1, o2⟩
  have HBel : Hid (Below B w W4) := HB2.out.trans ⟨g4.os, g4.tape, g4.output, g4.size, fun k hk => g4.block k (by have := HS2.out; omega) (by simp; omega)⟩
  have HNo : Hid (bad = true ∨ 0 < n5 → gotEd b = none) := fun q => by
    rw [HGt.out, if_pos]
    rcases q with q | q
    · exact .inl q
    · exact .inr fun e => by rw [e] at hl5; simp at hl5; omega
  have HYes : Hid (bad = false → n5 = 0 → gotEd b = some X) := fun q1 q2 => by
    rw [HGt.out, if_neg]
    rintro (q | q)
    · rw [q1] at q; cases q
    · exact q (List.eq_nil_of_length_eq_zero (by omega))
  have HNn : Hid (n1 ≤ b.length ∧ n2 ≤ b.length) := ⟨hn1, hn2⟩
  clear hn1 hn2 ho1 ho2 hr hg hb4 hx4 hx3 hlt3 hr4 o1 o2 g4 hl5 hxb HC
  by_cases hbad : bad = true ∨ 0 < n5
  · have HNn2 := Lib.hid (HNo.out hbad)
    obtain ⟨hf8, hg8⟩ := HSet.out (.slice none 0 0) (.slice none 0 0) (.int .u32 0) (.int .u32 0) (.int .u64 0)
    obtain ⟨W8, hW8⟩ : ∃ W, ((((W4.setCell ⟨B, 0, none⟩ (.slice none 0 0)).setCell ⟨B, 1, none⟩ (.slice none 0 0)).setCell ⟨B, 2, none⟩ (.int .u32 0)).setCell ⟨B, 3, none⟩ (.int .u32 0)).setCell ⟨B, 4, none⟩ (.int .u64 0) = W := ⟨_, rfl⟩
    rw [hW8] at hf8 hg8
    have u0 : W8.cell? ⟨B, 0, none⟩ = some (.slice none 0 0) := cell_of_row W8 _ 0 _ _ (0, 0) hf8
    have u1 : W8.cell? ⟨B, 1, none⟩ = some (.slice none 0 0) := cell_of_row W8 _ 1 _ _ (0, 0) hf8
    have u2 : W8.cell? ⟨B, 2, none⟩ = some (.int .u32 0) := cell_of_row W8 _ 2 _ _ (0, 0) hf8
    have u3 : W8.cell? ⟨B, 3, none⟩ = some (.int .u32 0) := cell_of_row W8 _ 3 _ _ (0, 0) hf8
    have u4 : W8.cell? ⟨B, 4, none⟩ = some (.int .u64 0) := cell_of_row W8 _ 4 _ _ (0, 0) hf8
    have HF : Hid (SGetE w b (.returned (.tuple #[.agg #[.slice none 0 0, .slice none 0 0, .int .u32 0, .int .u32 0, .int .u64 0], .int .i64 4])) W8) := ⟨by rw [HB.out]; exact HBel.out.trans ⟨hg8.os, hg8.tape, hg8.output, hg8.size, fun k hk => hg8.block k (Nat.lt_of_lt_of_le hk (by have := HBel.out.size; have := HB.out; omega)) (by simp; omega)⟩, (fun x hx => by rw [HNn2.out] at hx; cases hx), fun _ => rfl⟩
    clear hf8 hg8
    cases bad with
    | true =>
      clear hbad
      go_wp2
      clear x0 x1 x2 x3 x4 g0 g1 g2 g3 g4' p0 p1 p2 p3 p4 k0 k1 hW8 hW4
      exact bodyPost_ret (v := .tuple #[.agg #[.slice none 0 0, .slice none 0 0, .int .u32 0, .int .u32 0, .int .u64 0], .int .i64 4]) (by simp [results, Try.results11, go_sem, u0, u1, u2, u3, u4]) rfl HF.out
    | false =>
      have h5 : 0 < n5 := by simpa using hbad
      have h5i : ((n5 : Int) > 0) := by omega
      clear hbad
      go_wp2
      clear x0 x1 x2 x3 x4 g0 g1 g2 g3 g4' p0 p1 p2 p3 p4 k0 k1 hW8 hW4
      exact bodyPost_ret (v := .tuple #[.agg #[.slice none 0 0, .slice none 0 0, .int .u32 0, .int .u32 0, .int .u64 0], .int .i64 4]) (by simp [results, Try.results11, go_sem, u0, u1, u2, u3, u4]) rfl HF.out
  · rw [not_or] at hbad
    obtain ⟨q1, q2⟩ := hbad
    have q1 : bad = false := by simpa using q1
    subst q1
    have q3 : n5 = 0 := by omega
    subst q3
    have HYy := Lib.hid (HYes.out rfl rfl)
    obtain ⟨hf8, hg8⟩ := HSet.out (.slice A1 n1 c1) (.slice A2 n2 c2) (.int .u32 (X.jn : Int)) (.int .u32 (X.nx : Int)) (.int .u64 (X.sq : Int))
    obtain ⟨W8, hW8⟩ : ∃ W, ((((W4.setCell ⟨B, 0, none⟩ (.slice A1 n1 c1)).setCell ⟨B, 1, none⟩ (.slice A2 n2 c2)).setCell ⟨B, 2, none⟩ (.int .u32 (X.jn : Int))).setCell ⟨B, 3, none⟩ (.int .u32 (X.nx : Int))).setCell ⟨B, 4, none⟩ (.int .u64 (X.sq : Int)) = W := ⟨_, rfl⟩
    rw [hW8] at hf8 hg8
    have u0 : W8.cell? ⟨B, 0, none⟩ = some (.slice A1 n1 c1) := cell_of_row W8 _ 0 _ _ (0, 0) hf8
    have u1 : W8.cell? ⟨B, 1, none⟩ = some (.slice A2 n2 c2) := cell_of_row W8 _ 1 _ _ (0, 0) hf8
    have u2 : W8.cell? ⟨B, 2, none⟩ = some (.int .u32 (X.jn : Int)) := cell_of_row W8 _ 2 _ _ (0, 0) hf8
    have u3 : W8.cell? ⟨B, 3, none⟩ = some (.int .u32 (X.nx : Int)) := cell_of_row W8 _ 3 _ _ (0, 0) hf8
    have u4 : W8.cell? ⟨B, 4, none⟩ = some (.int .u64 (X.sq : Int)) := cell_of_row W8 _ 4 _ _ (0, 0) hf8
    have HF : Hid (SGetE w b (.returned (.tuple #[.agg #[.slice A1 n1 c1, .slice A2 n2 c2, .int .u32 (X.jn : Int), .int .u32 (X.nx : Int), .int .u64 (X.sq : Int)], .int .i64 0])) W8) := ⟨by rw [HB.out]; exact HBel.out.trans ⟨hg8.os, hg8.tape, hg8.output, hg8.size, fun k hk => hg8.block k (Nat.lt_of_lt_of_le hk (by have := HBel.out.size; have := HB.out; omega)) (by simp; omega)⟩, (fun x hx => by
      rw [HYy.out] at hx
      injection hx with hx
      subst hx
      refine ⟨A1, n1, c1, A2, n2, c2, rfl, HNn.out.1, HNn.out.2, ?_, ?_⟩
      · rw [HB.out]; exact own_base (own_gr HO.out.1 hg8 (by omega)) (by omega)
      · rw [HB.out]; exact own_base (own_gr HO.out.2 hg8 (by omega)) (by omega)), fun q => by rw [HYy.out] at q; cases q⟩
    clear hf8 hg8 q2
    go_wp2
    clear x0 x1 x2 x3 x4 g0 g1 g2 g3 g4' p0 p1 p2 p3 p4 k0 k1 hW8 hW4
    exact bodyPost_ret (v := .tuple #[.agg #[.slice A1 n1 c1, .slice A2 n2 c2, .int .u32 (X.jn : Int), .int .u32 (X.nx : Int), .int .u64 (X.sq : Int)], .int .i64 0]) (by simp [results, Try.results11, go_sem, u0, u1, u2, u3, u4]) rfl HF.out
end Go.Proofs.Ytnnocjnmfabnaaa
