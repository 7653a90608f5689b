/-
  Contracts of package blooms: setAll, hasAll.
-/
import Derived.Test.YtjnmckchicmmgaaGreatDoorBlmA
namespace Go.Proofs.YtjnmckchicmmgaaGreatDoor
open Go.RowKit
set_option linter.unusedVariables false
set_option maxRecDepth 100000

/-- a probe in a box -/
def PBox (w : World) (g : Nat) (s : List UInt8) : Prop := w.heap[g]? = some (.cells #[nv (Blm.x1 s), nv (Blm.y1 s)] 55 (0, 0))
theorem PBox.lt {w : World} {g : Nat} {s : List UInt8} (h : PBox w g s) : g < w.heap.size := (Array.getElem?_eq_some_iff.1 h).1
theorem PBox.new (w : World) (s : List UInt8) : PBox (w.alloc (.cells #[nv (Blm.x1 s), nv (Blm.y1 s)] 55)) w.heap.size s := heap_alloc_new w _
theorem PBox.below {w w' : World} {g B : Nat} {s : List UInt8} (h : PBox w g s) (hb : Below B w w') (hg : g < B) : PBox w' g s := (hb.block g hg).trans h
theorem PBox.grown {w w' : World} {g : Nat} {s : List UInt8} {row : Option Nat} (h : PBox w g s) (hb : w.grownBy w' row) (hg : some g ≠ row) : PBox w' g s := (hb.block g h.lt hg).trans h
theorem PBox.c0 {w : World} {g : Nat} {s : List UInt8} (h : PBox w g s) : w.cell? ⟨g, 0, none⟩ = some (nv (Blm.x1 s)) := cell_of_row w g 0 _ _ (0, 0) h
theorem PBox.c1 {w : World} {g : Nat} {s : List UInt8} (h : PBox w g s) : w.cell? ⟨g, 1, none⟩ = some (nv (Blm.y1 s)) := cell_of_row w g 1 _ _ (0, 0) h

/-- one bit more, in a row whose first bytes are bits -/
theorem own_put1 {w : World} {base g n c q : Nat} {b r : List UInt8} (h : w.ownsRow base 5 1 (.slice (some ⟨g, 0, none⟩) n c) n ((b ++ r).map bv)) (hq : q / 8 < b.length) {u : Value}
    (hu : u = .int .u8 (((b.getD (q / 8) 0).toNat ||| 2 ^ (q % 8) : Nat) : Int)) :
    (w.setCell ⟨g, q / 8, none⟩ u).ownsRow base 5 1 (.slice (some ⟨g, 0, none⟩) n c) n ((Blm.put1 b q ++ r).map bv) ∧ w.grownBy (w.setCell ⟨g, q / 8, none⟩ u) (some g) := by
  have h1 := h.stored (q / 8) u
  refine ⟨?_, h1.2⟩
  have h2 := h1.1
  have hx := (b.getD (q / 8) 0).toNat_lt
  have e : ((b ++ r).map bv).set (q / 8) u = (Blm.put1 b q ++ r).map bv := by
    unfold Blm.put1
    have hlt := Blm.or_lt (by simpa using hx : (b.getD (q / 8) 0).toNat < 256) (q % 8) (Nat.mod_lt _ (by omega))
    have e1 : u = bv (UInt8.ofNat ((b.getD (q / 8) 0).toNat ||| 2 ^ (q % 8))) := by rw [bv_ofNat _ hlt, hu]
    rw [← List.set_append_left _ _ hq, List.map_set, ← e1]
  rw [e] at h2
  exact h2

set_option maxHeartbeats 2000000 in
theorem setAll_any (base g n c m : Nat) (b r s : List UInt8) (w : World) (h : w.ownsRow base 5 1 (.slice (some ⟨g, 0, none⟩) n c) n ((b ++ r).map bv)) (hbm : b.length = m) (h0 : 0 < m) (hm : m ≤ 1099511627776) :
    Calls Tryz.prog 15 #[.slice (some ⟨g, 0, none⟩) m m, prb s] w fun e w' => e = .returned (.tuple #[]) ∧ w'.ownsRow base 5 1 (.slice (some ⟨g, 0, none⟩) n c) n ((Blm.putK b s 6 ++ r).map bv) ∧ w.grownBy w' (some g) := by
  have hgl : g < w.heap.size := by
    rcases h.2 with ⟨hv, _⟩ | ⟨g', cap, cur, hv, _, hh, _⟩
    · cases hv
    · injection hv with h1 _ _; injection h1 with h1; injection h1 with h1; subst h1; exact (Array.getElem?_eq_some_iff.1 hh).1
  have HH := Lib.hid (h.alloc (.cells #[nv (Blm.x1 s), nv (Blm.y1 s)] 55))
  have HP := Lib.hid (PBox.new w s)
  have HG := Lib.hid (World.grownBy_alloc w (.cells #[nv (Blm.x1 s), nv (Blm.y1 s)] 55) (some g))
  have HBM := Lib.hid hbm
  have hne : w.heap.size ≠ g := by omega
  clear h hbm
  go_enter Tryz.func15, Tryz.ntmps15
  go_upto_region 1 with fail
  obtain ⟨W, hW⟩ : ∃ W, w.alloc (.cells #[nv (Blm.x1 s), nv (Blm.y1 s)] 55) = W := ⟨_, rfl⟩
  rw [hW] at HH HP HG ⊢
  clear hW
  obtain ⟨B, hB⟩ : ∃ B, w.heap.size = B := ⟨_, rfl⟩
  rw [hB] at HP hne ⊢
  clear hB hgl
  have R0 : Hid (∃ k : Nat, k ≤ 6 ∧ (Value.int .u32 0) = .int .u32 (k : Int) ∧ W.ownsRow base 5 1 (.slice (some ⟨g, 0, none⟩) n c) n ((Blm.putK b s k ++ r).map bv) ∧ PBox W B s ∧ W.grownBy W (some g)) := ⟨0, Nat.zero_le _, rfl, HH.out, HP.out, World.grownBy.refl _ _⟩
  clear HH HP
  go_wp2
  go_loopw [7] (fun i wr => ∃ k : Nat, k ≤ 6 ∧ i = .int .u32 (k : Int) ∧ wr.ownsRow base 5 1 (.slice (some ⟨g, 0, none⟩) n c) n ((Blm.putK b s k ++ r).map bv) ∧ PBox wr B s ∧ W.grownBy wr (some g)) (fun i _ => 6 - (intOf i).toNat)
  case atStart => exact R0.out
  case round =>
    clear R0
    obtain ⟨k, hk, rfl, hown, hP, hg⟩ := hrel
    have HOW := Lib.hid hown; have HPB := Lib.hid hP; have HGR := Lib.hid hg
    by_cases hlt : k < 6
    · have p0 := hP.c0
      have p1 := hP.c1
      have hpl := hP.lt
      clear hown hP hg
      have HBT := Lib.hid (bit_any s k (some ⟨g, 0, none⟩) m m wr hlt h0 (by omega))
      obtain ⟨q, hq⟩ : ∃ q, Blm.pos s (8 * m) k = q := ⟨_, rfl⟩
      have hql : q < 8 * m := by rw [← hq]; exact Blm.pos_lt s (by omega) k
      rw [hq] at HBT
      have HNX : Hid (Blm.putK b s (k + 1) = Blm.put1 (Blm.putK b s k) q) := by
        show Blm.put1 _ _ = _
        rw [HBM.out, hq]
      have HL : Hid ((Blm.putK b s k).length = m) := by rw [Hid, Blm.putK_len, HBM.out]
      clear hq
      generalize Blm.putK b s k = bk at *
      obtain ⟨d, hd⟩ : ∃ d, q / 8 = d := ⟨_, rfl⟩
      have hdl : d < m := by omega
      obtain ⟨M, hM⟩ : ∃ M, 2 ^ (q % 8) = M := ⟨_, rfl⟩
      have hMl : M < 256 := by rw [← hM]; exact Blm.pow_lt (Nat.mod_lt _ (by omega))
      obtain ⟨x, hx⟩ : ∃ x : UInt8, bk[d]? = some x := ⟨_, List.getElem?_eq_getElem (by have := HL.out; omega)⟩
      have hxl := x.toNat_lt
      have hor := u8_or_nat x.toNat M hxl hMl
      have HPUT : Hid (∀ w1 : World, w1.ownsRow base 5 1 (.slice (some ⟨g, 0, none⟩) n c) n ((bk ++ r).map bv) → (w1.setCell ⟨g, d, none⟩ (.int .u8 ((x.toNat ||| M : Nat) : Int))).ownsRow base 5 1 (.slice (some ⟨g, 0, none⟩) n c) n ((Blm.putK b s (k + 1) ++ r).map bv) ∧ w1.grownBy (w1.setCell ⟨g, d, none⟩ (.int .u8 ((x.toNat ||| M : Nat) : Int))) (some g)) := fun w1 ho => by
        rw [HNX.out, ← hd, ← hM]
        refine own_put1 ho (by have := HL.out; omega) ?_
        rw [List.getD_eq_getElem?_getD, hd, hx]; rfl
      have HX : Hid (∀ w1 : World, w1.ownsRow base 5 1 (.slice (some ⟨g, 0, none⟩) n c) n ((bk ++ r).map bv) → w1.cell? ⟨g, d, none⟩ = some (.int .u8 (x.toNat : Int))) := fun w1 ho => by
        have hn : d < n := by
          have h2 := ho.1
          have h3 := HL.out
          simp at h2
          omega
        rw [ho.cellAt d (by omega), List.getElem?_map, List.getElem?_append_left (by have := HL.out; omega), hx]; rfl
      rw [hd, hM] at HBT
      clear HNX hd hM hx
      generalize x.toNat = xn at *
      generalize xn ||| M = nw at *
      go_wp2_with fail
      refine HBT.out.mono ?_
      rintro e w1 ⟨rfl, hb1⟩
      have ho1 := own_below HOW.out hb1
      have hc := HX.out w1 ho1
      have hf := ho1.frozenAt d
      have hput := HPUT.out w1 ho1
      have hg1 : W.grownBy w1 (some g) := HGR.out.trans ⟨hb1.os, hb1.tape, hb1.output, hb1.size, fun j hj _ => hb1.block j hj⟩
      have R : Hid (∃ k' : Nat, k' ≤ 6 ∧ (Value.int .u32 ((k : Int) + 1)) = .int .u32 (k' : Int) ∧ (w1.setCell ⟨g, d, none⟩ (.int .u8 (nw : Int))).ownsRow base 5 1 (.slice (some ⟨g, 0, none⟩) n c) n ((Blm.putK b s k' ++ r).map bv) ∧ PBox (w1.setCell ⟨g, d, none⟩ (.int .u8 (nw : Int))) B s ∧ W.grownBy (w1.setCell ⟨g, d, none⟩ (.int .u8 (nw : Int))) (some g)) :=
        ⟨k + 1, hlt, by simp, hput.1, (HPB.out.below hb1 hpl).grown hput.2 (by intro e; injection e with e; exact hne e), hg1.trans hput.2⟩
      clear ho1 hput hg1 HPUT HX HBT p0 p1 hb1
      go_wp2
      go_roundw
      case rel => exact R.out
      case measure => simp [intOf]; omega
    · obtain rfl : k = 6 := by omega
      clear hown hP hg
      have HF := Lib.hid (HG.out.trans HGR.out)
      go_wp2
      go_end0
      exact ⟨rfl, HOW.out, HF.out⟩

end Go.Proofs.YtjnmckchicmmgaaGreatDoor
