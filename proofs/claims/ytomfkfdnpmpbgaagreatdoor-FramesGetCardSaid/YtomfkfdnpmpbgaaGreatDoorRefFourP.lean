/-
  The document's own PutFour.
-/
import Derived.Test.YtomfkfdnpmpbgaaGreatDoorFourP
namespace Go.Proofs.YtomfkfdnpmpbgaaGreatDoor
open Go.RowKit
set_option linter.unusedVariables false

set_option maxRecDepth 100000 in
set_option maxHeartbeats 2000000 in
theorem ref_putFour (A : Option Addr) (n c k : Nat) (l : List UInt8) (w : World) (h1 : Lies w w.heap.size 1 A n (l.map bv)) (hk : k < 4294967296) (hs : n ≤ 549755813888) :
    Calls Tryz.prog 16 #[.slice A n c, .int .u32 (k : Int)] w fun e w' => ∃ v, e = .returned v ∧ w'.ownsRow w.heap.size 5 1 v (n + 4) ((l ++ four k).map bv) ∧ Below w.heap.size w w' := by
  obtain ⟨i0, hi, hz0, hz1, hz2⟩ := info_parts byte_info
  have b1 := bv_ofNat (k / 16777216) (by omega)
  have b2 := bv_ofNat (k / 65536 % 256) (by omega)
  have b3 := bv_ofNat (k / 256 % 256) (by omega)
  have b4 := bv_ofNat (k % 256) (by omega)
  have HF : Hid ((four k).map bv = [.int .u8 ((k / 16777216 : Nat) : Int), .int .u8 ((k / 65536 % 256 : Nat) : Int), .int .u8 ((k / 256 % 256 : Nat) : Int), .int .u8 ((k % 256 : Nat) : Int)]) := by
    unfold Hid four
    simp only [List.map_cons, List.map_nil, b1, b2, b3, b4]
  have HONE := Lib.hid (bv_one (four k))
  clear b1 b2 b3 b4
  obtain ⟨y1, e1⟩ : ∃ y, k / 16777216 = y := ⟨_, rfl⟩
  obtain ⟨y2, e2⟩ : ∃ y, k / 65536 % 256 = y := ⟨_, rfl⟩
  obtain ⟨y3, e3⟩ : ∃ y, k / 256 % 256 = y := ⟨_, rfl⟩
  obtain ⟨y4, e4⟩ : ∃ y, k % 256 = y := ⟨_, rfl⟩
  have x1 : (k : Int) / 16777216 = (y1 : Int) := by omega
  have x2 : (k : Int) / 65536 % 256 = (y2 : Int) := by omega
  have x3 : (k : Int) / 256 % 256 = (y3 : Int) := by omega
  have x4 : (k : Int) % 256 = (y4 : Int) := by omega
  rw [e1, e2, e3, e4] at HF
  clear e1 e2 e3 e4
  go_enter Tryz.func16, Tryz.ntmps16
  go_wp2_with (at_builtin; refine wpList_app _ rfl (.const (.slice none 0 0)) (.tmp 5) 22 rfl w.heap.size 5 i0 _ 1 1 Tryz.underlying22 hi hz0 hz1 hz2 rfl (by decide) (.slice none 0 0) 0 [] rfl (World.ownsRow_nil _ _ _ _) w.heap.size A n c (l.map bv) rfl h1 (bv_one l) (by unfold maxLen; omega) (by omega) (Nat.le_refl _) ?_)
  intro v1 w1 hown1 hg1 _
  have hb1 : Below w.heap.size w w1 := (Below.refl _ _).grown hg1 (Nat.le_refl _) (by simp [Value.ownBlock])
  have hown1' : w1.ownsRow w.heap.size 5 1 v1 n (l.map bv) := by simpa using hown1
  have hbs := hb1.size
  clear hown1 hg1 h1
  have L4 := lits_lie (w := w1) rfl ((four k).map bv) 5
  rw [HF.out] at L4
  rw [HF.out] at HONE
  obtain ⟨A1, c1, rfl, hnc1, hcm1, _⟩ := own_shape hown1'
  go_wp2_with (at_builtin; refine wpList_app _ rfl (.tmp 6) (.tmp 18) 22 rfl w.heap.size 5 i0 _ 1 1 Tryz.underlying22 hi hz0 hz1 hz2 rfl (by decide) (.slice A1 n c1) n (l.map bv) rfl (hown1'.alloc _) (w1.heap.size + 1) (some ⟨w1.heap.size, 0, none⟩) 4 4 _ rfl L4 HONE.out (by unfold maxLen; omega) (by omega) (by simp; omega) ?_)
  intro v2 w2 hown2 hg2 _
  have hb2 : Below w.heap.size w w2 := (hb1.alloc hbs _).grown hg2 (by simp; omega) (fun j hj => (hown1'.lt j hj).1)
  have hown3 : w2.ownsRow w.heap.size 5 1 v2 (n + 4) ((l ++ four k).map bv) := by rw [List.map_append, HF.out]; exact hown2
  clear hown2 hg2 hown1' L4
  go_wp2
  go_ret
  exact ⟨_, rfl, hown3, hb2⟩

end Go.Proofs.YtomfkfdnpmpbgaaGreatDoor
