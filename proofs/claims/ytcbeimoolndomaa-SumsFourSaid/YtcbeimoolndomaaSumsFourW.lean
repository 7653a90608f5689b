/-
  The walk of SumsFour.
-/
import Derived.Test.YtcbeimoolndomaaLaw2B
import Derived.Test.YtcbeimoolndomaaStr
import Derived.Deep.RegionWith
namespace Go.Proofs.Ytcbeimoolndomaa
open Go.RowKit
set_option linter.unusedVariables false

set_option maxHeartbeats 4000000 in
set_option maxRecDepth 100000 in
theorem sumsFour_walk (A : Option Addr) (n c : Nat) (b : List UInt8) (l : List UInt8) (kn : Nat) (w : World) (L : Lies w w.heap.size 1 A n (b.map bv)) (hnc : n ≤ c) (hc : c ≤ 140737488351232) (hl : l.length = 8) (hkn : kn < 256) :
    Calls Try.prog 12 #[.slice A n c, .agg (l.map bv).toArray, .int .u8 (kn : Int)] w fun e w' => e = .returned (.bool true) ∧ Below w.heap.size w w' := by
  obtain ⟨O, hO⟩ : ∃ O : Obj, O = .cells (l.map bv).toArray 49 := ⟨_, rfl⟩
  have HL := Lib.hid (L.alloc (Nat.le_refl _) O); clear L
  have HLB : Hid (∀ w', Below (w.alloc O).heap.size (w.alloc O) w' → Below w.heap.size w w') := fun w' h => lit_below w O h
  by_cases hbig : 100000 < n
  · have hg : decide ((100000 : Int) < (n : Int)) = true := by simp; omega
    go_enter Try.func12, Try.ntmps12
    go_wp2_with fail
    rw [← hO]
    refine (alive2_any _).mono ?_
    rintro e w1 ⟨rfl, hb1⟩
    have H1 := Lib.hid (HLB.out _ hb1); clear hb1 hO
    go_wp2_with fail
    refine (alive2_any w1).mono ?_
    rintro e w2 ⟨rfl, hb2⟩
    have H2 := Lib.hid (H1.out.trans (hb2.mono H1.out.size)); clear hb2
    go_wp2
    go_ret
    exact ⟨rfl, H2.out⟩
  · have hg : decide ((100000 : Int) < (n : Int)) = false := by simp; omega
    obtain ⟨k, hk⟩ : ∃ k, k = kn % 5 := ⟨_, rfl⟩
    have hk4 : k ≤ 4 := by omega
    have ek : (kn : Int) % 5 = (k : Int) := by omega
    have hk1 : (0 : Int) ≤ (k : Int) := by omega
    have hk2 : (k : Int) ≤ 4 := by omega
    clear hk
    go_enter Try.func12, Try.ntmps12
    go_wp2_with fail
    rw [← hO]
    refine (alive2_any _).mono ?_
    rintro e w1 ⟨rfl, hb1⟩
    have H1 := Lib.hid (HLB.out _ hb1)
    have hblk : w1.heap[w.heap.size]? = some O := (hb1.block w.heap.size (by simp)).trans (heap_alloc_new w O)
    have HL1 := Lib.hid (HL.out.below (hb1.mono (by simp)))
    clear hb1 HL HLB
    go_wp2_with fail
    refine (table_any w1).mono ?_
    rintro e w2 ⟨rfl, hb2⟩
    have hb2' := H1.out.trans (hb2.mono H1.out.size)
    have HT := Lib.hid (lay_tab w2 Crc.tab)
    have HB := Lib.hid (lay_below hb2' hb2'.size Crc.tab)
    have HA := Lib.hid ((HL1.out.below (hb2.mono H1.out.size)).lay hb2'.size Crc.tab)
    have hlt1 : w.heap.size < w1.heap.size := (Array.getElem?_eq_some_iff.1 hblk).1
    have hblk2 : (lay w2 Crc.tab).heap[w.heap.size]? = some O := (Below.heap_alloc w2 _ w.heap.size (Nat.lt_of_lt_of_le hlt1 hb2.size)).trans ((hb2.block _ hlt1).trans hblk)
    have HO := Lib.hid hblk2
    clear hb2 hb2' H1 HL1 hblk hblk2 hlt1
    go_wp2_with (first
      | refine wpList_lay rfl rfl ?_
      | refine wpList_laid rfl _ _ rfl noughts Crc.tab rfl rfl noughts_len Crc.tab_len ?_)
    generalize hgw : w.heap.size = gw at *
    obtain ⟨g, hg0⟩ : ∃ g, w2.heap.size = g := ⟨_, rfl⟩
    rw [hg0] at HT ⊢
    generalize lay w2 Crc.tab = W at *
    clear hg0
    have hcell : ∀ j, j < 8 → W.cell? ⟨gw, j, none⟩ = (l.map bv)[j]? := fun j hj => by
      have h := HO.out
      rw [hO] at h
      rw [cell_of_row W gw j _ _ (0, 0) h, List.getElem?_toArray]
    have hgl : gw < W.heap.size := (Array.getElem?_eq_some_iff.1 HO.out).1
    have lx : Lies W W.heap.size 1 (some ⟨gw, 0, none⟩) k ((l.take k).map bv) := by
      refine ⟨by simp; omega, fun j hj => ?_⟩
      have hj2 : j < k := by simp at hj; omega
      refine ⟨_, (l.map bv)[j]'(by simp; omega), rfl, hgl, ?_, ?_⟩
      · rw [List.map_take, List.getElem?_take, if_pos hj2, List.getElem?_eq_getElem]
      · rw [add_lit, Nat.zero_add, hcell j (by omega), List.getElem?_eq_getElem]
    have ly : Lies W W.heap.size 1 (some ⟨gw, 4, none⟩) k (((l.drop 4).take k).map bv) := by
      refine ⟨by simp; omega, fun j hj => ?_⟩
      have hj2 : j < k := by simp at hj; omega
      refine ⟨_, (l.map bv)[4 + j]'(by simp; omega), rfl, hgl, ?_, ?_⟩
      · rw [List.map_take, List.getElem?_take, if_pos hj2, List.map_drop, List.getElem?_drop, List.getElem?_eq_getElem]
      · rw [add_lit, hcell (4 + j) (by omega), List.getElem?_eq_getElem]
    obtain ⟨X, hX⟩ : ∃ X, X = l.take k := ⟨_, rfl⟩
    obtain ⟨Y, hY⟩ : ∃ Y, Y = (l.drop 4).take k := ⟨_, rfl⟩
    have hXl : X.length = k := by rw [hX, List.length_take]; omega
    have hYl : Y.length = k := by rw [hY, List.length_take, List.length_drop]; omega
    rw [← hX] at lx
    rw [← hY] at ly
    obtain ⟨sx, hsx⟩ : ∃ s : ByteArray, s = ⟨X.toArray⟩ := ⟨_, rfl⟩
    obtain ⟨sy, hsy⟩ : ∃ s : ByteArray, s = ⟨Y.toArray⟩ := ⟨_, rfl⟩
    have hcx : ∀ N, (convert 26 9 (.slice (some ⟨gw, 0, none⟩) k 4)).run Try.prog (W.drewN N) = .ok (.string sx) (W.drewN N) := fun N => by
      rw [hsx]; exact run_str (W.drewN N) _ _ 5 Try.underlying26 Try.underlying5 Try.underlying9 4 (lx.drewN N)
    have hcy : ∀ N, (convert 26 9 (.slice (some ⟨gw, 4, none⟩) k 4)).run Try.prog (W.drewN N) = .ok (.string sy) (W.drewN N) := fun N => by
      rw [hsy]; exact run_str (W.drewN N) _ _ 5 Try.underlying26 Try.underlying5 Try.underlying9 4 (ly.drewN N)
    refine (of_any g n c _ A b Crc.tab W HT.out Crc.tab_len Crc.small_tab HA.out (by omega)).mono ?_
    rintro e w3 ⟨rfl, rfl⟩
    have hrl := Crc.on_lt Crc.tab 0 b
    generalize Crc.on Crc.tab 0 b = r at hrl ⊢
    have CX : Hid (∀ N, Calls Try.prog 19 #[.pointer (some ⟨g, 0, none⟩), .int .u32 (r : Int), .slice (some ⟨gw, 0, none⟩) k 4] (w3.drewN N) fun e w' => e = .returned (.int .u32 ((Crc.on Crc.tab r X : Nat) : Int)) ∧ w' = w3.drewN N) := fun N =>
      on_any g r k 4 _ _ X Crc.tab (w3.drewN N) (HT.out.drewN N) Crc.tab_len Crc.small_tab hrl (lx.drewN N) (by omega)
    have CY : Hid (∀ N, Calls Try.prog 19 #[.pointer (some ⟨g, 0, none⟩), .int .u32 (r : Int), .slice (some ⟨gw, 4, none⟩) k 4] (w3.drewN N) fun e w' => e = .returned (.int .u32 ((Crc.on Crc.tab r Y : Nat) : Int)) ∧ w' = w3.drewN N) := fun N =>
      on_any g r k 4 _ _ Y Crc.tab (w3.drewN N) (HT.out.drewN N) Crc.tab_len Crc.small_tab hrl (ly.drewN N) (by omega)
    have j1 : Crc.on Crc.tab r X = Crc.on Crc.tab r Y → X = Y := fun h => Crc.on_four r (by omega) (by omega) h
    have j2 : X = Y → Crc.on Crc.tab r X = Crc.on Crc.tab r Y := fun h => by rw [h]
    generalize Crc.on Crc.tab r X = rx at *
    generalize Crc.on Crc.tab r Y = ry at *
    have hfin : ((rx : Int) == (ry : Int)) = (sx.toList == sy.toList) := by
      rw [hsx, hsy, ByteArray.toList_mk, ByteArray.toList_mk]
      by_cases h : X = Y
      · have := j2 h
        rw [h, this]; simp
      · have h2 : rx ≠ ry := fun e => h (j1 e)
        rw [show ((rx : Int) == (ry : Int)) = false from by simp; omega, show (X == Y) = false from by simpa using h]
    have HF := Lib.hid hfin
    clear j1 j2 hfin
    clear hcell lx ly HT HA HO hO hX hY hXl hYl hsx hsy hgl
    go_wp2_with fail
    go_quiet (first
      | (go_at_call_of 19 (Value.slice (some ⟨gw, 0, none⟩) k 4); exact Calls.quiet_of_same (CX.out _))
      | (go_at_call_of 19 (Value.slice (some ⟨gw, 4, none⟩) k 4); exact Calls.quiet_of_same (CY.out _)))
    go_wp2
    go_ret
    exact ⟨by rw [HF.out]; simp, by rw [hgw]; exact below_drewN HB.out _⟩
end Go.Proofs.Ytcbeimoolndomaa
