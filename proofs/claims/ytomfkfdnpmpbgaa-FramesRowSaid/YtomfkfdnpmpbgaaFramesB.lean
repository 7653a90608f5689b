/-
  Contracts of package frames: Put.
-/
import Derived.Test.YtomfkfdnpmpbgaaFramesA
import Derived.Deep.RegionHeld3
namespace Go.Proofs.Ytomfkfdnpmpbgaa
open Go.RowKit
set_option linter.unusedVariables false

theorem lay1 (a r : List UInt8) (ha : a.length = 4) : over (List.replicate (8 + r.length) 0) 0 a = a ++ (List.replicate 4 0 ++ List.replicate r.length 0) := by
  unfold over
  rw [List.take_zero, List.nil_append, List.drop_replicate, List.replicate_append_replicate, ha]
  congr 2
  omega
theorem lay2 (a z y r : List UInt8) (ha : a.length = 4) (hz : z.length = 4) (hy : y.length = r.length) : over (a ++ (z ++ y)) 8 r = a ++ (z ++ r) := by
  unfold over
  have e1 : (a ++ (z ++ y)).take 8 = a ++ z := by
    rw [← List.append_assoc, List.take_append_of_le_length (by simp; omega), List.take_of_length_le (by simp; omega)]
  rw [e1, List.drop_eq_nil_of_le (by simp; omega), List.append_nil, List.append_assoc]
theorem lay3 (a z b r : List UInt8) (ha : a.length = 4) (hz : z.length = 4) (hb : b.length = 4) : over (a ++ (z ++ r)) 4 b = a ++ (b ++ r) := by
  unfold over
  rw [List.take_append_of_le_length (by omega), List.take_of_length_le (by omega), hb, ← List.append_assoc a z r, List.drop_append, List.drop_eq_nil_of_le (by simp; omega), List.nil_append, List.append_assoc]
  rw [show 4 + 4 - (a ++ z).length = 0 from by simp; omega, List.drop_zero]

theorem framesPut_bad (A : Option Addr) (n c : Nat) (w : World) (hn : 65536 < n) (hm : n ≤ 1099511627776) :
    Calls Try.prog 11 #[.slice A n c] w fun e w' => e = .returned (.tuple #[.slice none 0 0, .int .i64 3]) ∧ w' = w := by
  go_enter Try.func11, Try.ntmps11
  go_wp2
  go_ret2
  exact ⟨rfl, rfl⟩

def Fine (_ : World) : Prop := True
theorem fine (w : World) : Fine w := trivial

set_option maxHeartbeats 2000000 in
theorem framesPut_ok (A : Option Addr) (n c : Nat) (r : List UInt8) (w : World) (h : Lies w w.heap.size 1 A n (r.map bv)) (hn : n ≤ 65536) :
    Calls Try.prog 11 #[.slice A n c] w fun e w' => ∃ g, e = .returned (.tuple #[.slice (some ⟨g, 0, none⟩) (n + 8) (n + 8), .int .i64 0]) ∧
      w'.ownsRow w.heap.size 5 1 (.slice (some ⟨g, 0, none⟩) (n + 8) (n + 8)) (n + 8) ((fr r).map bv) ∧ Below w.heap.size w w' := by
  have hr := h.blen
  have HL := Lib.hid h; clear h
  have hw1 : IntKind.u32.wrap (n : Int) = (n : Int) := by rw [IntKind.wrap_u32']; omega
  go_enter Try.func11, Try.ntmps11
  go_wp2_with (at_make; refine wpList_makeB _ rfl _ _ rfl _ _ _ _ (n + 8) rfl rfl (by omega) (by omega) (by omega) ?_; intro w1 hown1 hg1)
  have hb1 : Below w.heap.size w w1 := (Below.refl _ _).grown hg1 (Nat.le_refl _) (by simp)
  clear hg1
  have HB1 := Lib.hid hb1; clear hb1
  have HO1 := Lib.hid hown1; clear hown1
  have cut1 : ∀ W, (Instr.slice 22 (.slice (some ⟨w.heap.size, 0, none⟩) (n + 8) (n + 8)) (some (.int .i64 8)) none none).run Try.prog W = .ok (.slice (cutA (some ⟨w.heap.size, 0, none⟩) (n + 8) 8) n n) W := fun W => by
    have := run_cut W (some ⟨w.heap.size, 0, none⟩) (n + 8) (n + 8) 8 (by omega)
    rw [Nat.add_sub_cancel] at this; exact this
  have cut2 : ∀ W, (Instr.slice 22 (.slice (some ⟨w.heap.size, 0, none⟩) (n + 8) (n + 8)) (some (.int .i64 4)) (some (.int .i64 8)) (some (.int .i64 8))).run Try.prog W = .ok (.slice (some ⟨w.heap.size, 4, none⟩) 4 4) W := fun W => run_cut3 W (some ⟨w.heap.size, 0, none⟩) (n + 8) (n + 8) 4 8 8 (by omega) (by omega) (by omega)
  go_wp2_with fail
  refine (putFour_nil n w1 (by omega)).mono ?_
  rintro e w2 ⟨A2, c2, rfl, _, _, hown2, hb2⟩
  have O2 := own_below HO1.out hb2
  have HB2 := Lib.hid (HB1.out.trans (hb2.mono HB1.out.size)); clear hb2 HB1 HO1
  go_wp2_with (refine wpList_copyIn rfl (.tmp 12) (.tmp 16) rfl w.heap.size w.heap.size (n + 8) (n + 8) 0 (n + 8) (n + 8) _ rfl O2 w2.heap.size A2 4 c2 ((four n).map bv) rfl (Lies.of_own hown2) (bv_one _) (by omega) (by omega) ?_)
  intro w3 O3 hg3
  have hb3 : Below w.heap.size w w3 := HB2.out.grown hg3 HB2.out.size (fun k hk => by injection hk with hk; omega)
  have HB3 := Lib.hid hb3
  have O3' : w3.ownsRow w.heap.size 5 1 (.slice (some ⟨w.heap.size, 0, none⟩) (n + 8) (n + 8)) (n + 8) ((four n ++ (List.replicate 4 0 ++ List.replicate n 0)).map bv) := by
    have e := lay1 (four n) r rfl
    rw [hr, Nat.add_comm 8 n] at e
    rw [← e, over_map, List.map_replicate]; exact O3
  obtain ⟨X, hX⟩ : ∃ X, four n ++ (List.replicate 4 0 ++ List.replicate n 0) = X := ⟨_, rfl⟩
  rw [hX] at O3'
  have HX3 := Lib.hid hX; clear hX
  have L3 := Lib.hid ((HL.out.below hb3).more hb3.size)
  clear hb3 hg3 O3 O2 hown2 HB2
  go_wp2_with (refine wpList_copyAt rfl (.tmp 19) (.tmp 20) rfl w.heap.size w.heap.size (n + 8) (n + 8) 8 n n (n + 8) _ rfl O3' (by omega) w3.heap.size A n c (r.map bv) rfl L3.out (bv_one _) (by omega) (by omega) ?_)
  intro w4 O4 hg4
  have hb4 : Below w.heap.size w w4 := HB3.out.grown hg4 HB3.out.size (fun k hk => by injection hk with hk; omega)
  have HB4 := Lib.hid hb4
  have O4' : w4.ownsRow w.heap.size 5 1 (.slice (some ⟨w.heap.size, 0, none⟩) (n + 8) (n + 8)) (n + 8) ((four n ++ (List.replicate 4 0 ++ r)).map bv) := by
    rw [← lay2 (four n) (List.replicate 4 0) (List.replicate n 0) r rfl (by simp) (by simp [hr]), HX3.out, over_map]; exact O4
  have CS := checksum_any (some ⟨w.heap.size, 0, none⟩) (n + 8) (n + 8) _ w4.drew (Lies.of_own O4').drew (by omega) (Nat.le_refl _) (by omega)
  have e4 : (four n ++ (List.replicate 4 0 ++ r)).take 4 = four n := rfl
  have e8 : (four n ++ (List.replicate 4 0 ++ r)).drop 8 = r := rfl
  rw [e4, e8] at CS
  have HCS := Lib.hid CS
  have HO4 := Lib.hid O4'
  have HS : Hid (csum (four n) r < 4294967296) := csum_lt _ _
  obtain ⟨s, hs⟩ : ∃ s, csum (four n) r = s := ⟨_, rfl⟩
  rw [hs] at HCS HS
  have HX := Lib.hid hs
  clear hb4 hg4 O4 O4' HX3 O3' L3 HB3 CS e4 e8 hs cut1
  go_wp2_with fail
  go_region_held3 (fun w' => Fine w') (exact fine _)
    (first
    | (go_at_call 20; refine HCS.out.mono ?_; rintro e w5 ⟨rfl, hb5⟩)
    | (go_at_call 16; refine (putFour_nil s _ HS.out).mono ?_; rintro e w6 ⟨A6, c6, rfl, _, _, hown6, hb6⟩; obtain ⟨w7, hcp, O7, hg7⟩ := run_copyIn w6 w.heap.size 3 w.heap.size (n + 8) (n + 8) 4 4 4 _ (own_below (own_below (w := w4.drew) HO4.out hb5) hb6) w6.heap.size A6 4 c6 ((four s).map bv) (Lies.of_own hown6) (bv_one _) (Nat.le_refl _) (by omega))
    | fail)
  have hb6' : Below w.heap.size w w6 := (below_drew HB4.out).trans ((hb5.mono HB4.out.size).trans (hb6.mono (Nat.le_trans HB4.out.size hb5.size)))
  have hb7 : Below w.heap.size w w7 := hb6'.grown hg7 hb6'.size (fun k hk => by injection hk with hk; omega)
  have O7' : w7.ownsRow w.heap.size 5 1 (.slice (some ⟨w.heap.size, 0, none⟩) (n + 8) (n + 8)) (n + 8) ((fr r).map bv) := by
    have e : fr r = over (four n ++ (List.replicate 4 0 ++ r)) 4 (four s) := by
      rw [lay3 (four n) (List.replicate 4 0) (four s) r rfl (by simp) rfl]
      unfold fr
      rw [hr, HX.out]
    rw [e, over_map]; exact O7
  have HO7 := Lib.hid O7'; have HB7 := Lib.hid hb7
  clear O7' hb7 O7 hg7 hcp hb6' hb6 hb5 hown6 HO4 HCS cut2 HB4
  go_wp2
  go_ret2
  exact ⟨_, rfl, HO7.out, HB7.out⟩
end Go.Proofs.Ytomfkfdnpmpbgaa
