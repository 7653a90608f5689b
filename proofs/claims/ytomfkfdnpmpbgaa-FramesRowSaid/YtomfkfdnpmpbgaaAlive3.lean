/-
  Contract of layer 3's 'alive': some answers that the document fixes.
-/
import Derived.Test.YtomfkfdnpmpbgaaFr
import Derived.Test.YtomfkfdnpmpbgaaStr
import Derived.Lib.SlBytesConst
import Derived.Lib.AppendStr
namespace Go.Proofs.Ytomfkfdnpmpbgaa
open Go.RowKit
set_option linter.unusedVariables false

/-- a frame that was answered -/
def GotP (w : World) (n : Nat) (r : List UInt8) (e : Ending) (w' : World) : Prop :=
  ∃ g, e = .returned (.tuple #[.slice (some ⟨g, 0, none⟩) n n, .int .i64 0]) ∧ w'.ownsRow w.heap.size 5 1 (.slice (some ⟨g, 0, none⟩) n n) n ((fr r).map bv) ∧ Below w.heap.size w w'
theorem framesPut_lit (l : List UInt8) (w : World) (fz : Nat × Nat) (n m : Nat) (hm : l.length = m) (hn : m + 8 = n) (hl : m ≤ 1000) :
    Calls Try.prog 11 #[.slice (some ⟨w.heap.size, 0, none⟩) m m] (w.alloc (.cells (l.map bv).toArray 5 fz)) fun e w' => GotP w n l e w' := by
  subst hm hn
  exact (framesPut_ok _ _ l.length l _ (lit_lies_fz w l fz) (by omega)).mono fun e w' ⟨g, he, ho, hb⟩ => ⟨g, he, own_base ho (by simp), lit_below _ _ hb⟩
/-- a record that was answered, in new memory, how many bytes it took, the error -/
def GotT (w : World) (m : Nat) (r : List UInt8) (t e : Nat) (en : Ending) (w' : World) : Prop :=
  ∃ A c, en = .returned (.tuple #[.slice A m c, .int .i64 (t : Int), .int .i64 (e : Int)]) ∧ m ≤ c ∧ c ≤ maxLen ∧ w'.ownsRow w.heap.size 5 1 (.slice A m c) m (r.map bv) ∧ Below w.heap.size w w'
theorem framesGet_is (A : Option Addr) (n c : Nat) (l : List UInt8) (w : World) (h : Lies w w.heap.size 1 A n (l.map bv)) (hnc : n ≤ c) (hn : n ≤ 4611686018427387904) (m : Nat) (r : List UInt8) (t e : Nat) (hg : gotF l = (r, t, e)) (hm : r.length = m) :
    Calls Try.prog 12 #[.slice A n c] w fun en w' => GotT w m r t e en w' := by
  have g := framesGet_any A n c l w h hnc hn
  rw [hg] at g
  subst hm
  refine g.mono fun e w' ⟨v, he, ho, hb⟩ => ?_
  subst he
  obtain ⟨A, c, rfl, h1, h2, _⟩ := own_shape ho
  exact ⟨A, c, rfl, h1, h2, ho, hb⟩
theorem framesGet_lit (l : List UInt8) (w : World) (m t e : Nat) (r : List UInt8) (hr : gotF l = (r, t, e)) (hm : r.length = m) (hl : l.length ≤ 1000) :
    Calls Try.prog 12 #[.slice (some ⟨w.heap.size, 0, none⟩) l.length l.length] (w.alloc (.cells (l.map bv).toArray 5)) fun en w' => GotT w m r t e en w' :=
  (framesGet_is _ _ l.length l _ (lit_lies w l) (Nat.le_refl _) (by omega) m r t e hr hm).mono fun e w' ⟨A, c, he, h1, h2, ho, hb⟩ => ⟨A, c, he, h1, h2, own_base ho (by simp), lit_below _ _ hb⟩
theorem framesGet_cut (A : Option Addr) (n m c : Nat) (r : List UInt8) (w : World) (h : Lies w w.heap.size 1 A n ((fr r).map bv)) (hn : n = r.length + 8) (hr : r.length ≤ 65536) (hm : m < n) (hc : m ≤ c) :
    Calls Try.prog 12 #[.slice A m c] w fun en w' => GotT w 0 [] 0 5 en w' :=
  framesGet_is A m c ((fr r).take m) w (lies_take h (by omega)) hc (by omega) 0 [] 0 5 (got_cut r hr m (by omega)) rfl

set_option maxRecDepth 100000 in
set_option maxHeartbeats 2000000 in
theorem alive3_any (w : World) : Calls Try.prog 10 #[] w fun e w' => e = .returned (.bool true) ∧ Below w.heap.size w w' := by
  obtain ⟨i0, hi, hz0, hz1, hz2⟩ := info_parts byte_info
  have kc := fun (w : World) (C : Array Value) (n c : Nat) => Lib.run_convert_bytes_const (P := Try.prog) w 22 5 C n c Try.underlying22 Try.underlying5
  go_enter Try.func10, Try.ntmps10
  go_wp2_with fail
  refine (framesPut_lit [97] w (1, 2) 9 1 rfl rfl (by decide)).mono ?_
  rintro e w1 ⟨g1, rfl, hown1, hb1⟩
  have L1 := Lies.of_own hown1
  have hc3 : w1.cell? ⟨g1, 3, none⟩ = some (.int .u8 1) := by
    have := hown1.cells (g := g1) rfl 3 (.int .u8 1) rfl
    rw [add_lit] at this; exact this
  have hc8 : w1.cell? ⟨g1, 8, none⟩ = some (.int .u8 97) := by
    have := hown1.cells (g := g1) rfl 8 (.int .u8 97) rfl
    rw [add_lit] at this; exact this
  have HO1 := Lib.hid hown1; have HB1 := Lib.hid hb1; have HL1 := Lib.hid L1
  have hgl : g1 < w1.heap.size := (hown1.lt g1 rfl).2
  clear hown1 hb1 L1
  obtain ⟨X, hX⟩ : ∃ X, fr [97] = X := ⟨_, rfl⟩
  rw [hX] at HL1
  have HX := Lib.hid hX; clear hX
  go_wp2_with (at_builtin; refine wpList_app _ rfl _ _ 22 rfl w1.heap.size 5 i0 _ 1 1 Try.underlying22 hi hz0 hz1 hz2 rfl (by decide) (.slice none 0 0) 0 [] rfl ⟨rfl, .inl ⟨rfl, rfl⟩⟩ w1.heap.size (some ⟨g1, 0, none⟩) 9 9 (X.map bv) rfl HL1.out (bv_one _) (by unfold maxLen; omega) (by omega) (Nat.le_refl _) ?_)
  intro v2 w2 hown2 hg2 _
  have hb2 : Below w1.heap.size w1 w2 := (Below.refl _ _).grown hg2 (Nat.le_refl _) (fun k hk => by cases hk)
  have HB2 := Lib.hid hb2
  have O2 : w2.ownsRow w1.heap.size 5 1 v2 9 (X.map bv) := by simpa using hown2
  clear hown2 hg2 hb2
  go_wp2_with (at_builtin; refine Lib.wpList_append_own_string _ rfl _ _ 22 9 rfl w1.heap.size 5 i0 Try.underlying22 Try.underlying9 hi hz0 hz1 hz2 v2 9 (X.map bv) rfl O2 ⟨#[109, 111, 114, 101]⟩ rfl (by unfold maxLen; decide) (by decide) HB2.out.size ?_)
  intro v3 w3 hown3 hg3 _
  have hb3 : Below w1.heap.size w1 w3 := HB2.out.grown hg3 HB2.out.size (fun k hk => (O2.lt k hk).1)
  have O3 : w3.ownsRow w1.heap.size 5 1 v3 13 ((X ++ [109, 111, 114, 101]).map bv) := by rw [List.map_append]; exact hown3
  obtain ⟨A3, c3, rfl, hnc3, hcm3, _⟩ := own_shape O3
  have HB3 := Lib.hid hb3; have HO3 := Lib.hid O3
  clear hown3 hg3 hb3 O2 O3 HB2
  have G1 := framesGet_is A3 13 c3 (X ++ [109, 111, 114, 101]) w3 (Lies.of_own HO3.out) hnc3 (by omega) 1 [97] 9 0 (by rw [← HX.out]; exact got_fr [97] _ (by decide)) rfl
  have HG1 := Lib.hid G1
  clear G1 HO3
  go_wp2_with fail
  refine HG1.out.mono ?_
  rintro e w4 ⟨A4, c4, rfl, hnc4, hcm4, hown4, hb4⟩
  have HB4 := Lib.hid (HB3.out.trans (hb4.mono HB3.out.size))
  have HO4 := Lib.hid hown4
  clear hb4 hown4 HB3 HG1
  rw [← HX.out] at HL1
  have C1 := framesGet_cut (some ⟨g1, 0, none⟩) 9 8 9 [97] w4 ((HL1.out.below HB4.out).more HB4.out.size) rfl (by decide) (by decide) (by decide)
  have HC1 := Lib.hid C1; clear C1
  go_wp2_with fail
  refine HC1.out.mono ?_
  rintro e w5 ⟨A5, c5, rfl, hnc5, hcm5, hown5, hb5⟩
  have HB5 := Lib.hid (HB4.out.trans (hb5.mono HB4.out.size))
  have HO5 := Lib.hid (own_below HO4.out hb5)
  clear hb5 hown5 HB4 HC1 HO4
  have C2 := framesGet_cut (some ⟨g1, 0, none⟩) 9 3 9 [97] w5 ((HL1.out.below HB5.out).more HB5.out.size) rfl (by decide) (by decide) (by decide)
  have HC2 := Lib.hid C2; clear C2
  go_wp2_with fail
  refine HC2.out.mono ?_
  rintro e w6 ⟨A6, c6, rfl, hnc6, hcm6, hown6, hb6⟩
  have HB6 := Lib.hid (HB5.out.trans (hb6.mono HB5.out.size))
  have HO6 := Lib.hid (own_below HO5.out hb6)
  clear hb6 hown6 HB5 HC2 HO5 HL1 HX
  go_wp2_with fail
  refine (framesGet_lit [0, 1, 0, 1, 5, 5, 5, 5] w6 0 0 4 [] (by decide +kernel) rfl (by decide)).mono ?_
  rintro e w7 ⟨A7, c7, rfl, hnc7, hcm7, hown7, hb7⟩
  have HB7 := Lib.hid (HB6.out.trans (hb7.mono HB6.out.size))
  have HO7 := Lib.hid (own_below HO6.out hb7)
  clear hb7 hown7 HB6 HO6
  obtain ⟨N, hN⟩ : ∃ N : Nat, N = 65537 := ⟨_, rfl⟩
  have HN := Lib.hid hN; clear hN
  go_wp2_with (at_make; refine wpList_makeB _ rfl _ _ rfl _ _ _ _ N rfl rfl (by rw [HN.out]; rfl) (by rw [HN.out]; rfl) (by have := HN.out; omega) ?_)
  intro w8 hown8 hg8
  have hb8 : Below w7.heap.size w7 w8 := (Below.refl _ _).grown hg8 (Nat.le_refl _) (by simp)
  have HB8 := Lib.hid (HB7.out.trans (hb8.mono HB7.out.size))
  have HO8 := Lib.hid (own_below HO7.out hb8)
  clear hown8 hg8 hb8 HB7 HO7
  go_wp2_with fail
  refine (framesPut_bad _ N _ w8 (by have := HN.out; omega) (by have := HN.out; omega)).mono ?_
  rintro e w9 ⟨rfl, rfl⟩
  have hstr := run_str (P := Try.prog) w9 22 9 5 Try.underlying22 Try.underlying5 Try.underlying9 c4 (Lies.of_own HO8.out)
  have HBZ := Lib.hid (HB1.out.trans (HB8.out.mono HB1.out.size))
  clear HB8 HB1 HO8
  go_wp2
  go_ret
  exact ⟨rfl, HBZ.out⟩
end Go.Proofs.Ytomfkfdnpmpbgaa
