/-
  Contract of package journals' part.encoded: a part as bytes.
-/
import Derived.Test.YtopcnlophmplgaaPartA
import Derived.Test.YtopcnlophmplgaaSumsC
namespace Go.Proofs.Ytopcnlophmplgaa
open Go.RowKit
set_option linter.unusedVariables false
set_option maxRecDepth 100000

/-- a row of a literal's byte -/
theorem lit_own1 (w : World) (x : Value) (base : Nat) (hb : base ≤ w.heap.size) : (w.alloc (.cells #[x] 5)).ownsRow base 5 1 (.slice (some ⟨w.heap.size, 0, none⟩) 1 1) 1 [x] :=
  ⟨rfl, .inr ⟨w.heap.size, 1, #[x], rfl, hb, heap_alloc_new w _, Nat.le_refl _, by decide, by simp, rfl⟩⟩
theorem lies_two (w : World) (x y : Value) (t : TypeId) : Lies (w.alloc (.cells #[x, y] t)) (w.heap.size + 1) 1 (some ⟨w.heap.size, 0, none⟩) 2 [x, y] := lits_lie rfl [x, y] t

set_option maxHeartbeats 1000000 in
theorem encoded_any (pos : Nat) (k : UInt8) (A : Option Addr) (n c : Nat) (d : List UInt8) (g : Nat) (w : World) (h : Lies w w.heap.size 1 A n (d.map bv)) (hT : Tab w g 117 Crc.tab) (hn : n ≤ 65535) :
    Calls Try.prog 68 #[pv pos k A n c, .pointer (some ⟨g, 0, none⟩)] w fun e w' => ∃ v, e = .returned v ∧ w'.ownsRow w.heap.size 5 1 v (7 + n) ((Jr.partB k d).map bv) ∧ Below w.heap.size w w' := by
  obtain ⟨i0, hi, hz0, hz1, hz2⟩ := info_parts byte_info
  have hdl := h.blen
  have hgw := hT.lt
  have HL := Lib.hid h; have HT := Lib.hid hT
  clear h hT
  have s1 : (w.alloc (.cells #[.int .i64 (pos : Int), bv k, .slice A n c] 123)).heap.size = w.heap.size + 1 := by simp
  have O2 := lit_own1 (w.alloc (.cells #[.int .i64 (pos : Int), bv k, .slice A n c] 123)) (bv k) w.heap.size (by omega)
  rw [s1] at O2
  have B2 : Below w.heap.size w ((w.alloc (.cells #[.int .i64 (pos : Int), bv k, .slice A n c] 123)).alloc (.cells #[bv k] 5)) := ((Below.refl w.heap.size w).alloc (Nat.le_refl _) _).alloc (by omega) _
  have L2 := (HL.out.below B2).more B2.size
  have HO2 := Lib.hid O2; have HB2 := Lib.hid B2; have HL2 := Lib.hid L2
  clear O2 B2 L2
  go_enter Try.func68, Try.ntmps68
  go_wp2_with (at_builtin; refine wpList_app _ rfl (.tmp 13) (.tmp 15) 33 rfl w.heap.size 5 i0 _ 1 1 Try.underlying33 hi hz0 hz1 hz2 rfl (by decide) (.slice (some ⟨w.heap.size + 1, 0, none⟩) 1 1) 1 [bv k] rfl HO2.out _ A n c (d.map bv) rfl HL2.out (bv_one _) (by unfold maxLen; omega) (by omega) HB2.out.size ?_)
  intro v3 w3 O3 hg3 _
  have B3 : Below w.heap.size w w3 := HB2.out.grown hg3 HB2.out.size (fun j hj => Nat.le_trans (Nat.le_succ _) (Nat.le_of_eq (by simpa [Value.ownBlock] using hj)))
  obtain ⟨A3, c3, rfl, hc3, _⟩ := own_shape O3
  have O3' : w3.ownsRow w.heap.size 5 1 (.slice A3 (1 + n) c3) (1 + n) ((k :: d).map bv) := O3
  have HO3 := Lib.hid O3'; have HB3 := Lib.hid B3
  have HOf := Lib.hid (of_any g (1 + n) c3 w3.heap.size A3 (k :: d) Crc.tab w3 (HT.out.below B3 hgw) Crc.tab_len Crc.small_tab (Lies.of_own O3') (by omega))
  have hsl := Jr.csum_lt k d
  have HS : Hid (Crc.on Crc.tab 0 (k :: d) = Jr.csum k d) := Lib.hid rfl
  rw [HS.out] at HOf
  obtain ⟨s, hs⟩ : ∃ s, Jr.csum k d = s := ⟨_, rfl⟩
  rw [hs] at HOf hsl
  have HSS := Lib.hid hs
  clear O3 O3' B3 hg3 HS hs HO2 HB2 HL2
  go_wp2_with fail
  refine HOf.out.mono ?_
  rintro e w4 ⟨rfl, hw⟩
  obtain rfl := hw.symm
  go_wp2_with fail
  refine (putFour_nil s w3 hsl).mono ?_
  rintro e w4 ⟨A4, c4, rfl, hc4, _, O4, hb4⟩
  have HO4 := Lib.hid O4; have HB4 := Lib.hid hb4
  clear O4 hb4 HOf
  have h63 : (4 : Nat) + 2 ≤ maxLen := by decide
  have hB5 : w.heap.size ≤ w4.heap.size := Nat.le_trans HB3.out.size HB4.out.size
  have O5 : ∀ o, (w4.alloc o).ownsRow w.heap.size 5 1 (.slice A4 4 c4) 4 ((four s).map bv) := fun o => own_base (own_below HO4.out ((Below.refl _ _).alloc (Nat.le_refl _) _)) HB3.out.size
  have HO5 := Lib.hid O5
  clear O5
  go_wp2_with (at_builtin; refine wpList_app _ rfl (.tmp 20) (.tmp 26) 33 rfl w.heap.size 5 i0 _ 1 1 Try.underlying33 hi hz0 hz1 hz2 rfl (by decide) (.slice A4 4 c4) 4 ((four s).map bv) rfl (HO5.out _) _ _ 2 2 _ rfl (lies_two w4 _ _ _) ?h1 (by unfold maxLen; omega) (by omega) (by simp; omega) ?_)
  case h1 =>
    intro u hu
    simp only [List.mem_cons, List.not_mem_nil, or_false] at hu
    rcases hu with rfl | rfl <;> rfl
  have e2 : [Value.int IntKind.u8 ((n : Int) / 256), Value.int IntKind.u8 ((n : Int) % 256)] = (Jr.two n).map bv := by
    simp only [Jr.two, List.map_cons, List.map_nil]
    rw [bv_ofNat _ (by omega), bv_ofNat _ (by omega), show n / 256 % 256 = n / 256 by omega]
    simp
  intro v6 w6 O6 hg6 _
  have e3 : (four s).map bv ++ [Value.int IntKind.u8 ((n : Int) / 256), Value.int IntKind.u8 ((n : Int) % 256)] = (four s ++ Jr.two n).map bv := by rw [e2, List.map_append]
  rw [e3] at O6
  have hB4' : Below w3.heap.size w3 (w4.alloc (.cells #[Value.int IntKind.u8 ((n : Int) / 256), Value.int IntKind.u8 ((n : Int) % 256)] 5)) := HB4.out.alloc HB4.out.size _
  have hB6 : Below w3.heap.size w3 w6 := hB4'.grown hg6 hB4'.size (fun j hj => (HO4.out.lt j hj).1)
  have B6 : Below w.heap.size w w6 := HB3.out.trans (hB6.mono HB3.out.size)
  have L6 := ((Lies.of_own HO3.out).below hB6).more hB6.size
  have HO6 := Lib.hid O6; have HB6 := Lib.hid B6; have HL6 := Lib.hid L6
  clear O6 hg6 hB4' hB6 B6 L6 e2 e3 HO5 HO4 HB4
  go_wp2_with (at_builtin; refine wpList_app _ rfl (.tmp 28) (.tmp 29) 33 rfl w.heap.size 5 i0 _ 1 1 Try.underlying33 hi hz0 hz1 hz2 rfl (by decide) v6 6 ((four s ++ Jr.two n).map bv) rfl HO6.out w6.heap.size A3 (1 + n) c3 ((k :: d).map bv) rfl HL6.out (bv_one _) (by unfold maxLen; omega) (by omega) HB6.out.size ?_)
  intro v7 w7 O7 hg7 _
  have B7 : Below w.heap.size w w7 := HB6.out.grown hg7 HB6.out.size (fun j hj => (HO6.out.lt j hj).1)
  have O7' : w7.ownsRow w.heap.size 5 1 v7 (7 + n) ((Jr.partB k d).map bv) := by
    have e : Jr.partB k d = four s ++ Jr.two n ++ (k :: d) := by unfold Jr.partB; rw [HSS.out, hdl, List.append_assoc]
    rw [e, List.map_append, show 7 + n = 6 + (1 + n) by omega]
    exact O7
  have HO7 := Lib.hid O7'; have HB7 := Lib.hid B7
  clear O7 O7' B7 hg7
  go_wp2
  go_ret
  exact ⟨_, rfl, HO7.out, HB7.out⟩
end Go.Proofs.Ytopcnlophmplgaa
