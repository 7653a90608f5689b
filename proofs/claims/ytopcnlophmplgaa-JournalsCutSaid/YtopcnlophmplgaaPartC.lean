/-
  Contract of package journals' readPart: the part at a place of a file.
-/
import Derived.Test.YtopcnlophmplgaaPartA
import Derived.Test.YtopcnlophmplgaaSumsC
import Derived.Test.YtopcnlophmplgaaFourG
import Derived.Deep.RegionHeld3
namespace Go.Proofs.Ytopcnlophmplgaa
open Go.RowKit
set_option linter.unusedVariables false
set_option maxRecDepth 100000

theorem run_min (a b : Nat) (w : World) : (Builtin.min_ #[3, 3] 3 #[.int .i64 (a : Int), .int .i64 (b : Int)]).run Try.prog w = .ok (.int .i64 ((min a b : Nat) : Int)) w := by
  simp only [Builtin.min_, List.foldlM_cons, List.foldlM_nil, Builtin.min2, Sem.run_bind, Sem.run_pure, Result.andThen_ok]
  by_cases h : (b : Int) < (a : Int)
  · rw [if_pos h, Nat.min_eq_right (by omega)]
  · rw [if_neg h, Nat.min_eq_left (by omega)]
theorem run_cutLH (w : World) (A : Option Addr) (n c l h : Nat) (h1 : l ≤ h) (h2 : h ≤ c) :
    (Instr.slice 33 (.slice A n c) (some (.int .i64 (l : Int))) (some (.int .i64 (h : Int))) none).run Try.prog w = .ok (.slice (cutA A c l) (h - l) (c - l)) w := by
  obtain ⟨i0, hi, hz0, hz1, hz2⟩ := info_parts byte_info
  unfold Instr.slice cutA
  simp [run_underlying Try.underlying33, Instr.sliceBounds, Instr.sliceBound, asIntOf, sizeOf, typeInfo, hi, hz1, h1, h2]

theorem wrap_len (p q : Nat) (hp : p < 256) (hq : q < 256) : wrap64 (wrap64 (7 + wrap64 (wrap64 (p : Int) * 256)) + wrap64 (q : Int)) = ((7 + (p * 256 + q) : Nat) : Int) := by
  have e1 : wrap64 (p : Int) = (p : Int) := by unfold wrap64; omega
  have e2 : wrap64 (q : Int) = (q : Int) := by unfold wrap64; omega
  have e3 : wrap64 ((p : Int) * 256) = ((p * 256 : Nat) : Int) := by unfold wrap64; omega
  rw [e1, e2, e3]
  obtain ⟨r, hr⟩ : ∃ r, p * 256 = r := ⟨_, rfl⟩
  rw [hr]
  have hr2 : r < 65536 := by omega
  have e4 : wrap64 (7 + (r : Int)) = ((7 + r : Nat) : Int) := by unfold wrap64; omega
  rw [e4]
  have e5 : wrap64 (((7 + r : Nat) : Int) + (q : Int)) = ((7 + (r + q) : Nat) : Int) := by unfold wrap64; omega
  exact e5
/-- what is answered of a part -/
def PartAns (w : World) (B pos : Nat) (o : Option (UInt8 × List UInt8)) (e : Ending) (w' : World) : Prop := Below w.heap.size w w' ∧
  match o with
  | none => e = .returned (.tuple #[pv 0 0 none 0 0, .bool false])
  | some (k, d) => ∃ A' n' c', e = .returned (.tuple #[pv pos k A' n' c', .bool true]) ∧ Lies w B 1 A' n' (d.map bv) ∧ n' ≤ c' ∧ c' ≤ 9223372036854775807 ∧ n' ≤ 65535
/-- a part's cells -/
theorem part_cells (w : World) (x y z : Value) : (w.alloc (.cells #[x, y, z] 123)).cell? ⟨w.heap.size, 0, none⟩ = some x ∧ (w.alloc (.cells #[x, y, z] 123)).cell? ⟨w.heap.size, 1, none⟩ = some y ∧ (w.alloc (.cells #[x, y, z] 123)).cell? ⟨w.heap.size, 2, none⟩ = some z := by
  have h : (w.alloc (.cells #[x, y, z] 123)).heap[w.heap.size]? = some (.cells #[x, y, z] 123 (0, 0)) := heap_alloc_new w _
  exact ⟨cell_of_row _ w.heap.size 0 _ _ (0, 0) h, cell_of_row _ w.heap.size 1 _ _ (0, 0) h, cell_of_row _ w.heap.size 2 _ _ (0, 0) h⟩

/-- three cells that are written -/
def st3 (W : World) (g : Nat) (x y z : Value) : World := ((W.setCell ⟨g, 0, none⟩ x).setCell ⟨g, 1, none⟩ y).setCell ⟨g, 2, none⟩ z
theorem st3_row (W : World) (g : Nat) (t : TypeId) (x0 y0 z0 x y z : Value) (h : W.heap[g]? = some (.cells #[x0, y0, z0] t (0, 0))) : (st3 W g x y z).heap[g]? = some (.cells #[x, y, z] t (0, 0)) := by
  unfold st3
  simp [World.setCell, Array.getElem?_modify, h]
theorem st3_below {B : Nat} {a : World} (W : World) (g : Nat) (x y z : Value) (hB : Below B a W) (hg : B ≤ g) : Below B a (st3 W g x y z) := ((hB.setCell (p := ⟨g, 0, none⟩) hg x).setCell (p := ⟨g, 1, none⟩) hg y).setCell (p := ⟨g, 2, none⟩) hg z
theorem row3 {W : World} {g : Nat} {t : TypeId} {x y z : Value} (h : W.heap[g]? = some (.cells #[x, y, z] t (0, 0))) : W.cell? ⟨g, 0, none⟩ = some x ∧ W.cell? ⟨g, 1, none⟩ = some y ∧ W.cell? ⟨g, 2, none⟩ = some z :=
  ⟨cell_of_row _ g 0 _ _ (0, 0) h, cell_of_row _ g 1 _ _ (0, 0) h, cell_of_row _ g 2 _ _ (0, 0) h⟩
theorem row_open {W : World} {g : Nat} {t : TypeId} {cs : Array Value} (h : W.heap[g]? = some (.cells cs t (0, 0))) (j : Nat) : W.frozen? ⟨g, j, none⟩ = false := by
  simp [World.frozen?, h]

set_option maxHeartbeats 2000000 in
theorem readPart_any (g B : Nat) (A : Option Addr) (n c : Nat) (f : List UInt8) (pos : Nat) (w : World) (hT : Tab w g 117 Crc.tab) (hB : B ≤ w.heap.size) (h : Lies w B 1 A n (f.map bv)) (hnc : n ≤ c) (hcc : c ≤ 9223372036854775807) (hn : n ≤ 1099511627776) (hp : pos ≤ 1099511627776) :
    Calls Try.prog 89 #[.pointer (some ⟨g, 0, none⟩), .slice A n c, .int .i64 (pos : Int)] w fun e w' => PartAns w B pos (Jr.getP f pos) e w' := by
  have hfl := h.blen
  have hroom := Jr.room_pos pos
  have hgr := Jr.getP_rest f pos
  have HR := Lib.hid (show ∀ w, _ from fun w => roomAt_any pos (by omega) w)
  obtain ⟨r, hr⟩ : ∃ r, Jr.room pos = r := ⟨_, rfl⟩
  rw [hr] at HR hroom hgr
  have hl1 := run_min pos n
  have hl2 : ∀ W, (Builtin.min_ #[3, 3] 3 #[.int .i64 ((pos : Int) + (r : Int)), .int .i64 (n : Int)]).run Try.prog W = .ok (.int .i64 ((min (pos + r) n : Nat) : Int)) W := by
    intro W; have := run_min (pos + r) n W; rwa [Int.natCast_add] at this
  obtain ⟨l, hl⟩ : ∃ l, min pos n = l := ⟨_, rfl⟩
  obtain ⟨u, hu⟩ : ∃ u, min (pos + r) n = u := ⟨_, rfl⟩
  rw [hl] at hl1
  rw [hu] at hl2
  have hlu : l ≤ u ∧ u ≤ n := by omega
  have hcut := fun W => run_cutLH W A n c l u hlu.1 (by omega)
  -- the rest of the block
  have hR : (f.drop pos).take r = (f.drop l).take (u - l) := by
    by_cases h1 : pos ≤ n
    · rw [show l = pos by omega]
      by_cases h2 : pos + r ≤ n
      · rw [show u - pos = r by omega]
      · rw [List.take_of_length_le (by rw [List.length_drop]; omega), List.take_of_length_le (by rw [List.length_drop]; omega)]
    · rw [List.drop_eq_nil_of_le (by omega), show u - l = 0 by omega]; simp
  rw [hR] at hgr
  have L1 : Lies w B 1 (cutA A c l) (u - l) (((f.drop l).take (u - l)).map bv) := lies_take (h.cutA (by omega) hnc) (by omega)
  have hml : ((f.drop l).take (u - l)).length = u - l := by rw [List.length_take, List.length_drop]; omega
  obtain ⟨R, hRR⟩ : ∃ R, (f.drop l).take (u - l) = R := ⟨_, rfl⟩
  rw [hRR] at hgr L1 hml
  obtain ⟨m, hm⟩ : ∃ m, u - l = m := ⟨_, rfl⟩
  rw [hm] at hcut L1 hml
  obtain ⟨A1, hA1⟩ : ∃ A1, cutA A c l = A1 := ⟨_, rfl⟩
  rw [hA1] at hcut L1
  obtain ⟨c1, hc1⟩ : ∃ c1, c - l = c1 := ⟨_, rfl⟩
  rw [hc1] at hcut
  have hmc : m ≤ c1 ∧ m ≤ 128 ∧ c1 ≤ 9223372036854775807 := by omega
  rw [hgr]
  have HL1 := Lib.hid L1; have HT := Lib.hid hT
  clear hl hu hR L1 hRR hm hA1 hc1 h hgr hr hT
  have Bx : ∀ o, Below w.heap.size w (w.alloc o) := fun o => (Below.refl _ _).alloc (Nat.le_refl _) o
  have HBx := Lib.hid Bx; clear Bx
  obtain ⟨z0, z1, z2⟩ := part_cells w (.int .i64 0) (.int .u8 0) (.slice none 0 0)
  by_cases hlt : m < 7
  · have hlt' : (m : Int) < 7 := by omega
    rw [Jr.restP_short R (by omega)]
    go_enter Try.func89, Try.ntmps89
    go_wp2_with fail
    refine (HR.out _).mono ?_
    rintro e w1 ⟨rfl, hw⟩
    obtain rfl := hw.symm
    go_wp2
    exact bodyPost_ret (v := .tuple #[pv 0 0 none 0 0, .bool false]) (by simp [results, Try.results89, go_sem, z0, z1, z2]) rfl ⟨HBx.out _, rfl⟩
  · obtain ⟨s0, s1, s2, s3, l1, l2, k, t, rfl⟩ : ∃ s0 s1 s2 s3 l1 l2 k t, R = s0 :: s1 :: s2 :: s3 :: l1 :: l2 :: k :: t := by
      match R, hml with
      | [], h => simp at h; omega
      | [_], h => simp at h; omega
      | [_, _], h => simp at h; omega
      | [_, _, _], h => simp at h; omega
      | [_, _, _, _], h => simp at h; omega
      | [_, _, _, _, _], h => simp at h; omega
      | [_, _, _, _, _, _], h => simp at h; omega
      | a :: b :: c :: d :: e :: f :: g :: t, _ => exact ⟨_, _, _, _, _, _, _, _, rfl⟩
    have htl : t.length + 7 = m := by simpa using hml
    obtain ⟨o, ho⟩ : ∃ o, Jr.restP (s0 :: s1 :: s2 :: s3 :: l1 :: l2 :: k :: t) = o := ⟨_, rfl⟩
    rw [ho]
    have HO := Lib.hid ho
    clear ho
    obtain ⟨b, ob, x4, hAe, hbB, hx4, hc4⟩ := HL1.out.byte (k := 4) (by omega)
    obtain ⟨b5, ob5, x5, hAe5, _, hx5, hc5⟩ := HL1.out.byte (k := 5) (by omega)
    obtain ⟨b6, ob6, x6, hAe6, _, hx6, hc6⟩ := HL1.out.byte (k := 6) (by omega)
    obtain rfl : l1 = x4 := by simpa using hx4
    obtain rfl : l2 = x5 := by simpa using hx5
    obtain rfl : k = x6 := by simpa using hx6
    rw [hAe] at hAe5 hAe6
    injection hAe5 with e5; injection e5 with e5a e5b
    injection hAe6 with e6; injection e6 with e6a e6b
    subst e5a e5b e6a e6b
    have hB1 := HBx.out (.cells #[.int .i64 0, .int .u8 0, .slice none 0 0] 123)
    have hc4 := (hB1.cell (p := ⟨b, ob + 4, none⟩) (Nat.lt_of_lt_of_le hbB hB)).trans hc4
    have hc5 := (hB1.cell (p := ⟨b, ob + 5, none⟩) (Nat.lt_of_lt_of_le hbB hB)).trans hc5
    have hc6 := (hB1.cell (p := ⟨b, ob + 6, none⟩) (Nat.lt_of_lt_of_le hbB hB)).trans hc6
    have L1 := HL1.out.below (hB1.mono hB)
    have T1 := HT.out.alloc (.cells #[.int .i64 0, .int .u8 0, .slice none 0 0] 123)
    have hz : (w.alloc (.cells #[.int .i64 0, .int .u8 0, .slice none 0 0] 123)).heap[w.heap.size]? = some (.cells #[.int .i64 0, .int .u8 0, .slice none 0 0] 123 (0, 0)) := heap_alloc_new w _
    have s1' : (w.alloc (.cells #[.int .i64 0, .int .u8 0, .slice none 0 0] 123)).heap.size = w.heap.size + 1 := by simp
    have HLW := Lib.hid L1; have HTW := Lib.hid T1; have HBW := Lib.hid hB1; have HZ := Lib.hid hz
    subst hAe
    clear hx4 hx5 hx6 L1 T1 hB1 hz HL1 HT HBx hml
    obtain ⟨W1, hW1⟩ : ∃ W1, w.alloc (.cells #[.int .i64 0, .int .u8 0, .slice none 0 0] 123) = W1 := ⟨_, rfl⟩
    rw [hW1] at hc4 hc5 hc6 HLW HTW HBW HZ s1' z0 z1 z2
    go_enter Try.func89, Try.ntmps89
    go_wp2_with fail

    clear hW1
    refine (HR.out _).mono ?_
    rintro e w1 ⟨rfl, hw⟩
    obtain rfl := hw.symm
    go_wp2_with fail
    go_quiet (fail)
    have b1 := l1.toNat_lt
    have b2 := l2.toNat_lt
    obtain ⟨nn, hnn⟩ : ∃ nn, l1.toNat * 256 + l2.toNat = nn := ⟨_, rfl⟩
    have e10 : wrap64 (wrap64 (7 + wrap64 (wrap64 (l1.toNat : Int) * 256)) + wrap64 (l2.toNat : Int)) = ((7 + nn : Nat) : Int) := by
      rw [← hnn]; exact wrap_len _ _ b1 b2
    rw [e10]
    have hc6 : (W1.drewN nq).cell? ⟨b, ob + 6, none⟩ = some (.int .u8 (k.toNat : Int)) := hc6
    have HLW := Lib.hid (HLW.out.drewN nq)
    have HTW : Hid (Tab (W1.drewN nq) g 117 Crc.tab) := HTW.out
    have HBW := Lib.hid (below_drewN HBW.out nq)
    have HZ : Hid ((W1.drewN nq).heap[w.heap.size]? = some (.cells #[.int .i64 0, .int .u8 0, .slice none 0 0] 123 (0, 0))) := HZ.out
    have z0 : (W1.drewN nq).cell? ⟨w.heap.size, 0, none⟩ = some (.int .i64 0) := z0
    have z1 : (W1.drewN nq).cell? ⟨w.heap.size, 1, none⟩ = some (.int .u8 0) := z1
    have z2 : (W1.drewN nq).cell? ⟨w.heap.size, 2, none⟩ = some (.slice none 0 0) := z2
    have sz2 : (W1.drewN nq).heap.size = w.heap.size + 1 := s1'
    generalize W1.drewN nq = W2 at *
    clear e10 s1'
    have hrest : o = if nn ≤ t.length ∧ s0.toNat * 16777216 + s1.toNat * 65536 + s2.toNat * 256 + s3.toNat = Jr.csum k (t.take nn) then some (k, t.take nn) else none := by
      rw [← HO.out, ← hnn]; rfl
    by_cases hle : nn ≤ t.length
    · have hle2 : 7 + (nn : Int) ≤ (m : Int) := by omega
      obtain ⟨q, hq⟩ : ∃ q, s0.toNat * 16777216 + s1.toNat * 65536 + s2.toNat * 256 + s3.toNat = q := ⟨_, rfl⟩
      have HG := Lib.hid (getFour_yes (some ⟨b, ob, none⟩) m c1 s0 s1 s2 s3 (l1 :: l2 :: k :: t) W2 (HLW.out.more (Nat.le_trans hB HBW.out.size)) hmc.1 (by omega))
      rw [hq] at HG hrest
      clear hq
      go_wp2_with fail
      refine HG.out.mono ?_
      rintro e w3 ⟨rfl, hb3⟩
      clear HG
      have hw3 : w.heap.size < W2.heap.size := by omega
      have HZ := Lib.hid ((hb3.block w.heap.size hw3).trans HZ.out)
      have z0 := (hb3.cell (p := ⟨w.heap.size, 0, none⟩) hw3).trans z0
      have z1 := (hb3.cell (p := ⟨w.heap.size, 1, none⟩) hw3).trans z1
      have z2 := (hb3.cell (p := ⟨w.heap.size, 2, none⟩) hw3).trans z2
      have hc6 := (hb3.cell (p := ⟨b, ob + 6, none⟩) (show b < W2.heap.size by omega)).trans hc6
      have hT3 := HTW.out.below hb3 HTW.out.lt
      have hL3 := HLW.out.below (hb3.mono (Nat.le_trans hB HBW.out.size))
      have hB3 := HBW.out.trans (hb3.mono HBW.out.size)
      have hcut6 : ∀ W, (Instr.slice 33 (.slice (some ⟨b, ob, none⟩) m c1) (some (.int .i64 6)) (some (.int .i64 (7 + (nn : Int)))) none).run Try.prog W = .ok (.slice (cutA (some ⟨b, ob, none⟩) c1 6) (7 + nn - 6) (c1 - 6)) W := fun W => run_cutLH W (some ⟨b, ob, none⟩) m c1 6 (7 + nn) (by omega) (by omega)
      have hcut7 : ∀ W, (Instr.slice 33 (.slice (some ⟨b, ob, none⟩) m c1) (some (.int .i64 7)) (some (.int .i64 (7 + (nn : Int)))) none).run Try.prog W = .ok (.slice (cutA (some ⟨b, ob, none⟩) c1 7) (7 + nn - 7) (c1 - 7)) W := fun W => run_cutLH W (some ⟨b, ob, none⟩) m c1 7 (7 + nn) (by omega) (by omega)
      have hL6 : Lies w3 B 1 (cutA (some ⟨b, ob, none⟩) c1 6) (7 + nn - 6) ((k :: t.take nn).map bv) := lies_take (hL3.cutA (m := 6) (by omega) hmc.1) (m := 7 + nn - 6) (by omega) |> fun h => by
        rw [show 7 + nn - 6 = nn + 1 by omega] at h ⊢
        exact h
      have hL7 : Lies w3 B 1 (cutA (some ⟨b, ob, none⟩) c1 7) (7 + nn - 7) ((t.take nn).map bv) := lies_take (hL3.cutA (m := 7) (by omega) hmc.1) (m := 7 + nn - 7) (by omega) |> fun h => by
        rw [show 7 + nn - 7 = nn by omega] at h ⊢
        exact h
      have HOf := Lib.hid (of_any g (7 + nn - 6) (c1 - 6) B (cutA (some ⟨b, ob, none⟩) c1 6) (k :: t.take nn) Crc.tab w3 hT3 Crc.tab_len Crc.small_tab hL6 (by omega))
      have HL7 := Lib.hid hL7; have HB3 := Lib.hid hB3
      clear hb3 hT3 hL3 hL6 hL7 hB3 HBW HLW HTW
      obtain ⟨s, hs⟩ : ∃ s, Crc.on Crc.tab 0 (k :: t.take nn) = s := ⟨_, rfl⟩
      have hs' : Jr.csum k (t.take nn) = s := hs
      rw [hs] at HOf
      rw [hs'] at hrest
      clear hs hs'
      obtain ⟨A7, hA7⟩ : ∃ A7, cutA (some ⟨b, ob, none⟩) c1 7 = A7 := ⟨_, rfl⟩
      rw [hA7] at HL7 hcut7
      clear hA7
      go_wp2_with fail
      refine HOf.out.mono ?_
      rintro e w4 ⟨rfl, hw⟩
      obtain rfl := hw.symm
      clear HOf
      by_cases hqs : q = s
      · subst hqs
        rw [if_pos ⟨hle, rfl⟩] at hrest
        subst hrest
        have y0 := row_open HZ.out 0; have y1 := row_open HZ.out 1; have y2 := row_open HZ.out 2
        go_wp2_with fail
        go_region
        obtain ⟨W5, hW5⟩ : ∃ W5, (st3 w3 w.heap.size (.int .i64 (pos : Int)) (bv k) (.slice A7 nn (c1 - 7))).drew = W5 := ⟨_, rfl⟩
        have hrow : (st3 w3 w.heap.size (.int .i64 (pos : Int)) (bv k) (.slice A7 nn (c1 - 7))).drew.heap[w.heap.size]? = some (.cells #[.int .i64 (pos : Int), bv k, .slice A7 nn (c1 - 7)] 123 (0, 0)) := st3_row w3 w.heap.size _ _ _ _ (.int .i64 (pos : Int)) (bv k) (.slice A7 nn (c1 - 7)) HZ.out
        have hb5 := (st3_below w3 w.heap.size (.int .i64 (pos : Int)) (bv k) (.slice A7 nn (c1 - 7)) HB3.out (Nat.le_refl _)).drew
        change Exit.then _ _ _ _ (st3 w3 w.heap.size (.int .i64 (pos : Int)) (bv k) (.slice A7 nn (c1 - 7))).drew
        rw [hW5] at hrow hb5 ⊢
        obtain ⟨z0, z1, z2⟩ := row3 hrow
        go_wp2
        refine bodyPost_ret (v := .tuple #[pv pos k A7 nn (c1 - 7), .bool true]) (by simp [results, Try.results89, go_sem, z0, z1, z2]) rfl ⟨hb5, _, _, _, rfl, ?_, by omega, by omega, by omega⟩
        have h7 := HL7.out
        rw [show 7 + nn - 7 = nn by omega] at h7
        exact h7.keep fun p hp => (HB3.out.cell (Nat.lt_of_lt_of_le hp hB)).symm
      · rw [if_neg (fun h => hqs h.2)] at hrest
        subst hrest
        have hqs2 : ¬ (q : Int) = (s : Int) := by omega
        have y0 := row_open HZ.out 0; have y1 := row_open HZ.out 1; have y2 := row_open HZ.out 2
        go_wp2
        obtain ⟨W5, hW5⟩ : ∃ W5, st3 w3 w.heap.size (.int .i64 0) (.int .u8 0) (.slice none 0 0) = W5 := ⟨_, rfl⟩
        obtain ⟨z0, z1, z2⟩ := row3 (st3_row w3 w.heap.size _ _ _ _ (.int .i64 0) (.int .u8 0) (.slice none 0 0) HZ.out)
        have hb5 := st3_below w3 w.heap.size (.int .i64 0) (.int .u8 0) (.slice none 0 0) HB3.out (Nat.le_refl _)
        change bodyPost _ _ _ _ _ (st3 w3 w.heap.size (.int .i64 0) (.int .u8 0) (.slice none 0 0))
        rw [hW5] at z0 z1 z2 hb5 ⊢
        exact bodyPost_ret (v := .tuple #[pv 0 0 none 0 0, .bool false]) (by simp [results, Try.results89, go_sem, z0, z1, z2]) rfl ⟨hb5, rfl⟩
    · rw [if_neg (fun h => hle h.1)] at hrest
      subst hrest
      have hlt2 : (m : Int) < 7 + (nn : Int) := by omega
      have y0 := row_open HZ.out 0; have y1 := row_open HZ.out 1; have y2 := row_open HZ.out 2
      go_wp2
      obtain ⟨W5, hW5⟩ : ∃ W5, st3 W2 w.heap.size (.int .i64 0) (.int .u8 0) (.slice none 0 0) = W5 := ⟨_, rfl⟩
      obtain ⟨z0, z1, z2⟩ := row3 (st3_row W2 w.heap.size _ _ _ _ (.int .i64 0) (.int .u8 0) (.slice none 0 0) HZ.out)
      have hb5 := st3_below W2 w.heap.size (.int .i64 0) (.int .u8 0) (.slice none 0 0) HBW.out (Nat.le_refl _)
      change bodyPost _ _ _ _ _ (st3 W2 w.heap.size (.int .i64 0) (.int .u8 0) (.slice none 0 0))
      rw [hW5] at z0 z1 z2 hb5 ⊢
      exact bodyPost_ret (v := .tuple #[pv 0 0 none 0 0, .bool false]) (by simp [results, Try.results89, go_sem, z0, z1, z2]) rfl ⟨hb5, rfl⟩
end Go.Proofs.Ytopcnlophmplgaa
