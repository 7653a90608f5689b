/-
  The walk of TablesGet.
-/
import Derived.Test.YtopcnlophmplgaaTNum
import Derived.Deep.RegionHeld3
namespace Go.Proofs.Ytopcnlophmplgaa
open Go.RowKit
set_option linter.unusedVariables false
set_option maxRecDepth 100000

def cellsE (o : Option En) : Array Value := #[.string (o.getD zeroE).m.k, .int .u64 ((o.getD zeroE).m.s : Int), .bool (o.getD zeroE).m.g, .string (o.getD zeroE).x]
def GetLoop (w4 : World) (N : Nat) (S : List En) (key : ByteArray) (s : Nat) (g : Nat) (j : Nat) (th i : Value) (wr : World) : Prop :=
  ∃ k o, k + j = N ∧ i = .int .i64 (k : Int) ∧ Below w4.heap.size w4 wr ∧ wr.heap[g]? = some (.cells (cellsE o) 48 (0, 0)) ∧ (S.take k).find? (isK key (s + 1)) = o ∧ th = .bool o.isSome
theorem find_take {S : List En} {p : En → Bool} {k : Nat} {e : En} (h : S[k]? = some e) (hn : (S.take k).find? p = none) : (S.take (k + 1)).find? p = if p e then some e else none := by
  rw [List.take_add_one, h, List.find?_append, hn]
  simp [List.find?_cons]
  cases p e <;> rfl
theorem find_front {S : List En} {p : En → Bool} {k : Nat} {e : En} (h : (S.take k).find? p = some e) : S.find? p = some e := by
  conv => lhs; rw [← List.take_append_drop k S]
  rw [List.find?_append, h]; rfl

set_option maxHeartbeats 8000000 in
theorem tablesGet_walk (A : Option Addr) (n c : Nat) (l : List En) (key : ByteArray) (s : Nat) (w : World) (y : Lies w w.heap.size 4 A n (ecs l)) (hm : ∀ x ∈ l, x.m.s < 18446744073709551616 ∧ x.m.k.size ≤ 140737488351232 ∧ x.x.size ≤ 140737488351232) (hll : l.length = n) (hnc : n ≤ c) (hc : c ≤ 140737488351232)
    (hkey : key.size ≤ 140737488351232) (hs : s < 18446744073709551616) :
    Calls Try.prog 6 #[.slice A n c, .string key, .int .u64 (s : Int)] w fun e w' => e = .returned (.bool true) ∧ Below w.heap.size w w' := by
  have Y : Hid (∀ W', Below w.heap.size w W' → Lies W' W'.heap.size 4 A n (ecs l)) := fun W' hb' => (y.below hb').more hb'.size
  clear y
  go_enter Try.func6, Try.ntmps6
  go_wp2_with fail
  refine (alive7_any w).mono ?_
  rintro e w1 ⟨rfl, hb1⟩
  have H1 := Lib.hid hb1; clear hb1
  go_wp2_with fail
  refine (many_any A n c l w1 (Y.out w1 H1.out) hm (by omega)).mono ?_
  rintro e w2 ⟨b, rfl, hb, hb2⟩
  have H2 := Lib.hid (H1.out.trans (hb2.mono H1.out.size)); clear hb2
  have HAL : Hid (Calls Try.prog 26 #[] w2 fun e w' => e = .returned (.bool true) ∧ Below w.heap.size w w') := (alive7_any w2).mono fun e w' ⟨he, hb'⟩ => ⟨he, H2.out.trans (hb'.mono H2.out.size)⟩
  cases b
  · obtain ⟨hn, hsz⟩ := hb rfl
    clear hb
    by_cases hk : 1000 < key.size
    · have i1 : (1000 : Int) < (key.size : Int) := by omega
      go_wp2_with fail
      refine HAL.out.mono ?_
      rintro e w3 ⟨rfl, hb3⟩
      have HF := Lib.hid hb3; clear hb3
      go_wp2_with fail
      go_ret
      exact ⟨rfl, HF.out⟩
    · have i1 : decide ((1000 : Int) < (key.size : Int)) = false := decide_eq_false (by omega)
      have HP := Lib.hid (put_all A n c l none 0 0 [] w2 (Y.out w2 H2.out) hm hn (Lies.none_ _ _ _ _) (by decide))
      clear HAL
      go_wp2_with fail
      refine HP.out.mono ?_
      rintro e w3 ⟨t, rfl, hT⟩
      have HLW := Lib.hid (H2.out.trans (hT.low.mono H2.out.size))
      obtain ⟨S, hS⟩ : ∃ S, bld l = S := ⟨_, rfl⟩
      have hSl : S.length ≤ 200 := by rw [← hS]; have := bld_len l; omega
      have hSf := hT.fine
      have hSr := hT.rise
      rw [hS] at hT hSf hSr
      have HT := Lib.hid hT
      have HSF := Lib.hid hSf; have HSR := Lib.hid hSr
      clear hT hS hSf hSr HP
      have hF1 := tb_from HT.out noM 1000
      rw [fromE_none HSF.out hSl, noM_v] at hF1
      have HF1 := Lib.hid hF1
      clear hF1
      go_wp2_with fail
      refine HF1.out.mono ?_
      rintro e w4 ⟨v4, rfl, ho4, hb4⟩
      obtain ⟨A4, c4, rfl, hc4, hm4, _⟩ := own_shape ho4
      have hl4 := Lies.of_own ho4
      have H4 := Lib.hid (HLW.out.trans (hb4.mono HLW.out.size))
      have HT := Lib.hid (HT.out.below hb4)
      have L4 := Lib.hid hl4
      clear ho4 hb4 hl4 HF1
      obtain ⟨N, hN⟩ : ∃ N, S.length = N := ⟨_, rfl⟩
      rw [hN] at L4 hc4 hSl ⊢
      have HN := Lib.hid hN
      clear hN
      have HR : Hid (GetLoop w4 N S key s w4.heap.size N (.bool false) (.int .i64 0) (w4.alloc (.cells #[.string ⟨#[]⟩, .int .u64 0, .bool false, .string ⟨#[]⟩] 48))) := ⟨0, none, by omega, rfl, (Below.refl _ _).alloc (Nat.le_refl _) _, heap_alloc_new w4 _, rfl, rfl⟩
      go_wp2_with fail
      go_loopg [10, 11] N (fun j th i wr => GetLoop w4 N S key s w4.heap.size j th i wr)
      case atStart => exact HR.out
      case round =>
        clear HR
        obtain ⟨k, o, hkN, rfl, hbr, hbx, hfo, rfl⟩ := hrel
        have HBR := Lib.hid hbr
        cases o with
        | some x =>
          have hfd := find_front hfo
          have hgx : getE S key s = some x := (getE_find S HSR.out key s).trans hfd
          have hga := getE_again HSR.out hgx
          have HT2 := Lib.hid (HT.out.below hbr)
          have HG1 : Hid (Calls Try.prog 21 #[tp t, .string key, .int .u64 (s : Int)] wr fun e w' => e = .returned (.tuple #[.agg #[.string x.m.k, .int .u64 (x.m.s : Int), .bool x.m.g, .string x.x], .bool true]) ∧ Below wr.heap.size wr w') := by
            have q := tb_get HT2.out key s
            rw [hgx] at q; exact q
          have HGA := Lib.hid hga
          have hbx2 : Hid (wr.heap[w4.heap.size]? = some (.cells #[.string x.m.k, .int .u64 (x.m.s : Int), .bool x.m.g, .string x.x] 48 (0, 0))) := hbx
          have hgs : w4.heap.size < wr.heap.size := by
            rcases Nat.lt_or_ge w4.heap.size wr.heap.size with q | q
            · exact q
            · rw [Array.getElem?_eq_none q] at hbx; cases hbx
          have H5 := Lib.hid (H4.out.trans (hbr.mono H4.out.size))
          clear hfo hfd hgx hga hbr hbx
          rcases Classical.em ((k : Int) < (N : Int)) with hz | hz <;>
          · go_wp2_with fail
            refine HG1.out.mono ?_
            rintro e w5 ⟨rfl, hb5⟩
            have H6 := Lib.hid (H5.out.trans (hb5.mono H5.out.size))
            have HT3 := Lib.hid (HT2.out.below hb5)
            have hbw : w5.heap[w4.heap.size]? = some (.cells #[.string x.m.k, .int .u64 (x.m.s : Int), .bool x.m.g, .string x.x] 48 (0, 0)) := (hb5.block _ hgs).trans hbx2.out
            have hgs5 : w4.heap.size < w5.heap.size := Nat.lt_of_lt_of_le hgs hb5.size
            obtain ⟨W5, hW5⟩ : ∃ W, w5.alloc (.cells #[.string x.m.k, .int .u64 (x.m.s : Int), .bool x.m.g, .string x.x] 48) = W := ⟨_, rfl⟩
            have hb6 : Below w5.heap.size w5 W5 := by rw [← hW5]; exact (Below.refl _ _).alloc (Nat.le_refl _) _
            have hx5 : W5.heap[w5.heap.size]? = some (.cells #[.string x.m.k, .int .u64 (x.m.s : Int), .bool x.m.g, .string x.x] 48 (0, 0)) := by rw [← hW5]; exact heap_alloc_new w5 _
            have hs5 : W5.heap.size = w5.heap.size + 1 := by rw [← hW5]; simp
            have hbw2 := (hb6.block _ hgs5).trans hbw
            have x1 : W5.cell? ⟨w5.heap.size, 1, none⟩ = some (.int .u64 (x.m.s : Int)) := cell_of_row W5 _ 1 _ _ (0, 0) hx5
            have H7 := Lib.hid (H6.out.trans (hb6.mono H6.out.size))
            have HT4 := Lib.hid (HT3.out.below hb6)
            have HG2 : Hid (Calls Try.prog 21 #[tp t, .string key, .int .u64 (x.m.s : Int)] W5 fun e w' => e = .returned (.tuple #[.agg #[.string x.m.k, .int .u64 (x.m.s : Int), .bool x.m.g, .string x.x], .bool true]) ∧ Below W5.heap.size W5 w') := by
              have q := tb_get HT4.out key x.m.s
              rw [HGA.out] at q; exact q
            have K : Hid (∀ W', Below W5.heap.size W5 W' → (W'.cell? ⟨w4.heap.size, 0, none⟩ = some (.string x.m.k) ∧ W'.cell? ⟨w4.heap.size, 1, none⟩ = some (.int .u64 (x.m.s : Int)) ∧ W'.cell? ⟨w4.heap.size, 2, none⟩ = some (.bool x.m.g) ∧ W'.cell? ⟨w4.heap.size, 3, none⟩ = some (.string x.x)) ∧ W'.cell? ⟨w5.heap.size, 0, none⟩ = some (.string x.m.k) ∧ W'.cell? ⟨w5.heap.size, 1, none⟩ = some (.int .u64 (x.m.s : Int)) ∧ W'.cell? ⟨w5.heap.size, 2, none⟩ = some (.bool x.m.g) ∧ W'.cell? ⟨w5.heap.size, 3, none⟩ = some (.string x.x)) := fun W' hb' => by
              have p1 := (hb'.block w4.heap.size (by omega)).trans hbw2
              have p2 := (hb'.block w5.heap.size (by omega)).trans hx5
              exact ⟨⟨cell_of_row W' _ 0 _ _ (0, 0) p1, cell_of_row W' _ 1 _ _ (0, 0) p1, cell_of_row W' _ 2 _ _ (0, 0) p1, cell_of_row W' _ 3 _ _ (0, 0) p1⟩, cell_of_row W' _ 0 _ _ (0, 0) p2, cell_of_row W' _ 1 _ _ (0, 0) p2, cell_of_row W' _ 2 _ _ (0, 0) p2, cell_of_row W' _ 3 _ _ (0, 0) p2⟩
            clear hb5 hb6 hbw hbw2 hx5 hgs5 hs5
            go_wp2_with fail
            clear hW5
            refine HG2.out.mono ?_
            rintro e w6 ⟨rfl, hb7⟩
            have H8 := Lib.hid (H7.out.trans (hb7.mono H7.out.size))
            obtain ⟨W6, hW6⟩ : ∃ W, w6.alloc (.cells #[.string x.m.k, .int .u64 (x.m.s : Int), .bool x.m.g, .string x.x] 48) = W := ⟨_, rfl⟩
            have hb8 : Below w6.heap.size w6 W6 := by rw [← hW6]; exact (Below.refl _ _).alloc (Nat.le_refl _) _
            have hx6 : W6.heap[w6.heap.size]? = some (.cells #[.string x.m.k, .int .u64 (x.m.s : Int), .bool x.m.g, .string x.x] 48 (0, 0)) := by rw [← hW6]; exact heap_alloc_new w6 _
            have y0 : W6.cell? ⟨w6.heap.size, 0, none⟩ = some (.string x.m.k) := cell_of_row W6 _ 0 _ _ (0, 0) hx6
            have y1 : W6.cell? ⟨w6.heap.size, 1, none⟩ = some (.int .u64 (x.m.s : Int)) := cell_of_row W6 _ 1 _ _ (0, 0) hx6
            have y2 : W6.cell? ⟨w6.heap.size, 2, none⟩ = some (.bool x.m.g) := cell_of_row W6 _ 2 _ _ (0, 0) hx6
            have y3 : W6.cell? ⟨w6.heap.size, 3, none⟩ = some (.string x.x) := cell_of_row W6 _ 3 _ _ (0, 0) hx6
            obtain ⟨⟨p0, p1, p2, p3⟩, q0, q1, q2, q3⟩ := K.out W6 (hb7.trans (hb8.mono hb7.size))
            have H9 := Lib.hid (H8.out.trans (hb8.mono H8.out.size))
            clear hb7 hb8 hx6
            go_wp2_with fail
            go_ret
            exact ⟨rfl, H9.out⟩
        | none =>
          by_cases hlt : k < N
          · have k0 : (0 : Int) ≤ (k : Int) := by omega
            have k1 : (k : Int) < (N : Int) := by omega
            obtain ⟨b, o, e0, rfl, hbB, hu, c0, c1, c2, c3⟩ := ((L4.out.below hbr).more hbr.size).entry hlt
            have hft := find_take hu hfo
            have z0 : wr.cell? ⟨w4.heap.size, 0, none⟩ = some (.string ⟨#[]⟩) := cell_of_row wr _ 0 _ _ (0, 0) hbx
            have z1 : wr.cell? ⟨w4.heap.size, 1, none⟩ = some (.int .u64 0) := cell_of_row wr _ 1 _ _ (0, 0) hbx
            have z2 : wr.cell? ⟨w4.heap.size, 2, none⟩ = some (.bool false) := cell_of_row wr _ 2 _ _ (0, 0) hbx
            have z3 : wr.cell? ⟨w4.heap.size, 3, none⟩ = some (.string ⟨#[]⟩) := cell_of_row wr _ 3 _ _ (0, 0) hbx
            have f0 : wr.frozen? ⟨w4.heap.size, 0, none⟩ = false := by simp [World.frozen?, hbx]
            have f1 : wr.frozen? ⟨w4.heap.size, 1, none⟩ = false := by simp [World.frozen?, hbx]
            have f2 : wr.frozen? ⟨w4.heap.size, 2, none⟩ = false := by simp [World.frozen?, hbx]
            have f3 : wr.frozen? ⟨w4.heap.size, 3, none⟩ = false := by simp [World.frozen?, hbx]
            have HF4 := Lib.hid (four_set hbx hbr (Nat.le_refl _) (.string e0.m.k) (.int .u64 (e0.m.s : Int)) (.bool e0.m.g) (.string e0.x))
            have HBX := Lib.hid hbx
            clear hbx hbr hfo hu
            by_cases hk : e0.m.k = key
            · have hks : (e0.m.k.toList == key.toList) = true := by rw [txt_eqB]; exact decide_eq_true hk
              by_cases hs2 : e0.m.s ≤ s
              · have s1 : (e0.m.s : Int) ≤ (s : Int) := by omega
                have HP1 : Hid ((S.take (k + 1)).find? (isK key (s + 1)) = some e0) := hft.trans (if_pos (by unfold isK; rw [decide_eq_true hk, decide_eq_true (show e0.m.s < s + 1 by omega)]; rfl))
                clear hft hk
                go_wp2_with fail
                go_roundg (N - (k + 1))
                case measure => omega
                case rel => exact ⟨k + 1, some e0, by omega, by go_num, HF4.out.2, HF4.out.1, HP1.out, rfl⟩
              · have s1 : decide ((e0.m.s : Int) ≤ (s : Int)) = false := decide_eq_false (by omega)
                have HP1 : Hid ((S.take (k + 1)).find? (isK key (s + 1)) = none) := hft.trans (if_neg (by unfold isK; rw [decide_eq_false (show ¬ e0.m.s < s + 1 by omega)]; simp))
                clear hft hk
                go_wp2_with fail
                go_roundg (N - (k + 1))
                case measure => omega
                case rel => exact ⟨k + 1, none, by omega, by go_num, HBR.out, HBX.out, HP1.out, rfl⟩
            · have hks : (e0.m.k.toList == key.toList) = false := by rw [txt_eqB]; exact decide_eq_false hk
              have HP1 : Hid ((S.take (k + 1)).find? (isK key (s + 1)) = none) := hft.trans (if_neg (by unfold isK; rw [decide_eq_false hk]; simp))
              clear hft hk
              go_wp2_with fail
              go_roundg (N - (k + 1))
              case measure => omega
              case rel => exact ⟨k + 1, none, by omega, by go_num, HBR.out, HBX.out, HP1.out, rfl⟩
          · obtain rfl : k = N := by omega
            have k1 : ¬ (k : Int) < (k : Int) := by omega
            have hfd : S.find? (isK key (s + 1)) = none := by rw [List.take_of_length_le (by have := HN.out; omega)] at hfo; exact hfo
            have hgx : getE S key s = none := (getE_find S HSR.out key s).trans hfd
            have HT2 := Lib.hid (HT.out.below hbr)
            have HG1 : Hid (Calls Try.prog 21 #[tp t, .string key, .int .u64 (s : Int)] wr fun e w' => e = .returned (.tuple #[.agg #[.string ⟨#[]⟩, .int .u64 0, .bool false, .string ⟨#[]⟩], .bool false]) ∧ Below wr.heap.size wr w') := by
              have q := tb_get HT2.out key s
              rw [hgx] at q; exact q
            have hbx2 : Hid (wr.heap[w4.heap.size]? = some (.cells #[.string ⟨#[]⟩, .int .u64 0, .bool false, .string ⟨#[]⟩] 48 (0, 0))) := hbx
            have hgs : w4.heap.size < wr.heap.size := by
              rcases Nat.lt_or_ge w4.heap.size wr.heap.size with q | q
              · exact q
              · rw [Array.getElem?_eq_none q] at hbx; cases hbx
            have H5 := Lib.hid (H4.out.trans (hbr.mono H4.out.size))
            clear hfo hfd hgx hbr hbx hlt
            go_wp2_with fail
            refine HG1.out.mono ?_
            rintro e w5 ⟨rfl, hb5⟩
            have H6 := Lib.hid (H5.out.trans (hb5.mono H5.out.size))
            have HT3 := Lib.hid (HT2.out.below hb5)
            have hbw : w5.heap[w4.heap.size]? = some (.cells #[.string ⟨#[]⟩, .int .u64 0, .bool false, .string ⟨#[]⟩] 48 (0, 0)) := (hb5.block _ hgs).trans hbx2.out
            have hgs5 : w4.heap.size < w5.heap.size := Nat.lt_of_lt_of_le hgs hb5.size
            obtain ⟨W0, hW0⟩ : ∃ W, w5.alloc (.cells #[.string ⟨#[]⟩, .int .u64 0, .bool false, .string ⟨#[]⟩] 48) = W := ⟨_, rfl⟩
            have hb0 : Below w5.heap.size w5 W0 := by rw [← hW0]; exact (Below.refl _ _).alloc (Nat.le_refl _) _
            have hx0 : W0.heap[w5.heap.size]? = some (.cells #[.string ⟨#[]⟩, .int .u64 0, .bool false, .string ⟨#[]⟩] 48 (0, 0)) := by rw [← hW0]; exact heap_alloc_new w5 _
            have hs0 : W0.heap.size = w5.heap.size + 1 := by rw [← hW0]; simp
            have z0 : W0.cell? ⟨w5.heap.size, 0, none⟩ = some (.string ⟨#[]⟩) := cell_of_row W0 _ 0 _ _ (0, 0) hx0
            have z1 : W0.cell? ⟨w5.heap.size, 1, none⟩ = some (.int .u64 0) := cell_of_row W0 _ 1 _ _ (0, 0) hx0
            have z2 : W0.cell? ⟨w5.heap.size, 2, none⟩ = some (.bool false) := cell_of_row W0 _ 2 _ _ (0, 0) hx0
            have z3 : W0.cell? ⟨w5.heap.size, 3, none⟩ = some (.string ⟨#[]⟩) := cell_of_row W0 _ 3 _ _ (0, 0) hx0
            have f0 : W0.frozen? ⟨w5.heap.size, 0, none⟩ = false := by simp [World.frozen?, hx0]
            have f1 : W0.frozen? ⟨w5.heap.size, 1, none⟩ = false := by simp [World.frozen?, hx0]
            have f2 : W0.frozen? ⟨w5.heap.size, 2, none⟩ = false := by simp [World.frozen?, hx0]
            have f3 : W0.frozen? ⟨w5.heap.size, 3, none⟩ = false := by simp [World.frozen?, hx0]
            obtain ⟨W5, hW5⟩ : ∃ W, (((W0.setCell ⟨w5.heap.size, 0, none⟩ (.string ⟨#[]⟩)).setCell ⟨w5.heap.size, 1, none⟩ (.int .u64 0)).setCell ⟨w5.heap.size, 2, none⟩ (.bool false)).setCell ⟨w5.heap.size, 3, none⟩ (.string ⟨#[]⟩) = W := ⟨_, rfl⟩
            obtain ⟨hx5, hb6⟩ := four_set hx0 hb0 (Nat.le_refl _) (.string ⟨#[]⟩) (.int .u64 0) (.bool false) (.string ⟨#[]⟩)
            rw [hW5] at hx5 hb6
            have hs5 : W5.heap.size = w5.heap.size + 1 := by rw [← hW5]; simp [hs0]
            have hbw2 := (hb6.block _ hgs5).trans hbw
            have x1 : W5.cell? ⟨w5.heap.size, 1, none⟩ = some (.int .u64 0) := cell_of_row W5 _ 1 _ _ (0, 0) hx5
            have H7 := Lib.hid (H6.out.trans (hb6.mono H6.out.size))
            have HT4 := Lib.hid (HT3.out.below hb6)
            obtain ⟨z, bz, hz⟩ : ∃ (z : En) (bz : Bool), okE (getE S key 0) = .tuple #[.agg #[.string z.m.k, .int .u64 (z.m.s : Int), .bool z.m.g, .string z.x], .bool bz] := ⟨_, _, rfl⟩
            have HG2 : Hid (Calls Try.prog 21 #[tp t, .string key, .int .u64 0] W5 fun e w' => e = .returned (.tuple #[.agg #[.string z.m.k, .int .u64 (z.m.s : Int), .bool z.m.g, .string z.x], .bool bz]) ∧ Below W5.heap.size W5 w') := by
              have q := tb_get HT4.out key 0
              rw [hz] at q; exact q
            clear hz
            have K : Hid (∀ W', Below W5.heap.size W5 W' → (W'.cell? ⟨w4.heap.size, 0, none⟩ = some (.string ⟨#[]⟩) ∧ W'.cell? ⟨w4.heap.size, 1, none⟩ = some (.int .u64 0) ∧ W'.cell? ⟨w4.heap.size, 2, none⟩ = some (.bool false) ∧ W'.cell? ⟨w4.heap.size, 3, none⟩ = some (.string ⟨#[]⟩)) ∧ W'.cell? ⟨w5.heap.size, 0, none⟩ = some (.string ⟨#[]⟩) ∧ W'.cell? ⟨w5.heap.size, 1, none⟩ = some (.int .u64 0) ∧ W'.cell? ⟨w5.heap.size, 2, none⟩ = some (.bool false) ∧ W'.cell? ⟨w5.heap.size, 3, none⟩ = some (.string ⟨#[]⟩)) := fun W' hb' => by
              have p1 := (hb'.block w4.heap.size (by omega)).trans hbw2
              have p2 := (hb'.block w5.heap.size (by omega)).trans hx5
              exact ⟨⟨cell_of_row W' _ 0 _ _ (0, 0) p1, cell_of_row W' _ 1 _ _ (0, 0) p1, cell_of_row W' _ 2 _ _ (0, 0) p1, cell_of_row W' _ 3 _ _ (0, 0) p1⟩, cell_of_row W' _ 0 _ _ (0, 0) p2, cell_of_row W' _ 1 _ _ (0, 0) p2, cell_of_row W' _ 2 _ _ (0, 0) p2, cell_of_row W' _ 3 _ _ (0, 0) p2⟩
            clear hb5 hb6 hbw hbw2 hx5 hgs5 hs5 hb0 hx0 hs0
            go_wp2_with fail
            clear hW5 hW0 z0 z1 z2 z3 f0 f1 f2 f3
            refine HG2.out.mono ?_
            rintro e w6 ⟨rfl, hb7⟩
            have H8 := Lib.hid (H7.out.trans (hb7.mono H7.out.size))
            obtain ⟨W6, hW6⟩ : ∃ W, w6.alloc (.cells #[.string z.m.k, .int .u64 (z.m.s : Int), .bool z.m.g, .string z.x] 48) = W := ⟨_, rfl⟩
            have hb8 : Below w6.heap.size w6 W6 := by rw [← hW6]; exact (Below.refl _ _).alloc (Nat.le_refl _) _
            have hx6 : W6.heap[w6.heap.size]? = some (.cells #[.string z.m.k, .int .u64 (z.m.s : Int), .bool z.m.g, .string z.x] 48 (0, 0)) := by rw [← hW6]; exact heap_alloc_new w6 _
            have y0 : W6.cell? ⟨w6.heap.size, 0, none⟩ = some (.string z.m.k) := cell_of_row W6 _ 0 _ _ (0, 0) hx6
            have y1 : W6.cell? ⟨w6.heap.size, 1, none⟩ = some (.int .u64 (z.m.s : Int)) := cell_of_row W6 _ 1 _ _ (0, 0) hx6
            have y2 : W6.cell? ⟨w6.heap.size, 2, none⟩ = some (.bool z.m.g) := cell_of_row W6 _ 2 _ _ (0, 0) hx6
            have y3 : W6.cell? ⟨w6.heap.size, 3, none⟩ = some (.string z.x) := cell_of_row W6 _ 3 _ _ (0, 0) hx6
            obtain ⟨⟨p0, p1, p2, p3⟩, q0, q1, q2, q3⟩ := K.out W6 (hb7.trans (hb8.mono hb7.size))
            have H9 := Lib.hid (H8.out.trans (hb8.mono H8.out.size))
            clear hb7 hb8 hx6
            go_wp2_with fail
            go_ret
            exact ⟨rfl, H9.out⟩
  · go_wp2_with fail
    refine HAL.out.mono ?_
    rintro e w3 ⟨rfl, hb3⟩
    have HF := Lib.hid hb3; clear hb3
    go_wp2_with fail
    go_ret
    exact ⟨rfl, HF.out⟩
end Go.Proofs.Ytopcnlophmplgaa
