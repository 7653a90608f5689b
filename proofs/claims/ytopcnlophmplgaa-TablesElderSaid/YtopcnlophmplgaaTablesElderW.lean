/-
  The walk of TablesElder.
-/
import Derived.Test.YtopcnlophmplgaaTNum
import Derived.Deep.RegionHeld3
namespace Go.Proofs.Ytopcnlophmplgaa
open Go.RowKit
set_option linter.unusedVariables false
set_option maxRecDepth 100000

/-- the entry ahead of the k-th -/
def prevE (S : List En) (k : Nat) : Option En := if k = 0 then none else S[k - 1]?
theorem prevE_next (S : List En) (k : Nat) : prevE S (k + 1) = S[k]? := by unfold prevE; rw [if_neg (by omega)]; rfl
def CountRel (w4 : World) (N : Nat) (S : List En) (key : ByteArray) (M : Nat) (j : Nat) (n i : Value) (wr : World) : Prop :=
  ∃ k q : Nat, k + j = N ∧ i = .int .i64 (k : Int) ∧ n = .int .i64 (q : Int) ∧ q + nums key 18446744073709551616 (prevE S k) (S.drop k) = M ∧ Below w4.heap.size w4 wr
/-- the numbers below B are still to be told -/
def TellRel (w5 : World) (S : List En) (key : ByteArray) (M : Nat) (j : Nat) (s i : Value) (wr : World) : Prop :=
  ∃ k v : Nat, k + j = M ∧ i = .int .i64 (k : Int) ∧ v < 18446744073709551616 ∧ s = .int .u64 (v : Int) ∧ nums key (v + 1) none S = j ∧ Below w5.heap.size w5 wr

set_option maxHeartbeats 8000000 in
theorem tablesElder_walk (A : Option Addr) (n c : Nat) (l : List En) (key : ByteArray) (w : World) (y : Lies w w.heap.size 4 A n (ecs l)) (hm : ∀ x ∈ l, x.m.s < 18446744073709551616 ∧ x.m.k.size ≤ 140737488351232 ∧ x.x.size ≤ 140737488351232) (hll : l.length = n) (hnc : n ≤ c) (hc : c ≤ 140737488351232)
    (hkey : key.size ≤ 140737488351232) :
    Calls Try.prog 10 #[.slice A n c, .string key] w fun e w' => e = .returned (.bool true) ∧ Below w.heap.size w w' := by
  have Y : Hid (∀ W', Below w.heap.size w W' → Lies W' W'.heap.size 4 A n (ecs l)) := fun W' hb' => (y.below hb').more hb'.size
  clear y
  go_enter Try.func10, Try.ntmps10
  go_wp2_with fail
  refine (alive7_any w).mono ?_
  rintro e w1 ⟨rfl, hb1⟩
  have H1 := Lib.hid hb1; clear hb1
  go_wp2_with fail
  refine (many_any A n c l w1 (Y.out w1 H1.out) hm (by omega)).mono ?_
  rintro e w2 ⟨b, rfl, hb, hb2⟩
  have H2 := Lib.hid (H1.out.trans (hb2.mono H1.out.size)); clear hb2
  have HAL : Hid (Calls Try.prog 26 #[] w2 fun e w' => e = .returned (.bool true) ∧ Below w.heap.size w w') := (alive7_any w2).mono fun e w' ⟨he, hb'⟩ => ⟨he, H2.out.trans (hb'.mono H2.out.size)⟩
  cases b
  · obtain ⟨hn, hsz⟩ := hb rfl
    clear hb
    by_cases hk : 1000 < key.size
    · have i1 : (1000 : Int) < (key.size : Int) := by omega
      go_wp2_with fail
      refine HAL.out.mono ?_
      rintro e w3 ⟨rfl, hb3⟩
      have HF := Lib.hid hb3; clear hb3
      go_wp2_with fail
      go_ret
      exact ⟨rfl, HF.out⟩
    · have i1 : decide ((1000 : Int) < (key.size : Int)) = false := decide_eq_false (by omega)
      have HP := Lib.hid (put_all A n c l none 0 0 [] w2 (Y.out w2 H2.out) hm hn (Lies.none_ _ _ _ _) (by decide))
      clear HAL
      go_wp2_with fail
      refine HP.out.mono ?_
      rintro e w3 ⟨t, rfl, hT⟩
      have HLW := Lib.hid (H2.out.trans (hT.low.mono H2.out.size))
      obtain ⟨S, hS⟩ : ∃ S, bld l = S := ⟨_, rfl⟩
      have hSl : S.length ≤ 200 := by rw [← hS]; have := bld_len l; omega
      have hSm : ∀ e ∈ S, e.m.s < 18446744073709551616 := fun e he => by
        rw [← hS] at he
        obtain ⟨i, hi⟩ := ((built l).2 e).1 he
        exact (hm e (List.mem_of_getElem? hi.1)).1
      have hSf := hT.fine
      have hSr := hT.rise
      rw [hS] at hT hSf hSr
      have HT := Lib.hid hT
      have HSF := Lib.hid hSf; have HSR := Lib.hid hSr; have HSM := Lib.hid hSm
      clear hT hS hSf hSr HP hSm
      have hF1 := tb_from HT.out noM 1000
      rw [fromE_none HSF.out hSl, noM_v] at hF1
      have HF1 := Lib.hid hF1
      clear hF1
      go_wp2_with fail
      refine HF1.out.mono ?_
      rintro e w4 ⟨v4, rfl, ho4, hb4⟩
      obtain ⟨A4, c4, rfl, hc4, hm4, _⟩ := own_shape ho4
      have hl4 := Lies.of_own ho4
      have H4 := Lib.hid (HLW.out.trans (hb4.mono HLW.out.size))
      have HT := Lib.hid (HT.out.below hb4)
      have L4 := Lib.hid hl4
      clear ho4 hb4 hl4 HF1
      obtain ⟨N, hN⟩ : ∃ N, S.length = N := ⟨_, rfl⟩
      obtain ⟨M, hM⟩ : ∃ M, nums key 18446744073709551616 none S = M := ⟨_, rfl⟩
      have hMN : M ≤ N := by rw [← hM, ← hN]; exact nums_le _ _ _ _
      rw [hN] at L4 hc4 hSl ⊢
      have HN := Lib.hid hN
      have HM := Lib.hid hM
      have HR : Hid (CountRel w4 N S key M N (.int .i64 0) (.int .i64 0) w4) := ⟨0, 0, by omega, rfl, rfl, by rw [← hM, Nat.zero_add]; rfl, Below.refl _ _⟩
      clear hN hM
      go_wp2_with fail
      go_loopg [7, 8] N (fun j n i wr => CountRel w4 N S key M j n i wr)
      case atStart => exact HR.out
      case round =>
        clear HR
        obtain ⟨k, q, hkN, rfl, rfl, hq, hbr⟩ := hrel
        have HBR := Lib.hid hbr
        have hqM : q ≤ M := by omega
        by_cases hlt : k < N
        · have k0 : (0 : Int) ≤ (k : Int) := by omega
          have k1 : (k : Int) < (N : Int) := by omega
          obtain ⟨b, o, e0, rfl, hbB, hu, c0, c1, c2, c3⟩ := ((L4.out.below hbr).more hbr.size).entry hlt
          obtain ⟨hul, hue⟩ := List.getElem?_eq_some_iff.1 hu
          have hdr : S.drop k = e0 :: S.drop (k + 1) := by rw [List.drop_eq_getElem_cons hul, hue]
          have hes := HSM.out e0 (List.mem_of_getElem? hu)
          rw [hdr] at hq
          unfold nums at hq
          rw [show (some e0 : Option En) = prevE S (k + 1) from ((prevE_next S k).trans hu).symm, show isK key 18446744073709551616 e0 = decide (e0.m.k = key) from by unfold isK; rw [decide_eq_true hes, Bool.and_true]] at hq
          have HQ := Lib.hid hq
          clear hq hul hue hdr hes
          by_cases hk : e0.m.k = key
          · have hks : (e0.m.k.toList == key.toList) = true := by rw [txt_eqB]; exact decide_eq_true hk
            by_cases hk0 : k = 0
            · have hz : ((k : Int) == 0) = true := by rw [hk0]; rfl
              have hsn : sameNo key (prevE S k) e0 = false := by rw [hk0]; rfl
              clear hk0 hu
              go_wp2_with fail
              go_quiet (fail)
              go_wp2_with fail
              go_roundg (N - (k + 1))
              case measure => omega
              case rel => exact ⟨k + 1, q + 1, by omega, by go_num, by go_num, by have := HQ.out; rw [hsn, decide_eq_true hk, if_pos (show (true && !false) = true from rfl)] at this; exact (Nat.add_assoc _ _ _).trans this, below_drewN HBR.out _⟩
            · have hz : ((k : Int) == 0) = false := by rw [beq_eq_false_iff_ne]; omega
              obtain ⟨p, hp⟩ : ∃ p, k = p + 1 := ⟨k - 1, by omega⟩
              have hpi : (k : Int) - 1 = (p : Int) := by omega
              have hwp : IntKind.i64.wrap (p : Int) = (p : Int) := IntWalk.i64_in _ (by omega)
              have p0 : (0 : Int) ≤ (p : Int) := by omega
              have p1 : (p : Int) < (N : Int) := by omega
              have hpl : p < N := by omega
              obtain ⟨b', o', e1, hA, _, hu1, d0, d1, d2, d3⟩ := ((L4.out.below HBR.out).more HBR.out.size).entry hpl
              injection hA with hA
              injection hA with hA1 hA2
              subst hA1 hA2
              have hpv : prevE S k = some e1 := by rw [hp, prevE_next]; exact hu1
              clear hk0 hp hu hu1 hpl
              by_cases hke : e1.m.k = key
              · have hke1 : (e1.m.k.toList == key.toList) = true := by rw [txt_eqB]; exact decide_eq_true hke
                by_cases hse : e1.m.s = e0.m.s
                · have hse1 : (((e1.m.s : Nat) : Int) == ((e0.m.s : Nat) : Int)) = true := by rw [hse]; simp
                  have hsn : sameNo key (prevE S k) e0 = true := by rw [hpv]; unfold sameNo; simp [hke, hse]
                  clear hpv hse
                  go_wp2_with fail
                  go_quiet (fail)
                  go_wp2_with fail
                  go_roundg (N - (k + 1))
                  case measure => omega
                  case rel => exact ⟨k + 1, q, by omega, by go_num, rfl, by have := HQ.out; rw [hsn, decide_eq_true hk, if_neg (by decide), Nat.zero_add] at this; exact this, below_drewN HBR.out _⟩
                · have hse1 : (((e1.m.s : Nat) : Int) == ((e0.m.s : Nat) : Int)) = false := by rw [beq_eq_false_iff_ne]; omega
                  have hsn : sameNo key (prevE S k) e0 = false := by rw [hpv]; unfold sameNo; simp [hse]
                  clear hpv hse
                  go_wp2_with fail
                  go_quiet (fail)
                  go_wp2_with fail
                  go_roundg (N - (k + 1))
                  case measure => omega
                  case rel => exact ⟨k + 1, q + 1, by omega, by go_num, by go_num, by have := HQ.out; rw [hsn, decide_eq_true hk, if_pos (show (true && !false) = true from rfl)] at this; exact (Nat.add_assoc _ _ _).trans this, below_drewN HBR.out _⟩
              · have hke1 : (e1.m.k.toList == key.toList) = false := by rw [txt_eqB]; exact decide_eq_false hke
                have hsn : sameNo key (prevE S k) e0 = false := by rw [hpv]; unfold sameNo; simp [hke]
                clear hpv
                go_wp2_with fail
                go_quiet (fail)
                go_wp2_with fail
                go_roundg (N - (k + 1))
                case measure => omega
                case rel => exact ⟨k + 1, q + 1, by omega, by go_num, by go_num, by have := HQ.out; rw [hsn, decide_eq_true hk, if_pos (show (true && !false) = true from rfl)] at this; exact (Nat.add_assoc _ _ _).trans this, below_drewN HBR.out _⟩
          · have hks : (e0.m.k.toList == key.toList) = false := by rw [txt_eqB]; exact decide_eq_false hk
            clear hu
            go_wp2_with fail
            go_quiet (fail)
            go_wp2_with fail
            go_roundg (N - (k + 1))
            case measure => omega
            case rel => exact ⟨k + 1, q, by omega, by go_num, rfl, by have := HQ.out; rw [decide_eq_false hk] at this; simpa using this, below_drewN HBR.out _⟩
        · obtain rfl : k = N := by omega
          have k1 : ¬ (k : Int) < (k : Int) := by omega
          rw [List.drop_of_length_le (by have := HN.out; omega)] at hq
          obtain rfl : q = M := by unfold nums at hq; omega
          have HT2 := Lib.hid (HT.out.below hbr)
          have H5 := Lib.hid (H4.out.trans (hbr.mono H4.out.size))
          have HR2 : Hid (TellRel wr S key q q (.int .u64 18446744073709551615) (.int .i64 0) wr) := ⟨0, 18446744073709551615, by omega, rfl, by decide, rfl, HM.out, Below.refl _ _⟩
          clear hq hbr hlt
          go_wp2_with fail
          go_loopg [9, 10] q (fun j s i w' => TellRel wr S key q j s i w')
          case atStart => exact HR2.out
          case round =>
            clear HR2
            obtain ⟨i, v, hij, rfl, hv, rfl, hnum, hbr⟩ := hrel
            have i0 : (i : Int) ≤ (k : Int) := by omega
            have HT3 := Lib.hid (HT2.out.below hbr)
            have H6 := Lib.hid (H5.out.trans (hbr.mono H5.out.size))
            have HBR2 := Lib.hid hbr
            have hge := getE_find S HSR.out key v
            have HG0 := tb_get HT3.out key v
            rw [hge] at HG0
            cases hfo : S.find? (isK key (v + 1)) with
            | none =>
              rw [nums_none _ _ _ _ hfo] at hnum
              subst hnum
              obtain rfl : i = q := by omega
              have HG : Hid (Calls Try.prog 21 #[tp t, .string key, .int .u64 (v : Int)] wr fun e w2 => e = .returned (.tuple #[.agg #[.string ⟨#[]⟩, .int .u64 0, .bool false, .string ⟨#[]⟩], .bool false]) ∧ Below wr.heap.size wr w2) := by
                rw [hfo] at HG0; exact HG0
              clear hbr hfo HG0 hge
              go_wp2_with fail
              refine HG.out.mono ?_
              rintro e w7 ⟨rfl, hb7⟩
              have H7 := Lib.hid (H6.out.trans (hb7.mono H6.out.size))
              obtain ⟨W0, hW0⟩ : ∃ W, w7.alloc (.cells #[.string ⟨#[]⟩, .int .u64 0, .bool false, .string ⟨#[]⟩] 48) = W := ⟨_, rfl⟩
              have hb0 : Below w7.heap.size w7 W0 := by rw [← hW0]; exact (Below.refl _ _).alloc (Nat.le_refl _) _
              have hx0 : W0.heap[w7.heap.size]? = some (.cells #[.string ⟨#[]⟩, .int .u64 0, .bool false, .string ⟨#[]⟩] 48 (0, 0)) := by rw [← hW0]; exact heap_alloc_new w7 _
              have z0 : W0.cell? ⟨w7.heap.size, 0, none⟩ = some (.string ⟨#[]⟩) := cell_of_row W0 _ 0 _ _ (0, 0) hx0
              have z1 : W0.cell? ⟨w7.heap.size, 1, none⟩ = some (.int .u64 0) := cell_of_row W0 _ 1 _ _ (0, 0) hx0
              have z2 : W0.cell? ⟨w7.heap.size, 2, none⟩ = some (.bool false) := cell_of_row W0 _ 2 _ _ (0, 0) hx0
              have z3 : W0.cell? ⟨w7.heap.size, 3, none⟩ = some (.string ⟨#[]⟩) := cell_of_row W0 _ 3 _ _ (0, 0) hx0
              have f0 : W0.frozen? ⟨w7.heap.size, 0, none⟩ = false := by simp [World.frozen?, hx0]
              have f1 : W0.frozen? ⟨w7.heap.size, 1, none⟩ = false := by simp [World.frozen?, hx0]
              have f2 : W0.frozen? ⟨w7.heap.size, 2, none⟩ = false := by simp [World.frozen?, hx0]
              have f3 : W0.frozen? ⟨w7.heap.size, 3, none⟩ = false := by simp [World.frozen?, hx0]
              obtain ⟨W5, hW5⟩ : ∃ W, (((W0.setCell ⟨w7.heap.size, 0, none⟩ (.string ⟨#[]⟩)).setCell ⟨w7.heap.size, 1, none⟩ (.int .u64 0)).setCell ⟨w7.heap.size, 2, none⟩ (.bool false)).setCell ⟨w7.heap.size, 3, none⟩ (.string ⟨#[]⟩) = W := ⟨_, rfl⟩
              obtain ⟨hx5, hb6⟩ := four_set hx0 hb0 (Nat.le_refl _) (.string ⟨#[]⟩) (.int .u64 0) (.bool false) (.string ⟨#[]⟩)
              rw [hW5] at hb6
              have H8 := Lib.hid (H7.out.trans (hb6.mono H7.out.size))
              clear hb7 hb6 hx5 hb0 hx0
              go_wp2_with fail
              go_ret
              exact ⟨rfl, H8.out⟩
            | some x =>
              have hx := List.find?_some hfo
              unfold isK at hx
              rw [Bool.and_eq_true, decide_eq_true_eq, decide_eq_true_eq] at hx
              have hnx := nums_next S none HSR.out (fun y hy => by cases hy) hfo
              rw [hnum] at hnx
              have hks : (x.m.k.toList == key.toList) = true := by rw [txt_eqB]; exact decide_eq_true hx.1
              have s1 : ¬ (v : Int) < (x.m.s : Int) := by omega
              have HG : Hid (Calls Try.prog 21 #[tp t, .string key, .int .u64 (v : Int)] wr fun e w2 => e = .returned (.tuple #[.agg #[.string x.m.k, .int .u64 (x.m.s : Int), .bool x.m.g, .string x.x], .bool true]) ∧ Below wr.heap.size wr w2) := by
                rw [hfo] at HG0; exact HG0
              have hxs : x.m.s < 18446744073709551616 := by omega
              clear hbr hfo HG0 hge hx hnum
              have HNX := Lib.hid hnx
              clear hnx
              by_cases hs0 : x.m.s = 0
              · have hgk : gk = 1 := by have := HNX.out; rw [hs0, nums_zero] at this; omega
                have hz : ((x.m.s : Int) == 0) = true := by rw [hs0]; rfl
                have hiq : (i : Int) + 1 = (q : Int) := by omega
                have hqw : IntKind.i64.wrap (q : Int) = (q : Int) := IntWalk.i64_in _ (by omega)
                clear hs0
                go_wp2_with fail
                refine HG.out.mono ?_
                rintro e w7 ⟨rfl, hb7⟩
                have H7 := Lib.hid (H6.out.trans (hb7.mono H6.out.size))
                obtain ⟨W5, hW5⟩ : ∃ W, w7.alloc (.cells #[.string x.m.k, .int .u64 (x.m.s : Int), .bool x.m.g, .string x.x] 48) = W := ⟨_, rfl⟩
                have hb6 : Below w7.heap.size w7 W5 := by rw [← hW5]; exact (Below.refl _ _).alloc (Nat.le_refl _) _
                have hx5 : W5.heap[w7.heap.size]? = some (.cells #[.string x.m.k, .int .u64 (x.m.s : Int), .bool x.m.g, .string x.x] 48 (0, 0)) := by rw [← hW5]; exact heap_alloc_new w7 _
                have x0 : W5.cell? ⟨w7.heap.size, 0, none⟩ = some (.string x.m.k) := cell_of_row W5 _ 0 _ _ (0, 0) hx5
                have x1 : W5.cell? ⟨w7.heap.size, 1, none⟩ = some (.int .u64 (x.m.s : Int)) := cell_of_row W5 _ 1 _ _ (0, 0) hx5
                have H8 := Lib.hid (H7.out.trans (hb6.mono H7.out.size))
                clear hb7 hb6 hx5
                go_wp2_with fail
                go_ret
                exact ⟨rfl, H8.out⟩
              · obtain ⟨v', hv'⟩ : ∃ v', x.m.s = v' + 1 := ⟨x.m.s - 1, by omega⟩
                have hz : ((x.m.s : Int) == 0) = false := by rw [beq_eq_false_iff_ne]; omega
                have hsub : (x.m.s : Int) - 1 = (v' : Int) := by omega
                have hwr : IntKind.u64.wrap (v' : Int) = (v' : Int) := IntWalk.u64_in _ (by omega)
                have hnv : Hid (nums key (v' + 1) none S = gk - 1) := by rw [← hv']; have := HNX.out; show _ = _; omega
                have hv2 : v' < 18446744073709551616 := by omega
                have hgk : 1 ≤ gk := by have := HNX.out; omega
                clear hs0 hv'
                go_wp2_with fail
                refine HG.out.mono ?_
                rintro e w7 ⟨rfl, hb7⟩
                have H7 := Lib.hid (HBR2.out.trans (hb7.mono HBR2.out.size))
                obtain ⟨W5, hW5⟩ : ∃ W, w7.alloc (.cells #[.string x.m.k, .int .u64 (x.m.s : Int), .bool x.m.g, .string x.x] 48) = W := ⟨_, rfl⟩
                have hb6 : Below w7.heap.size w7 W5 := by rw [← hW5]; exact (Below.refl _ _).alloc (Nat.le_refl _) _
                have hx5 : W5.heap[w7.heap.size]? = some (.cells #[.string x.m.k, .int .u64 (x.m.s : Int), .bool x.m.g, .string x.x] 48 (0, 0)) := by rw [← hW5]; exact heap_alloc_new w7 _
                have x0 : W5.cell? ⟨w7.heap.size, 0, none⟩ = some (.string x.m.k) := cell_of_row W5 _ 0 _ _ (0, 0) hx5
                have x1 : W5.cell? ⟨w7.heap.size, 1, none⟩ = some (.int .u64 (x.m.s : Int)) := cell_of_row W5 _ 1 _ _ (0, 0) hx5
                have H8 := Lib.hid (H7.out.trans (hb6.mono H7.out.size))
                clear hb7 hb6 hx5
                go_wp2_with fail
                clear hW5 x0 x1
                go_roundg (gk - 1)
                case measure => omega
                case rel => exact ⟨i + 1, v', by omega, by go_num, hv2, rfl, hnv.out, H8.out⟩
  · go_wp2_with fail
    refine HAL.out.mono ?_
    rintro e w3 ⟨rfl, hb3⟩
    have HF := Lib.hid hb3; clear hb3
    go_wp2_with fail
    go_ret
    exact ⟨rfl, HF.out⟩
end Go.Proofs.Ytopcnlophmplgaa
