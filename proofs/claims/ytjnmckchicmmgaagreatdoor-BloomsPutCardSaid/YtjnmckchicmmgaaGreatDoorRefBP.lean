/-
  The document's own answers of layer 9: Put.
-/
import Derived.Test.YtjnmckchicmmgaaGreatDoorRefB
import Derived.Test.YtjnmckchicmmgaaGreatDoorBlmC
import Derived.Deep.RegionLaw
namespace Go.Proofs.YtjnmckchicmmgaaGreatDoor
open Go.RowKit
set_option linter.unusedVariables false
set_option maxRecDepth 100000

/-- a bit that is set stays -/
theorem put1_has (b : List UInt8) (q : Nat) (h : Blm.has b q = true) : Blm.put1 b q = b := by
  apply Blm.eq_of_has (Blm.put1_len b q)
  intro r
  by_cases hq : q < 8 * b.length
  · rw [Blm.has_put1 _ _ _ hq]
    by_cases e : q = r
    · subst e; rw [h]; rfl
    · simp [e]
  · unfold Blm.put1
    rw [List.set_eq_of_length_le (by omega)]
theorem own_put1' {w : World} {base g n c q : Nat} {b : List UInt8} (h : w.ownsRow base 5 1 (.slice (some ⟨g, 0, none⟩) n c) n (b.map bv)) (hq : q / 8 < b.length) {u : Value}
    (hu : u = .int .u8 (((b.getD (q / 8) 0).toNat ||| 2 ^ (q % 8) : Nat) : Int)) :
    (w.setCell ⟨g, q / 8, none⟩ u).ownsRow base 5 1 (.slice (some ⟨g, 0, none⟩) n c) n ((Blm.put1 b q).map bv) ∧ w.grownBy (w.setCell ⟨g, q / 8, none⟩ u) (some g) := by
  have := own_put1 (r := []) (b := b) (w := w) (base := base) (g := g) (n := n) (c := c) (by rw [List.append_nil]; exact h) hq hu
  rw [List.append_nil] at this
  exact this

set_option maxHeartbeats 8000000 in
theorem rbPut_any (A : Option Addr) (n c B : Nat) (T : List ByteArray) (w : World) (h : Lies w B 1 A n (T.map Value.string)) (hB : B ≤ w.heap.size) (hT : ∀ s ∈ T, s.size ≤ 1000000) (hn : n ≤ 1000) :
    Calls Tryz.prog 7 #[.slice A n c] w fun e w' => Got w (Blm.size n + 1) (Blm.filt (kys T)) e w' := by
  have hTl : T.length = n := by have := h.len; simp at this; exact this
  obtain ⟨N, hN⟩ : ∃ N, Blm.size n = N := ⟨_, rfl⟩
  have hN8 : 8 ≤ N := by rw [← hN]; exact Blm.size_pos n
  obtain ⟨M, hM⟩ : ∃ M, max 64 (10 * n) = M := ⟨_, rfl⟩
  have hNq : N = max ((n * 10 + 7) / 8) 8 := by rw [← hN]; rfl
  have hMN : (M + 7) / 8 = N := by omega
  have hMl : M ≤ 10064 := by omega
  have hNl : N ≤ 2000 := by omega
  have hmax : ∀ ts t W, (Builtin.max_ ts t #[.int .i64 64, .int .i64 (10 * (n : Int))]).run Tryz.prog W = .ok (.int .i64 (M : Int)) W := fun ts t W => by
    rw [run_max_int2]
    congr 2
    split <;> omega
  have hq : ((M : Int) + 7) / 8 = (N : Int) := by omega
  obtain ⟨i0, hi, hz0, hz1, hz2⟩ := info_parts byte_info
  obtain ⟨w1, hmk, ho1, hg1⟩ := run_make_full (P := Tryz.prog) (w := w) w.heap.size 25 5 i0 _ 1 Tryz.underlying25 hi hz0 hz1 .i64 .i64 N (by rw [hz2]; omega) (by unfold maxLen; omega) (Nat.le_refl _)
  have e : (madeCells (Value.int .u8 0).cells (N * 1)).toList = (List.replicate N (0 : UInt8)).map bv := by
    rw [Nat.mul_one]
    refine (toList_madeCells_one (.int .u8 0) N).trans ?_
    rw [List.map_replicate]; rfl
  rw [e] at ho1
  have hb1 : Below w.heap.size w w1 := (Below.refl _ _).grown hg1 (Nat.le_refl _) (fun k e => by cases e)
  have h0 : Blm.upto (kys T) N 0 = List.replicate N 0 := by unfold Blm.upto; simp
  rw [← h0] at ho1
  have R0 : Hid (∃ k : Nat, k ≤ n ∧ (Value.int .i64 0) = .int .i64 (k : Int) ∧ w1.ownsRow w.heap.size 5 1 (.slice (some ⟨w.heap.size, 0, none⟩) N N) N ((Blm.upto (kys T) N k).map bv) ∧ Below w.heap.size w w1) := ⟨0, Nat.zero_le _, rfl, ho1, hb1⟩
  have HH := Lib.hid h; have HT := Lib.hid hT; have HTL := Lib.hid hTl; have HNN := Lib.hid hN
  rw [hN]
  clear e h0 ho1 hg1 hb1 h hT hTl hN hM hNq hMN hi hz0 hz1 hz2
  go_enter Tryz.func7, Tryz.ntmps7
  go_wp2
  rw [hq]
  clear hmax hq hmk
  go_loopw [5] (fun i wr => ∃ k : Nat, k ≤ n ∧ i = .int .i64 (k : Int) ∧ wr.ownsRow w.heap.size 5 1 (.slice (some ⟨w.heap.size, 0, none⟩) N N) N ((Blm.upto (kys T) N k).map bv) ∧ Below w.heap.size w wr) (fun i _ => n - (intOf i).toNat)
  case atStart => exact R0.out
  case round =>
    clear R0
    obtain ⟨k, hk, rfl, ho, hb⟩ := hrel
    have HO := Lib.hid ho; have HB := Lib.hid hb
    clear ho hb
    by_cases hlt : k < n
    · obtain ⟨b, o, u, rfl, hbB, hu, hcell0⟩ := HH.out.at_ (j := k) hlt
      obtain ⟨x, hx, rfl⟩ : ∃ x, T[k]? = some x ∧ u = Value.string x := by
        rw [List.getElem?_map] at hu
        cases hx : T[k]? with
        | none => rw [hx] at hu; cases hu
        | some x => rw [hx] at hu; injection hu with hu; exact ⟨x, rfl, hu.symm⟩
      have HCL : Hid (∀ W, Below w.heap.size w W → W.cell? ⟨b, o + k, none⟩ = some (.string x)) := fun W hW => (hW.cell (p := ⟨b, o + k, none⟩) (Nat.lt_of_lt_of_le hbB hB)).trans hcell0
      have hxs := HT.out x (List.mem_of_getElem? hx)
      have HNX : Hid (Blm.upto (kys T) N (k + 1) = Blm.putK (Blm.upto (kys T) N k) x.data.toList 6) := Blm.upto_succ _ _ _ _ (by rw [List.getElem?_map, hx]; rfl)
      have HL := Lib.hid (Blm.upto_len (kys T) N k)
      obtain ⟨b0, hb0⟩ : ∃ b0, Blm.upto (kys T) N k = b0 := ⟨_, rfl⟩
      rw [hb0] at HNX HL HO
      clear hx hu hcell0 hb0
      have R1 : Hid (∃ i : Nat, i ≤ 6 ∧ (Value.int .i64 0) = .int .i64 (i : Int) ∧ wr.ownsRow w.heap.size 5 1 (.slice (some ⟨w.heap.size, 0, none⟩) N N) N ((Blm.putK b0 x.data.toList i).map bv) ∧ Below w.heap.size w wr) := ⟨0, Nat.zero_le _, rfl, HO.out, HB.out⟩
      go_wp2
      go_loopw [6] (fun i wr => ∃ i' : Nat, i' ≤ 6 ∧ i = .int .i64 (i' : Int) ∧ wr.ownsRow w.heap.size 5 1 (.slice (some ⟨w.heap.size, 0, none⟩) N N) N ((Blm.putK b0 x.data.toList i').map bv) ∧ Below w.heap.size w wr) (fun i _ => 6 - (intOf i).toNat)
      case atStart => exact R1.out
      case round =>
        clear R1
        obtain ⟨i, hi6, rfl, ho, hb⟩ := hrel
        have HO1 := Lib.hid ho; have HB1 := Lib.hid hb
        clear ho hb
        by_cases hlt6 : i < 6
        · obtain ⟨N8, hN8e⟩ : ∃ N8, 8 * N = N8 := ⟨_, rfl⟩
          have e8 : (8 : Int) * (N : Int) = (N8 : Int) := by omega
          have HPL := Lib.hid (place_any x i (8 * N) wr hxs hlt6 (by omega) (by omega))
          obtain ⟨q, hq⟩ : ∃ q, Blm.pos x.data.toList (8 * N) i = q := ⟨_, rfl⟩
          have hql : q < 8 * N := by rw [← hq]; exact Blm.pos_lt _ (by omega) i
          rw [hq, hN8e] at HPL
          have HNI : Hid (Blm.putK b0 x.data.toList (i + 1) = Blm.put1 (Blm.putK b0 x.data.toList i) q) := by
            show Blm.put1 _ _ = _
            rw [HL.out, hq]
          have HLI : Hid ((Blm.putK b0 x.data.toList i).length = N) := by rw [Hid, Blm.putK_len, HL.out]
          clear hq hN8e
          have hcx := HCL.out wr HB1.out
          generalize Blm.putK b0 x.data.toList i = bk at *
          obtain ⟨bk2, hbk2⟩ : ∃ bk2, Blm.putK b0 x.data.toList (i + 1) = bk2 := ⟨_, rfl⟩
          have HK2 := Lib.hid hbk2
          rw [hbk2] at HNI
          clear hbk2
          obtain ⟨d, hd⟩ : ∃ d, q / 8 = d := ⟨_, rfl⟩
          have hdl : d < N := by omega
          obtain ⟨r, hr⟩ : ∃ r, q % 8 = r := ⟨_, rfl⟩
          have hrl : r < 8 := by omega
          obtain ⟨M, hM⟩ : ∃ M, 2 ^ r = M := ⟨_, rfl⟩
          obtain ⟨xv, hxv⟩ : ∃ x : UInt8, bk[d]? = some x := ⟨_, List.getElem?_eq_getElem (by have := HLI.out; omega)⟩
          have hxl := xv.toNat_lt
          have hqb : decide (xv.toNat / M % 2 = 0) = !(Blm.has bk q) := by
            unfold Blm.has
            rw [hd, List.getD_eq_getElem?_getD, hxv, ← hM, hr]
            exact bit_quo (by simpa using hxl) hrl
          have hbt : Blm.has bk q = xv.toNat.testBit r := by
            unfold Blm.has
            rw [hd, List.getD_eq_getElem?_getD, hxv, hr]; rfl
          have hadd : Blm.has bk q = false → xv.toNat ||| M = xv.toNat + M := fun h0 => by
            rw [hbt] at h0
            rw [← hM]
            exact Blm.or_tab xv.toNat (by simpa using hxl) r hrl h0
          have HPUT : Hid (∀ W : World, W.ownsRow w.heap.size 5 1 (.slice (some ⟨w.heap.size, 0, none⟩) N N) N (bk.map bv) → (W.setCell ⟨w.heap.size, d, none⟩ (.int .u8 ((xv.toNat ||| M : Nat) : Int))).ownsRow w.heap.size 5 1 (.slice (some ⟨w.heap.size, 0, none⟩) N N) N (bk2.map bv)) := fun W hW => by
            have h1 := own_put1' (q := q) hW (by have := HLI.out; omega) (u := .int .u8 ((xv.toNat ||| M : Nat) : Int)) (by rw [List.getD_eq_getElem?_getD, hd, hxv, hr, hM]; rfl)
            rw [hd, ← HNI.out] at h1
            exact h1.1
          have hmlt : M < 256 := by rw [← hM]; exact Blm.pow_lt hrl
          have horl : xv.toNat ||| M < 256 := by rw [← hM]; exact Blm.or_lt (by simpa using hxl) r hrl
          have hcw : Hid (∀ W : World, W.ownsRow w.heap.size 5 1 (.slice (some ⟨w.heap.size, 0, none⟩) N N) N (bk.map bv) → W.cell? ⟨w.heap.size, d, none⟩ = some (.int .u8 (xv.toNat : Int))) := fun W hW => by
            rw [hW.cellAt d (by omega), List.getElem?_map, hxv]; rfl
          have g1 : (q : Int).tdiv 8 = (d : Int) := by rw [← hd]; rfl
          have g2 : (q : Int).tmod 8 = (r : Int) := by rw [← hr]; rfl
          have g3 : IntKind.i64.wrap (d : Int) = (d : Int) := IntWalk.i64_in _ (by omega)
          have hdn : (d : Int) < (N : Int) := by omega
          have hd0 : (0 : Int) ≤ (d : Int) := by omega
          have hr0 : (0 : Int) ≤ (r : Int) := by omega
          have g4 : IntKind.u8.wrap ((2 : Int) ^ r) = (M : Int) := by
            rw [IntKind.wrap_u8, ← hM]
            exact (by decide : ∀ k : Nat, k < 8 → (2 : Int) ^ k % 256 = ((2 ^ k : Nat) : Int)) r hrl
          have hM0 : 0 < M := by rw [← hM]; exact Blm.pow_pos r
          have hMi : (0 : Int) < (M : Int) := by omega
          have hMn : ¬ (M : Int) = 0 := by omega
          have hMz : ((M : Int) == 0) = false := by simp; omega
          generalize xv.toNat = xn at *
          generalize xn ||| M = zn at *
          obtain ⟨t, ht⟩ : ∃ t, xn / M = t := ⟨_, rfl⟩
          have htl : t < 256 := by
            have := Nat.div_le_self xn M
            have : xn < 256 := by simpa using hxl
            omega
          have g5 : (xn : Int).tdiv (M : Int) = (t : Int) := by rw [← ht]; rfl
          have g6 : IntKind.u8.wrap (t : Int) = (t : Int) := by rw [IntKind.wrap_u8]; omega
          obtain ⟨z, hz⟩ : ∃ z, t % 2 = z := ⟨_, rfl⟩
          have g7 : (t : Int).tmod 2 = (z : Int) := by rw [← hz]; rfl
          rw [ht, hz] at hqb
          have hzl : z < 2 := by omega
          clear hd hr hxv hM ht hz hM0
          go_wp2_with fail
          with_reducible refine HPL.out.mono ?_
          rintro e w5 ⟨rfl, hb5⟩
          have HO5 := Lib.hid (own_below HO1.out hb5)
          have HB5 := Lib.hid (HB1.out.trans (hb5.mono HB1.out.size))
          have hc5 := hcw.out w5 HO5.out
          clear e8 HPL hb5 hcx hcw
          cases hbit : Blm.has bk q with
          | true =>
            rw [hbit] at hqb
            have hz1 : ((z : Int) == 0) = false := by
              have : ¬ z = 0 := by simpa using hqb
              simp; omega
            have HSM : Hid (bk2 = bk) := by rw [Hid, HNI.out, put1_has _ _ hbit]
            have R : Hid (∀ nq, ∃ i' : Nat, i' ≤ 6 ∧ (Value.int .i64 ((i : Int) + 1)) = .int .i64 (i' : Int) ∧ (w5.drewN nq).ownsRow w.heap.size 5 1 (.slice (some ⟨w.heap.size, 0, none⟩) N N) N ((Blm.putK b0 x.data.toList i').map bv) ∧ Below w.heap.size w (w5.drewN nq)) := fun nq =>
              ⟨i + 1, hlt6, by simp, by rw [HK2.out, HSM.out]; exact own_below HO5.out (below_drewN (Below.refl _ _) nq), below_drewN HB5.out nq⟩
            clear hqb hadd hbt hbit HPUT HNI
            go_wp2
            go_quiet (fail)
            clear g1 g2 g3 g4 g5 g6 g7 hMn hMz hc5
            go_wp2
            go_roundw
            case rel => exact R.out _
            case measure => simp [intOf]; omega
          | false =>
            rw [hbit] at hqb
            have hz1 : ((z : Int) == 0) = true := by
              have : z = 0 := by simpa using hqb
              simp; omega
            have hzn := hadd hbit
            have g8 : IntKind.u8.wrap ((xn : Int) + (M : Int)) = (zn : Int) := by rw [IntKind.wrap_u8]; omega
            clear hqb hadd hbt hbit HNI hzn
            go_wp2
            go_quiet (fail)
            have HO6 := Lib.hid (own_below HO5.out (below_drewN (Below.refl _ _) nq))
            have HB6 := Lib.hid (below_drewN HB5.out nq)
            have hc6 : (w5.drewN nq).cell? ⟨w.heap.size, d, none⟩ = some (.int .u8 (xn : Int)) := hc5
            obtain ⟨w6, hw6⟩ : ∃ w6, w5.drewN nq = w6 := ⟨_, rfl⟩
            rw [hw6] at HO6 HB6 hc6 ⊢
            have hf6 := HO6.out.frozenAt d
            have R : Hid (∃ i' : Nat, i' ≤ 6 ∧ (Value.int .i64 ((i : Int) + 1)) = .int .i64 (i' : Int) ∧ (w6.setCell ⟨w.heap.size, d, none⟩ (.int .u8 (zn : Int))).drew.ownsRow w.heap.size 5 1 (.slice (some ⟨w.heap.size, 0, none⟩) N N) N ((Blm.putK b0 x.data.toList i').map bv) ∧ Below w.heap.size w (w6.setCell ⟨w.heap.size, d, none⟩ (.int .u8 (zn : Int))).drew) :=
              ⟨i + 1, hlt6, by simp, by rw [HK2.out]; exact HPUT.out w6 HO6.out, (HB6.out.setCell (p := ⟨w.heap.size, d, none⟩) (Nat.le_refl _) _).drew⟩
            clear hw6 hc5 HPUT
            go_wp2
            go_region_law (fail)
            all_goals (
              clear g1 g2 g3 g4 g5 g6 g7 g8 hMn hMz hc6 hf6
              go_wp2
              go_roundw
              case rel => exact R.out
              case measure => simp [intOf]; omega)
        · obtain rfl : i = 6 := by omega
          have R : Hid (∃ k' : Nat, k' ≤ n ∧ (Value.int .i64 ((k : Int) + 1)) = .int .i64 (k' : Int) ∧ wr.ownsRow w.heap.size 5 1 (.slice (some ⟨w.heap.size, 0, none⟩) N N) N ((Blm.upto (kys T) N k').map bv) ∧ Below w.heap.size w wr) := ⟨k + 1, hlt, by simp, by rw [HNX.out]; exact HO1.out, HB1.out⟩
          go_wp2
          go_roundw
          case rel => exact R.out
          case measure => simp [intOf]; omega
    · obtain rfl : k = n := by omega
      have hfin : (Blm.upto (kys T) N k).map bv ++ [.int .u8 6] = (Blm.filt (kys T)).map bv := by
        have h1 : (kys T).length = k := by rw [List.length_map]; exact HTL.out
        have h2 := Blm.upto_all (kys T) k (Nat.le_of_eq h1)
        rw [h1, HNN.out] at h2
        rw [← h2, List.map_append]; rfl
      have HFIN := Lib.hid hfin
      obtain ⟨i0, hi, hz0, hz1, hz2⟩ := info_parts byte_info
      clear hfin
      go_wp2_with (at_builtin; refine wpList_app _ rfl (.tmp 58) (.tmp 59) 25 rfl w.heap.size 5 i0 _ 1 1 Tryz.underlying25 hi hz0 hz1 hz2 rfl (by decide) (.slice (some ⟨w.heap.size, 0, none⟩) N N) N _ rfl (HO.out.alloc _) (wr.heap.size + 1) (some ⟨wr.heap.size, 0, none⟩) 1 1 [.int .u8 6] rfl ?d1 ?d2 ?d3 ?d4 ?d5 ?_)
      case d1 => exact one_lies rfl _ _
      case d2 => intro u hu; simp at hu; subst hu; rfl
      case d3 => unfold maxLen; omega
      case d4 => omega
      case d5 => have := HB.out.size; simp; omega
      intro v2 w2 hown2 hg2 _
      have hb2 : Below w.heap.size w w2 := (HB.out.alloc HB.out.size _).grown hg2 (by have := HB.out.size; simp; omega) (fun j hj => Nat.le_of_eq (by simpa [Value.ownBlock] using hj))
      have hown3 : w2.ownsRow w.heap.size 5 1 v2 (N + 1) ((Blm.filt (kys T)).map bv) := by rw [← HFIN.out]; exact hown2
      have HG := Lib.hid (got_of hown3 hb2)
      clear hown2 hg2 hown3 hb2 hi hz0 hz1 hz2
      go_wp2
      go_ret
      exact HG.out
end Go.Proofs.YtjnmckchicmmgaaGreatDoor
