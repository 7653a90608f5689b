/-
  The walk of JournalsBack.
-/
import Derived.Test.YtbpdonnneleeeaaJEnd3
namespace Go.Proofs.Ytbpdonnneleeeaa
open Go.RowKit Go.Maps Go.Sort
set_option linter.unusedVariables false
set_option maxRecDepth 100000

/-- too many records or too long ones, or too many 'opens': alive answers -/
theorem journalsBack_big (A : Option Addr) (n c : Nat) (A' : Option Addr) (n' c' : Nat) (rs : List Rcd) (w : World) (y : Lies w w.heap.size 1 A n (rs.map Rcd.v)) (u : Rcds w w.heap.size rs) (hn : n ≤ 140737488351232) (hn' : n' ≤ 140737488351232)
    (hcase : 60 < n ∨ 100 < n' ∨ 70000 < n + rsum rs) :
    Calls Try.prog 4 #[.slice A n c, .slice A' n' c'] w fun e w' => e = .returned (.bool true) ∧ Below w.heap.size w w' := by
  have Y := Lib.hid y; have U := Lib.hid u; have HC := Lib.hid hcase
  clear y u hcase
  go_enter Try.func4, Try.ntmps4
  go_wp2_with fail
  refine (alive6_any w).mono ?_
  rintro x w1 ⟨rfl, hb1⟩
  have HB := Lib.hid hb1; clear hb1
  have fin : ∀ {W}, Below w.heap.size w W → Hid (Calls Try.prog 13 #[] W fun e w' => e = .returned (.bool true) ∧ Below w.heap.size w w') := fun {W} hW => (alive6_any W).mono fun x w' ⟨hx, hb⟩ => ⟨hx, hW.trans (hb.mono hW.size)⟩
  have F1 := fin HB.out
  clear fin
  by_cases h1 : 60 < n
  · have i1 : (60 : Int) < (n : Int) := by omega
    go_wp2_with fail
    refine F1.out.mono ?_
    rintro x w2 ⟨rfl, hb⟩
    have HB2 := Lib.hid hb; clear hb
    go_wp2
    go_ret
    exact ⟨rfl, HB2.out⟩
  · have i1 : (n : Int) ≤ 60 := by omega
    go_wp2_with fail
    refine (recordsSize_is A n c rs w1 ((Y.out.below HB.out).more HB.out.size) ((U.out.below HB.out).more HB.out.size) hn).mono ?_
    rintro x w2 ⟨z, rfl, hw, hz, hz2, hz3⟩
    obtain rfl := hw.symm
    by_cases h2 : 70000 < z
    · have i2 : (70000 : Int) < (z : Int) := by omega
      clear hz hz3
      go_wp2_with fail
      refine F1.out.mono ?_
      rintro x w2 ⟨rfl, hb⟩
      have HB2 := Lib.hid hb; clear hb
      go_wp2
      go_ret
      exact ⟨rfl, HB2.out⟩
    · have i2 : (z : Int) ≤ 70000 := by omega
      have h3 : 100 < n' := by
        have := hz (by omega)
        rcases HC.out with h | h | h
        · exact absurd h h1
        · exact h
        · omega
      have i3 : (100 : Int) < (n' : Int) := by omega
      clear hz hz3
      go_wp2_with fail
      refine F1.out.mono ?_
      rintro x w2 ⟨rfl, hb⟩
      have HB2 := Lib.hid hb; clear hb
      go_wp2
      go_ret
      exact ⟨rfl, HB2.out⟩

/-- what holds ahead of each round -/
def BackRel (w : World) (d f n : Nat) (rs : List Rcd) (i j : Value) (wr : World) : Prop :=
  ∃ (k p : Nat) (S : St) (b : List UInt8), k ≤ n ∧ i = .int .i64 (k : Int) ∧ j = jp p ∧ Jn w wr d p f S b ((rs.take k).map Rcd.l) ∧ b.length ≤ 14 * k + 8 * rsum (rs.take k)

set_option maxHeartbeats 8000000 in
theorem journalsBack_all (A : Option Addr) (n c : Nat) (A' : Option Addr) (n' c' : Nat) (rs : List Rcd) (lo : List Bool) (w : World) (y : Lies w w.heap.size 1 A n (rs.map Rcd.v)) (u : Rcds w w.heap.size rs) (y' : Lies w w.heap.size 1 A' n' (lo.map Value.bool)) (hnc : n ≤ c)
    (h1 : n ≤ 60) (h2 : n' ≤ 100) (h3 : n + rsum rs ≤ 70000) :
    Calls Try.prog 4 #[.slice A n c, .slice A' n' c'] w fun e w' => e = .returned (.bool true) ∧ Below w.heap.size w w' := by
  have Y := Lib.hid y; have U := Lib.hid u; have O := Lib.hid y'; have hrl := y.rlen
  clear y u y'
  have i1 : (n : Int) ≤ 60 := by omega
  have i3 : (n' : Int) ≤ 100 := by omega
  go_enter Try.func4, Try.ntmps4
  go_wp2_with fail
  refine (alive6_any w).mono ?_
  rintro x w1 ⟨rfl, hb1⟩
  have HB := Lib.hid hb1; clear hb1
  go_wp2_with fail
  refine (recordsSize_is A n c rs w1 ((Y.out.below HB.out).more HB.out.size) ((U.out.below HB.out).more HB.out.size) (by omega)).mono ?_
  rintro x w2 ⟨z, rfl, hw, hz, hz2, hz3⟩
  obtain rfl := hw.symm
  obtain rfl : z = n + rsum rs := hz (by omega)
  have i2 : ((n + rsum rs : Nat) : Int) ≤ 70000 := by omega
  clear hz hz2 hz3
  have HO := Lib.hid (opened_any HB.out)
  go_wp2_with fail
  refine HO.out.mono ?_
  rintro x w3 ⟨d, p, f, rfl, hJ⟩
  have HR : Hid (BackRel w d f n rs (.int .i64 0) (jp p) w3) := ⟨0, p, _, [], Nat.zero_le _, rfl, rfl, hJ, by simp⟩
  clear hJ HO HB
  go_wp2
  go_loopw [6, 7] (fun j i wr => BackRel w d f n rs i j wr) (fun _ i _ => n - (intOf i).toNat)
  case atStart => exact HR.out
  case round =>
    clear HR
    obtain ⟨k, p, S, b, hk, rfl, rfl, hJ, hlen⟩ := hrel
    have HJ := Lib.hid hJ; have HB := Lib.hid hJ.low
    clear hJ
    by_cases hlt : k < n
    · have hi : (k : Int) < (n : Int) := by omega
      obtain ⟨g, o, r, rfl, hg, hr, hcell⟩ := Y.out.rcd hlt
      have hmem := List.mem_of_getElem? hr
      have HRb := Lib.hid (U.out r hmem)
      have hrl2 := U.out.len hmem
      have HT := Lib.hid (rsum_take rs k r hr)
      have HT2 : Hid ((rs.take (k + 1)).map Rcd.l = (rs.take k).map Rcd.l ++ [r.l]) := by
        show _ = _
        rw [List.take_add_one, hr]; simp
      have hc0 : wr.cell? ⟨g, o + k, none⟩ = some (.slice r.A r.n r.c) := (HB.out.cell hg).trans hcell
      have hsz : rsum (rs.take k) + r.n ≤ 70000 := by
        have := rsum_take_le rs (k + 1)
        rw [HT.out] at this; omega
      by_cases hkn : k < n'
      · have hi2 : (k : Int) < (n' : Int) := by omega
        obtain ⟨g2, o2, v, rfl, hg2, hv, hcell2⟩ := O.out.at_ hkn
        obtain ⟨bo, rfl⟩ : ∃ bo, v = .bool bo := by
          rw [List.getElem?_map] at hv
          cases hx : lo[k]? with
          | none => rw [hx] at hv; cases hv
          | some x => rw [hx] at hv; injection hv with hv; exact ⟨x, hv.symm⟩
        have hc2 : wr.cell? ⟨g2, o2 + k, none⟩ = some (.bool bo) := (HB.out.cell hg2).trans hcell2
        cases bo
        · go_wp2_with fail
          have hcW := hc0
          by_cases hbig : 65536 < r.n
          · have i6 : (65536 : Int) < (r.n : Int) := by omega
            refine (add_limit HJ.out.at_ r.A r.n r.c hbig (by have := HRb.out.2; omega)).mono ?_
            rintro x w9 ⟨rfl, hw⟩
            obtain rfl := hw.symm
            have HF := Lib.hid HJ.out.low
            go_wp2
            go_ret
            exact ⟨rfl, HF.out⟩
          · have hw8 := wr_len_le b.length r.l
            refine (jn_add HJ.out r.A r.n r.c r.l ((HRb.out.1.below HB.out).more HB.out.size) (by omega) HRb.out.2.1 (by have := HRb.out.2; omega) (by omega)).mono ?_
            rintro x w9 ⟨rfl, hJ⟩
            have HN := Lib.hid hJ
            rw [← HT2.out] at HN
            have HM : Hid ((b ++ Jr.wr b.length r.l).length ≤ 14 * (k + 1) + 8 * rsum (rs.take (k + 1))) := by
              show _ ≤ _
              rw [List.length_append, HT.out]; omega
            clear hJ HJ HB hcW hw8
            go_wp2
            go_roundw
            case rel => exact ⟨k + 1, _, _, _, hlt, by go_num, rfl, HN.out, HM.out⟩
            case measure => simp [intOf]; omega
        · go_wp2_with fail
          refine (jn_open HJ.out).mono ?_
          rintro x w5 ⟨p2, A2, c2, rs2, rfl, hrs2, hl2, hgs2, hJ2, hb5⟩
          have hlen2 : ((rs.take k).map Rcd.l).length = k := by rw [List.length_map, List.length_take]; omega
          rw [hlen2] at hl2 ⊢
          have HB5 := HB.out.trans (hb5.mono HB.out.size)
          have hcut : ∀ W, (Instr.slice 31 (.slice (some ⟨g, o, none⟩) n c) none (some (.int .i64 (k : Int))) none).run Try.prog W = .ok (.slice (some ⟨g, o, none⟩) k c) W := fun W => run_headR W _ n c k (by omega)
          have HSm := Lib.hid (sameR_yes (c := c2) (c2 := c) hl2 (lies_takeR ((Y.out.below HB5).more HB5.size) hk) hgs2 (Rcds.take ((U.out.below HB5).more HB5.size) k) (by omega) hrs2)
          have HJ := Lib.hid hJ2
          clear hl2 hgs2 hrs2 hJ2 hb5 HB
          go_wp2_with fail
          refine HSm.out.mono ?_
          rintro x w6 ⟨rfl, hb6⟩
          have HJ := Lib.hid (HJ.out.below hb6)
          have HB := Lib.hid (HB5.trans (hb6.mono HB5.size))
          have hcW : w6.cell? ⟨g, o + k, none⟩ = some (.slice r.A r.n r.c) := (HB.out.cell hg).trans hcell
          clear hb6 HB5 HSm hc0 hc2
          go_wp2_with fail
          by_cases hbig : 65536 < r.n
          · have i6 : (65536 : Int) < (r.n : Int) := by omega
            refine (add_limit HJ.out.at_ r.A r.n r.c hbig (by have := HRb.out.2; omega)).mono ?_
            rintro x w9 ⟨rfl, hw⟩
            obtain rfl := hw.symm
            have HF := Lib.hid HJ.out.low
            go_wp2
            go_ret
            exact ⟨rfl, HF.out⟩
          · have hw8 := wr_len_le b.length r.l
            refine (jn_add HJ.out r.A r.n r.c r.l ((HRb.out.1.below HB.out).more HB.out.size) (by omega) HRb.out.2.1 (by have := HRb.out.2; omega) (by omega)).mono ?_
            rintro x w9 ⟨rfl, hJ⟩
            have HN := Lib.hid hJ
            rw [← HT2.out] at HN
            have HM : Hid ((b ++ Jr.wr b.length r.l).length ≤ 14 * (k + 1) + 8 * rsum (rs.take (k + 1))) := by
              show _ ≤ _
              rw [List.length_append, HT.out]; omega
            clear hJ HJ HB hcW hw8
            go_wp2
            go_roundw
            case rel => exact ⟨k + 1, _, _, _, hlt, by go_num, rfl, HN.out, HM.out⟩
            case measure => simp [intOf]; omega
      · have hi2 : ¬ (k : Int) < (n' : Int) := by omega
        have hcW := hc0
        go_wp2_with fail
        by_cases hbig : 65536 < r.n
        · have i6 : (65536 : Int) < (r.n : Int) := by omega
          refine (add_limit HJ.out.at_ r.A r.n r.c hbig (by have := HRb.out.2; omega)).mono ?_
          rintro x w9 ⟨rfl, hw⟩
          obtain rfl := hw.symm
          have HF := Lib.hid HJ.out.low
          go_wp2
          go_ret
          exact ⟨rfl, HF.out⟩
        · have hw8 := wr_len_le b.length r.l
          refine (jn_add HJ.out r.A r.n r.c r.l ((HRb.out.1.below HB.out).more HB.out.size) (by omega) HRb.out.2.1 (by have := HRb.out.2; omega) (by omega)).mono ?_
          rintro x w9 ⟨rfl, hJ⟩
          have HN := Lib.hid hJ
          rw [← HT2.out] at HN
          have HM : Hid ((b ++ Jr.wr b.length r.l).length ≤ 14 * (k + 1) + 8 * rsum (rs.take (k + 1))) := by
            show _ ≤ _
            rw [List.length_append, HT.out]; omega
          clear hJ HJ HB hcW hw8
          go_wp2
          go_roundw
          case rel => exact ⟨k + 1, _, _, _, hlt, by go_num, rfl, HN.out, HM.out⟩
          case measure => simp [intOf]; omega
    · obtain rfl : k = n := by omega
      go_wp2_with fail
      refine (jn_open HJ.out).mono ?_
      rintro x w5 ⟨p2, A2, c2, rs2, rfl, hrs2, hl2, hgs2, hJ2, hb5⟩
      have hall : rs.take k = rs := List.take_of_length_le (by omega)
      have hlen2 : ((rs.take k).map Rcd.l).length = k := by rw [hall, List.length_map]; exact hrl
      rw [hlen2] at hl2 ⊢
      rw [hall] at hrs2
      have HB5 := HB.out.trans (hb5.mono HB.out.size)
      have HSm := Lib.hid (sameR_yes (c := c2) (c2 := c) hl2 ((Y.out.below HB5).more HB5.size) hgs2 ((U.out.below HB5).more HB5.size) (by omega) hrs2)
      have HJ := Lib.hid hJ2
      clear hl2 hgs2 hrs2 hJ2 hb5 HB
      go_wp2_with fail
      refine HSm.out.mono ?_
      rintro x w6 ⟨rfl, hb6⟩
      have HB := Lib.hid (HB5.trans (hb6.mono HB5.size))
      clear hb6
      go_wp2
      go_ret
      exact ⟨rfl, HB.out⟩

theorem journalsBack_walk (A : Option Addr) (n c : Nat) (rs : List Rcd) (A' : Option Addr) (n' c' : Nat) (lo : List Bool) (w : World) (y : Lies w w.heap.size 1 A n (rs.map Rcd.v)) (u : Rcds w w.heap.size rs) (hnc : n ≤ c) (hc : c ≤ 140737488351232)
    (y' : Lies w w.heap.size 1 A' n' (lo.map Value.bool)) (hnc' : n' ≤ c') (hc' : c' ≤ 140737488351232) :
    Calls Try.prog 4 #[.slice A n c, .slice A' n' c'] w fun e w' => e = .returned (.bool true) ∧ Below w.heap.size w w' := by
  by_cases h : 60 < n ∨ 100 < n' ∨ 70000 < n + rsum rs
  · exact journalsBack_big A n c A' n' c' rs w y u (by omega) (by omega) h
  · exact journalsBack_all A n c A' n' c' rs lo w y u y' hnc (by omega) (by omega) (by omega)
end Go.Proofs.Ytbpdonnneleeeaa
