/-
  Layer 11's laws: meet.
-/
import Derived.Test.YtbnndajpjhgafaaEdY
namespace Go.Proofs.Ytbnndajpjhgafaa
open Go.RowKit
set_option linter.unusedVariables false
set_option maxRecDepth 100000

section
variable {w : World} {n1 n2 c1 c2 m1 m2 d1 d2 : Nat} {P1 P2 Q1 Q2 : Option Addr}
set_option maxHeartbeats 4000000 in
theorem meet_any (x y : Edt) (h1 : Lies w w.heap.size 4 P1 n1 (fcs x.add)) (h2 : Lies w w.heap.size 1 P2 n2 (kvs x.rem)) (g1 : Lies w w.heap.size 4 Q1 m1 (fcs y.add)) (g2 : Lies w w.heap.size 1 Q2 m2 (kvs y.rem)) (sx : SzEd x) (sy : SzEd y) (hn : n1 + n2 ≤ 1000) (hm : m1 + m2 ≤ 1000) :
    Calls Try.prog 23 #[.agg #[.slice P1 n1 c1, .slice P2 n2 c2, .int .u32 (x.jn : Int), .int .u32 (x.nx : Int), .int .u64 (x.sq : Int)], .agg #[.slice Q1 m1 d1, .slice Q2 m2 d2, .int .u32 (y.jn : Int), .int .u32 (y.nx : Int), .int .u64 (y.sq : Int)]] w fun e w' => ∃ b, e = .returned (.bool b) ∧ (b = false → ∀ k ∈ numE x, k ∉ numE y) ∧ Below w.heap.size w w' := by
  obtain ⟨hE, b1⟩ := ed_lieY w P1 n1 c1 P2 n2 c2 x.jn x.nx x.sq
  obtain ⟨W1, hW1⟩ : ∃ W, edW w P1 n1 c1 P2 n2 c2 x.jn x.nx x.sq = W := ⟨_, rfl⟩
  have hz1 : W1.heap.size = w.heap.size + 1 := by rw [← hW1]; simp
  rw [hW1] at hE b1
  obtain ⟨hF, b2⟩ := ed_lieY W1 Q1 m1 d1 Q2 m2 d2 y.jn y.nx y.sq
  obtain ⟨W2, hW2⟩ : ∃ W, edW W1 Q1 m1 d1 Q2 m2 d2 y.jn y.nx y.sq = W := ⟨_, rfl⟩
  rw [hW2] at hF b2
  rw [hz1] at hF
  have hE2 := hE.below b2 hE.lt
  have b12 := be_trans b1 b2
  have HB := Lib.hid b12; have HE := Lib.hid hE2; have HF := Lib.hid hF
  have G1 := Lib.hid (up_lies g1 b12); have G2 := Lib.hid (up_lies g2 b12)
  have HN := Lib.hid (nums_any (c1 := c1) (c2 := c2) x (up_lies h1 b12) (up_lies h2 b12) sx hn)
  have SY := Lib.hid sy
  obtain ⟨k0, k1, k2, k3, k4⟩ := hE2.cells
  clear h1 h2 g1 g2 hE hF hE2 b1 b2 b12 sx sy
  go_enter Try.func23, Try.ntmps23
  go_wp2_with fail
  with_reducible refine Calls.mono HN.out ?_
  rintro e w3 ⟨A3, c3, rfl, hl3, hb3⟩
  have HB3 := Lib.hid (be_trans HB.out hb3)
  have HF3 := Lib.hid (HF.out.below hb3 HF.out.lt)
  have HN3 := Lib.hid (nums_any (c1 := d1) (c2 := d2) y (up_lies G1.out hb3) (up_lies G2.out hb3) SY.out hm)
  have HL3 := Lib.hid hl3
  clear k0 k1 k2 k3 k4
  obtain ⟨k0, k1, k2, k3, k4⟩ := HF3.out.cells
  clear hb3 hl3 HN HE HF G1 G2 HB
  go_wp2_with fail
  with_reducible refine Calls.mono HN3.out ?_
  rintro e w4 ⟨A4, c4, rfl, hl4, hb4⟩
  have HB4 := Lib.hid (be_trans HB3.out hb4)
  have HL3 := Lib.hid (up_lies HL3.out hb4); have HL4 := Lib.hid hl4
  obtain ⟨N, hN⟩ : ∃ N, n2 + n1 = N := ⟨_, rfl⟩
  obtain ⟨M, hM⟩ : ∃ M, m2 + m1 = M := ⟨_, rfl⟩
  obtain ⟨K, hK⟩ : ∃ K, numE x = K := ⟨_, rfl⟩
  obtain ⟨L, hL⟩ : ∃ L, numE y = L := ⟨_, rfl⟩
  rw [hN, hK] at HL3
  rw [hM, hL] at HL4
  rw [hN, hM]
  have HK := Lib.hid (show _ ∧ _ from ⟨hK, hL⟩)
  have hNb : N ≤ 1000 := by omega
  have hMb : M ≤ 1000 := by omega
  clear hb4 hl4 HN3 HF3 HB3 k0 k1 k2 k3 k4 hN hM hK hL
  go_wp2_with fail
  go_loopw [7] (fun i wr => ∃ k q : Nat, k ≤ N ∧ i = .int .i64 (k : Int) ∧ (∀ a ∈ K.take k, a ∉ L) ∧ wr = w4.drewN q) (fun i _ => N - (intOf i).toNat)
  case atStart => exact ⟨0, 0, Nat.zero_le _, rfl, (fun a ha => by simp at ha), rfl⟩
  case round =>
    obtain ⟨i, q, hi, rfl, hno, rfl⟩ := hrel
    by_cases hlt : i < N
    · obtain ⟨b, o, u, rfl, _, hu, e0⟩ := HL3.out.num hlt
      have hi0 : (0 : Int) ≤ (i : Int) := by omega
      have hi1 : (i : Int) < (N : Int) := by omega
      have HU := Lib.hid hu; have HNo := Lib.hid hno
      clear hu hno
      go_wp2_with fail
      go_loopw [8] (fun j wr => ∃ k q2 : Nat, k ≤ M ∧ j = .int .i64 (k : Int) ∧ u ∉ L.take k ∧ wr = w4.drewN q2) (fun j _ => M - (intOf j).toNat)
      case atStart => exact ⟨0, q, Nat.zero_le _, rfl, (by simp), rfl⟩
      case round =>
        obtain ⟨j, q2, hj, rfl, hno, rfl⟩ := hrel
        by_cases hlt2 : j < M
        · obtain ⟨b', o', v, rfl, _, hv, d0⟩ := HL4.out.num hlt2
          have hj0 : (0 : Int) ≤ (j : Int) := by omega
          have hj1 : (j : Int) < (M : Int) := by omega
          have HNo2 := Lib.hid hno; have HVv := Lib.hid hv
          clear hno hv
          by_cases huv : u = v
          · subst huv
            go_wp2
            go_quiet (fail)
            go_wp2
            go_ret
            exact ⟨true, rfl, (fun h => by cases h), below_drewN (below_drewN HB4.out _) _⟩
          · have hne : ((u : Int) == (v : Int)) = false := by rw [beq_eq_false_iff_ne]; omega
            have HN2 : Hid (u ∉ L.take (j + 1)) := by
              unfold Hid
              rw [List.take_add_one, HVv.out]
              intro h
              rcases List.mem_append.1 h with h | h
              · exact HNo2.out h
              · exact huv (by simpa using h)
            clear huv
            go_wp2
            go_quiet (fail)
            go_wp2
            go_roundw
            case rel => exact ⟨j + 1, _, hlt2, by go_num, HN2.out, by first | rfl | (rw [World.drewN_drewN])⟩
            case measure => simp [intOf]; omega
        · have hnl : ¬ ((j : Int) < (M : Int)) := by omega
          have HN1 : Hid (∀ a ∈ K.take (i + 1), a ∉ L) := by
            unfold Hid
            rw [List.take_add_one, HU.out]
            intro a ha
            rcases List.mem_append.1 ha with h | h
            · exact HNo.out a h
            · obtain rfl : a = u := by simpa using h
              rwa [List.take_of_length_le (by have := HL4.out.klen; omega)] at hno
          clear hno
          go_wp2
          go_roundw
          case rel => exact ⟨i + 1, _, hlt, by go_num, HN1.out, by first | rfl | (rw [World.drewN_drewN])⟩
          case measure => simp [intOf]; omega
    · have hnl : ¬ ((i : Int) < (N : Int)) := by omega
      rw [List.take_of_length_le (by have := HL3.out.klen; omega)] at hno
      have HNo := Lib.hid hno
      clear hno
      go_wp2
      go_ret
      exact .inl ⟨rfl, (by rw [HK.out.1, HK.out.2]; exact HNo.out), below_drewN HB4.out _⟩
end
end Go.Proofs.Ytbnndajpjhgafaa
