/-
  What layer 11's laws share: sizes, great, in, SameFiles.
-/
import Derived.Test.YtnnocjnmfabnaaaAlive11
import Derived.Test.YtnnocjnmfabnaaaKpX
import Derived.BigQuiet
import Derived.LoopTactic
import Derived.Deep.QuietTactic
namespace Go.Proofs.Ytnnocjnmfabnaaa
open Go.RowKit
set_option linter.unusedVariables false
set_option maxRecDepth 100000

set_option maxHeartbeats 1000000 in
theorem filesSize_any (A : Option Addr) (n c : Nat) (l : List Fi) (w : World) (h : Lies w w.heap.size 4 A n (fcs l)) (hm : ∀ x ∈ l, szFi x) (hn : n ≤ 140737488351232) :
    Calls Try.prog 12 #[.slice A n c] w fun e w' => ∃ z : Nat, e = .returned (.int .i64 (z : Int)) ∧ z ≤ 281474978000000 ∧ Below w.heap.size w w' := by
  have HL := Lib.hid h; have HM := Lib.hid hm
  clear h hm
  go_enter Try.func12, Try.ntmps12
  go_wp2
  go_loopw [3, 4] (fun t i wr => ∃ k q s : Nat, k ≤ n ∧ i = .int .i64 (k : Int) ∧ t = .int .i64 (s : Int) ∧ s ≤ 281474978000000 ∧ wr = w.drewN q) (fun _ i _ => n - (intOf i).toNat)
  case atStart => exact ⟨0, 0, n, Nat.zero_le _, rfl, rfl, by omega, rfl⟩
  case round =>
    obtain ⟨k, q, s, hk, rfl, rfl, hle, rfl⟩ := hrel
    by_cases hlt : k < n
    · obtain ⟨b, o, x, rfl, hbB, hu, c0, _, c2, c3⟩ := HL.out.file hlt
      obtain ⟨_, _, hk1, hx1⟩ := HM.out x (List.mem_of_getElem? hu)
      have hi0 : (0 : Int) ≤ (k : Int) := by omega
      have hi1 : (k : Int) < (n : Int) := by omega
      clear hu
      by_cases hbig : 1048576 < s
      · have hd : decide ((s : Int) ≤ 1048576) = false := by simp; omega
        go_wp2
        go_ret
        exact ⟨s, rfl, hle, below_drewN (Below.refl _ _) q⟩
      · have hd : decide ((s : Int) ≤ 1048576) = true := by simp; omega
        have hle2 : s + (x.a.size + x.z.size) ≤ 281474978000000 := by omega
        have w1 : IntKind.i64.wrap ((s : Int) + (x.a.size : Int)) = (s : Int) + (x.a.size : Int) := IntWalk.i64_in _ (by omega)
        have w2 : IntKind.i64.wrap ((s : Int) + (x.a.size : Int) + (x.z.size : Int)) = (s : Int) + (x.a.size : Int) + (x.z.size : Int) := IntWalk.i64_in _ (by omega)
        go_wp2
        go_quiet (fail)
        clear w1 w2
        go_wp2
        go_roundw
        case rel => exact ⟨k + 1, _, s + (x.a.size + x.z.size), hlt, by go_num, by simp; omega, hle2, by first | rfl | (rw [World.drewN_drewN])⟩
        case measure => simp [intOf]; omega
    · obtain rfl : n = k := by omega
      go_wp2
      go_ret
      exact ⟨s, rfl, hle, below_drewN (Below.refl _ _) q⟩

theorem idsSize_any (A : Option Addr) (n c : Nat) (w : World) : Calls Try.prog 20 #[.slice A n c] w fun e w' => e = .returned (.int .i64 (n : Int)) ∧ w' = w := by
  go_enter Try.func20, Try.ntmps20
  go_wp2
  go_ret
  exact ⟨rfl, rfl⟩

section
variable {w : World} {n1 n2 c1 c2 j x s : Nat} {P1 P2 : Option Addr} {a : List Fi}
/-- the world behind an edit's box -/
abbrev edW (w : World) (P1 : Option Addr) (n1 c1 : Nat) (P2 : Option Addr) (n2 c2 : Nat) (j x s : Nat) : World := w.alloc (.cells #[.slice P1 n1 c1, .slice P2 n2 c2, .int .u32 (j : Int), .int .u32 (x : Int), .int .u64 (s : Int)] 27)
theorem editSize_any (hl : Lies w w.heap.size 4 P1 n1 (fcs a)) (hm : ∀ f ∈ a, szFi f) (hn : n1 ≤ 140737488351232) (hn2 : n2 ≤ 140737488351232) :
    Calls Try.prog 13 #[.agg #[.slice P1 n1 c1, .slice P2 n2 c2, .int .u32 (j : Int), .int .u32 (x : Int), .int .u64 (s : Int)]] w fun e w' => ∃ z : Nat, e = .returned (.int .i64 (z : Int)) ∧ z ≤ 562949960000000 ∧ Below w.heap.size w w' := by
  have hE : EtAt (edW w P1 n1 c1 P2 n2 c2 j x s) w.heap.size P1 n1 c1 P2 n2 c2 j x s := heap_alloc_new w _
  have hB : Below w.heap.size w (edW w P1 n1 c1 P2 n2 c2 j x s) := al_below w _
  obtain ⟨W1, hW1⟩ : ∃ W, edW w P1 n1 c1 P2 n2 c2 j x s = W := ⟨_, rfl⟩
  rw [hW1] at hE hB
  have HF := Lib.hid (filesSize_any P1 n1 c1 a W1 ((hl.below hB).more hB.size) hm hn)
  have HB := Lib.hid hB; have HE := Lib.hid hE
  obtain ⟨k0, k1, k2, k3, k4⟩ := hE.cells
  clear hl hm hE hB
  go_enter Try.func13, Try.ntmps13
  go_wp2_with fail
  refine HF.out.mono ?_
  rintro e w2 ⟨z, rfl, hz, hb⟩
  have HB2 := Lib.hid (HB.out.trans (hb.mono HB.out.size))
  obtain ⟨k0, k1, k2, k3, k4⟩ := (HE.out.below hb HE.out.lt).cells
  have w1 : IntKind.i64.wrap (1 + (z : Int)) = ((1 + z : Nat) : Int) := by rw [IntWalk.i64_in] <;> omega
  clear hb HF HE
  by_cases hg : 1 + z ≤ 1048576
  · have hd : decide (((1 + z : Nat) : Int) ≤ 1048576) = true := by rw [decide_eq_true_eq]; omega
    have w3 : IntKind.i64.wrap (((1 + z : Nat) : Int) + (n2 : Int)) = ((1 + z + n2 : Nat) : Int) := by rw [IntWalk.i64_in] <;> omega
    go_wp2_with fail
    refine (idsSize_any P2 n2 c2 w2).mono ?_
    rintro e w3 ⟨rfl, rfl⟩
    go_wp2
    go_ret
    exact ⟨1 + z + n2, rfl, by omega, HB2.out⟩
  · have hd : decide (((1 + z : Nat) : Int) ≤ 1048576) = false := by rw [decide_eq_false_iff_not]; omega
    go_wp2
    go_ret
    exact ⟨1 + z, rfl, by clear w1 hd; omega, HB2.out⟩
/-- an edit's value -/
theorem great11_any {n c : Nat} {P : Option Addr} {l : List Fi} (h0 : Lies w w.heap.size 4 P n (fcs l)) (m0 : ∀ f ∈ l, szFi f) (hl : Lies w w.heap.size 4 P1 n1 (fcs a)) (hm : ∀ f ∈ a, szFi f) (hn0 : n ≤ 140737488351232) (hn : n1 ≤ 140737488351232) (hn2 : n2 ≤ 140737488351232) :
    Calls Try.prog 5 #[.slice P n c, .agg #[.slice P1 n1 c1, .slice P2 n2 c2, .int .u32 (j : Int), .int .u32 (x : Int), .int .u64 (s : Int)]] w fun e w' => ∃ b, e = .returned (.bool b) ∧ (b = false → n + n1 + n2 ≤ 300) ∧ Below w.heap.size w w' := by
  have hE : EtAt (edW w P1 n1 c1 P2 n2 c2 j x s) w.heap.size P1 n1 c1 P2 n2 c2 j x s := heap_alloc_new w _
  have hB : Below w.heap.size w (edW w P1 n1 c1 P2 n2 c2 j x s) := al_below w _
  obtain ⟨W1, hW1⟩ : ∃ W, edW w P1 n1 c1 P2 n2 c2 j x s = W := ⟨_, rfl⟩
  rw [hW1] at hE hB
  have H0 := Lib.hid ((h0.below hB).more hB.size); have H1 := Lib.hid ((hl.below hB).more hB.size)
  have HB := Lib.hid hB; have HE := Lib.hid hE; have M0 := Lib.hid m0; have M1 := Lib.hid hm
  obtain ⟨k0, k1, k2, k3, k4⟩ := hE.cells
  obtain ⟨g, hg⟩ : ∃ g, w.heap.size = g := ⟨_, rfl⟩
  rw [hg] at HE k0 k1 k2 k3 k4
  have CF : Hid (∀ W, Below W1.heap.size W1 W → Calls Try.prog 12 #[.slice P n c] W fun e w' => ∃ z : Nat, e = .returned (.int .i64 (z : Int)) ∧ z ≤ 281474978000000 ∧ Below W.heap.size W w') := fun W hb => filesSize_any P n c l W ((H0.out.below hb).more hb.size) M0.out hn0
  have CE : Hid (∀ W, Below W1.heap.size W1 W → Calls Try.prog 13 #[.agg #[.slice P1 n1 c1, .slice P2 n2 c2, .int .u32 (j : Int), .int .u32 (x : Int), .int .u64 (s : Int)]] W fun e w' => ∃ z : Nat, e = .returned (.int .i64 (z : Int)) ∧ z ≤ 562949960000000 ∧ Below W.heap.size W w') := fun W hb => editSize_any ((H1.out.below hb).more hb.size) M1.out hn hn2
  have KE : Hid (∀ W, Below W1.heap.size W1 W → W.cell? ⟨g, 0, none⟩ = some (.slice P1 n1 c1) ∧ W.cell? ⟨g, 1, none⟩ = some (.slice P2 n2 c2) ∧ W.cell? ⟨g, 2, none⟩ = some (.int .u32 (j : Int)) ∧ W.cell? ⟨g, 3, none⟩ = some (.int .u32 (x : Int)) ∧ W.cell? ⟨g, 4, none⟩ = some (.int .u64 (s : Int))) := fun W hb => (HE.out.below hb HE.out.lt).cells
  have w1 : IntKind.i64.wrap ((n : Int) + (n1 : Int)) = (n : Int) + (n1 : Int) := by rw [IntWalk.i64_in] <;> omega
  have w2 : IntKind.i64.wrap ((n : Int) + (n1 : Int) + (n2 : Int)) = (n : Int) + (n1 : Int) + (n2 : Int) := by rw [IntWalk.i64_in] <;> omega
  have E0 : Below W1.heap.size W1 W1.drew := (Below.refl _ _).drew
  by_cases h3 : 300 < n + n1 + n2
  · have hd : decide (300 < (n : Int) + (n1 : Int) + (n2 : Int)) = true := by rw [decide_eq_true_eq]; omega
    clear h0 hl hE hB m0 hm h3 CF CE
    go_enter Try.func5, Try.ntmps5
    go_wp2_with fail
    go_quiet (fail)
    go_wp2
    go_ret
    exact ⟨true, rfl, (fun q => by cases q), below_drewN HB.out _⟩
  · have hd : decide (300 < (n : Int) + (n1 : Int) + (n2 : Int)) = false := by rw [decide_eq_false_iff_not]; omega
    have H3 := Lib.hid h3
    clear h0 hl hE hB m0 hm h3
    go_enter Try.func5, Try.ntmps5
    go_wp2_with fail
    go_region_held3 (fun W => W.cell? ⟨g, 0, none⟩ = some (.slice P1 n1 c1) ∧ W.cell? ⟨g, 1, none⟩ = some (.slice P2 n2 c2) ∧ W.cell? ⟨g, 2, none⟩ = some (.int .u32 (j : Int)) ∧ W.cell? ⟨g, 3, none⟩ = some (.int .u32 (x : Int)) ∧ W.cell? ⟨g, 4, none⟩ = some (.int .u64 (s : Int)))
      (first | exact KE.out _ E0 | exact KE.out _ B3 | exact KE.out _ B4 | fail)
      (first
      | (go_at_call 12; (with_reducible refine Calls.mono (CF.out _ E0) ?_); rintro e w3 ⟨z1, rfl, _, hb3⟩; have B3 := E0.trans (hb3.mono E0.size))
      | (go_at_call 13; (with_reducible refine Calls.mono (CE.out _ B3) ?_); rintro e w4 ⟨z2, rfl, _, hb4⟩; have B4 := B3.trans (hb4.mono B3.size))
      | fail)
    have HF := Lib.hid (HB.out.trans (B4.mono HB.out.size))
    clear E0 B3 B4 hb3 hb4 KE CF CE k0 k1 k2 k3 k4
    go_wp2
    go_ret
    exact ⟨_, rfl, (fun _ => by have := H3.out; omega), HF.out⟩
end
end Go.Proofs.Ytnnocjnmfabnaaa
