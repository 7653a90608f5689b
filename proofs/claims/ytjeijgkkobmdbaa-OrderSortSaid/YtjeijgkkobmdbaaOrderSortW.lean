/-
  The walk of OrderSort.
-/
import Derived.Test.YtjeijgkkobmdbaaSorted
import Derived.Test.YtjeijgkkobmdbaaAlive4
namespace Go.Proofs.Ytjeijgkkobmdbaa
open Go.RowKit
set_option linter.unusedVariables false
set_option maxRecDepth 100000

set_option maxHeartbeats 400000 in
theorem orderSort_long (A : Option Addr) (n c cut : Nat) (w : World) (h : 40 < n) (hc : n ≤ 140737488351232) :
    Calls Try.prog 11 #[.slice A n c, .int .u8 (cut : Int)] w fun e w' => e = .returned (.bool true) ∧ Below w.heap.size w w' := by
  have hd : decide ((40 : Int) < (n : Int)) = true := by simp; omega
  go_enter Try.func11, Try.ntmps11
  go_wp2_with fail
  refine (alive4_any w).mono ?_
  rintro e w1 ⟨rfl, hb1⟩
  have HB1 : Hid (Kept w w1) := hb1
  clear hb1
  go_wp2_with fail
  refine (alive4_any w1).mono ?_
  rintro e w3 ⟨rfl, hb3⟩
  have HB3 := Lib.hid (HB1.out.on hb3)
  clear hb3 HB1
  go_wp2
  go_ret
  exact ⟨rfl, HB3.out⟩

set_option maxHeartbeats 1000000 in
theorem orderSort_few (A : Option Addr) (n c cut : Nat) (l : List Mk) (w : World) (y : Lies w w.heap.size 3 A n (mcs l)) (hm : ∀ m ∈ l, m.k.size ≤ 140737488351232) (h : n ≤ 40) (hg : 100000 < ksum l ∨ n = 0) :
    Calls Try.prog 11 #[.slice A n c, .int .u8 (cut : Int)] w fun e w' => e = .returned (.bool true) ∧ Below w.heap.size w w' := by
  have hd : decide ((40 : Int) < (n : Int)) = false := by simp; omega
  have Y := Lib.hid y; have HM := Lib.hid hm; have HG := Lib.hid hg
  clear y hm hg
  go_enter Try.func11, Try.ntmps11
  go_wp2_with fail
  refine (alive4_any w).mono ?_
  rintro e w1 ⟨rfl, hb1⟩
  have HB1 : Hid (Kept w w1) := hb1
  clear hb1
  go_wp2_with fail
  have G := great_any A n c l w1 ((Y.out.below HB1.out).more HB1.out.size) HM.out (by omega)
  by_cases hbig : 100000 < ksum l
  · rw [decide_eq_true hbig] at G
    refine G.mono ?_
    rintro e w2 ⟨rfl, rfl⟩
    clear G
    go_wp2_with fail
    refine (alive4_any w1).mono ?_
    rintro e w3 ⟨rfl, hb3⟩
    have HB3 := Lib.hid (HB1.out.on hb3)
    clear hb3 HB1
    go_wp2
    go_ret
    exact ⟨rfl, HB3.out⟩
  · rw [decide_eq_false hbig] at G
    obtain rfl : n = 0 := by rcases HG.out with h | h; exact absurd h hbig; exact h
    refine G.mono ?_
    rintro e w2 ⟨rfl, rfl⟩
    clear G
    go_wp2_with fail
    refine (alive4_any w1).mono ?_
    rintro e w3 ⟨rfl, hb3⟩
    have HB3 := Lib.hid (HB1.out.on hb3)
    clear hb3 HB1
    go_wp2
    go_ret
    exact ⟨rfl, HB3.out⟩

/-- a row of marks stands in memory -/
def Mks (w : World) (n : Nat) (l : List Mk) (A : Option Addr) (c : Nat) : Prop := n ≤ c ∧ c ≤ maxLen ∧ Lies w w.heap.size 3 A n (mcs l)
theorem Mks.on {w w' : World} {n : Nat} {l : List Mk} {A : Option Addr} {c : Nat} (h : Mks w n l A c) (hb : Below w.heap.size w w') : Mks w' n l A c := ⟨h.1, h.2.1, (h.2.2.below hb).more hb.size⟩

set_option maxHeartbeats 4000000 in
theorem orderSort_main (A : Option Addr) (n c cut : Nat) (l : List Mk) (w : World) (y : Lies w w.heap.size 3 A n (mcs l)) (hm : ∀ m ∈ l, m.k.size ≤ 140737488351232) (h : n ≤ 40) (hnc : n ≤ c) (hg : ¬ 100000 < ksum l) (hn0 : 0 < n) (hcut : cut < 256) :
    Calls Try.prog 11 #[.slice A n c, .int .u8 (cut : Int)] w fun e w' => e = .returned (.bool true) ∧ Below w.heap.size w w' := by
  obtain ⟨i0, hi, hz0, hz1, hz2⟩ := info_parts mark_info
  have hd : decide ((40 : Int) < (n : Int)) = false := by simp; omega
  have hn1 : ((n : Int) == 0) = false := by simp; omega
  have hll := y.mlen
  have Y := Lib.hid y; have HM := Lib.hid hm; have HG := Lib.hid (decide_eq_false hg)
  obtain ⟨q, hq⟩ : ∃ q, cut % n = q := ⟨_, rfl⟩
  have hqn : q < n := by rw [← hq]; exact Nat.mod_lt _ hn0
  have e0 : ((cut : Int)) % (n : Int) = (q : Int) := by rw [← hq]; exact (Int.natCast_emod cut n).symm
  have e1 : Int.tmod (cut : Int) (n : Int) = (q : Int) := by rw [Int.tmod_eq_emod_of_nonneg (by omega), e0]
  have HTURN : Hid (sortM (l.drop q ++ l.take q) = sortM l) := sortM_turned l q
  have HSL : Hid ((sortM l).length = n) := by unfold Hid; rw [sortM_len, hll]
  have r1 : ∀ W, (Instr.slice 54 (.slice A n c) none (some (.int .i64 (q : Int))) none).run Try.prog W = .ok (.slice A q c) W := fun W => run_headM W _ n c q (by omega)
  have r2 : ∀ W, (Instr.slice 54 (.slice A n c) (some (.int .i64 (q : Int))) none none).run Try.prog W = .ok (.slice (cutM A c q) (n - q) (c - q)) W := fun W => run_cutM W _ n c q (by omega)
  clear y hm hg hq hll
  go_enter Try.func11, Try.ntmps11
  go_wp2_with fail
  refine (alive4_any w).mono ?_
  rintro e w1 ⟨rfl, hb1⟩
  have HB1 : Hid (Kept w w1) := hb1
  clear hb1
  go_wp2_with fail
  have G := great_any A n c l w1 ((Y.out.below HB1.out).more HB1.out.size) HM.out (by omega)
  rw [HG.out] at G
  refine G.mono ?_
  rintro e w2 ⟨rfl, rfl⟩
  clear G
  go_wp2_with fail
  refine (sorted_any A n c l w1 ((Y.out.below HB1.out).more HB1.out.size) (by omega)).mono ?_
  rintro e w2 ⟨Aa, ca, rfl, ha1, ha2, hla, hb2⟩
  have HB2 := Lib.hid (HB1.out.on hb2)
  have HA2 : Hid (Mks w2 n (sortM l) Aa ca) := ⟨ha1, ha2, hla⟩
  clear hla hb2 HB1
  have hl0 : Below w2.heap.size w2 w2.drew := (Below.refl _ w2).drew
  have LT : Hid (∀ W, Below w2.heap.size w2 W → Lies W w2.heap.size 3 A q (mcs (l.take q))) := fun W h => by
    have p := (((Y.out.below HB2.out).more HB2.out.size).below h).takeK (m := q) (by omega)
    rw [mcs_take] at p; exact p
  have LD : Hid (∀ W, Below w2.heap.size w2 W → Lies W w2.heap.size 3 (cutM A c q) (n - q) (mcs (l.drop q))) := fun W h => by
    have p := (((Y.out.below HB2.out).more HB2.out.size).below h).cutM (m := q) (c := c) (by omega) hnc
    rw [mcs_drop] at p; exact p
  go_wp2
  go_region_held3 (fun _ => True) (exact trivial)
    (first
    | (refine step_app _ (by rfl) (.const (.slice none 0 0)) (.tmp 36) 54 (by rfl) w2.heap.size 24 i0 _ 3 32 Try.underlying54 hi hz0 hz1 hz2 rfl (by decide) (.slice none 0 0) 0 [] (by rfl) (World.ownsRow_nil _ _ _ _) w2.heap.size (cutM A c q) (n - q) (c - q) (mcs (l.drop q)) (by rfl) (LD.out _ hl0) (mcs_one _) (by unfold maxLen; omega) (by omega) (Nat.le_refl _) ?_; intro v5 w5 hown5 hg5 _; have hl5 : Below w2.heap.size w2 w5 := hl0.grown hg5 (Nat.le_refl _) (by simp [Value.ownBlock]); rw [Nat.zero_add, List.nil_append] at hown5; obtain ⟨A5, c5, rfl, _⟩ := own_shape hown5)
    | (refine step_app _ (by rfl) (.tmp 37) (.tmp 40) 54 (by rfl) w2.heap.size 24 i0 _ 3 32 Try.underlying54 hi hz0 hz1 hz2 rfl (by decide) (.slice A5 (n - q) c5) (n - q) (mcs (l.drop q)) (by rfl) hown5 w2.heap.size A q c (mcs (l.take q)) (by rfl) (LT.out _ hl5) (mcs_one _) (by unfold maxLen; omega) (by omega) hl5.size ?_; intro v6 w6 hown6 hg6 _; have hl6 : Below w2.heap.size w2 w6 := hl5.grown hg6 hl5.size (fun j hj => (hown5.lt j hj).1); rw [show n - q + q = n from by omega, ← mcs_app] at hown6; obtain ⟨A6, c6, rfl, _⟩ := own_shape hown6)
    | (go_at_call 28; refine (sorted_any A6 n c6 (l.drop q ++ l.take q) _ (Lies.of_own hown6) (by omega)).mono ?_; rintro e w7 ⟨Ab, cb, rfl, hb1, hb2, hlb, hb7⟩)
    | fail)
  have hl7 : Below w2.heap.size w2 w7 := hl6.trans (hb7.mono hl6.size)
  have HA7 := Lib.hid (HA2.out.on hl7)
  have HB7 : Hid (Mks w7 n (sortM l) Ab cb) := ⟨hb1, hb2, by rw [← HTURN.out]; exact hlb⟩
  have HK7 : Hid (Kept w w7) := HB2.out.on hl7
  clear hl0 hl5 hl6 hl7 hown5 hown6 hg5 hg6 LT LD HA2 HB2 hlb hb7 hb1 hb2 r1 r2
  have HR0 : Hid (∃ k : Nat, k ≤ n ∧ Value.int .i64 0 = .int .i64 (k : Int) ∧ Below w7.heap.size w7 w7) := ⟨0, Nat.zero_le _, rfl, Below.refl _ _⟩
  obtain ⟨S, hS⟩ : ∃ S, sortM l = S := ⟨_, rfl⟩
  have HLE : Hid (∀ (i j : Nat) (a b : Mk), i < j → S[i]? = some a → S[j]? = some b → cmpM a b ≤ 0) := by
    rw [← hS]; exact fun i j a b => sortM_le l i j a b
  rw [hS] at HA7 HB7 HSL
  clear hS HTURN
  go_wp2
  go_loopw [8] (fun i wr => ∃ k : Nat, k ≤ n ∧ i = .int .i64 (k : Int) ∧ Below w7.heap.size w7 wr) (fun i _ => n - (intOf i).toNat)
  case atStart => exact HR0.out
  case round =>
    clear HR0
    obtain ⟨k, hk, rfl, hb⟩ := hrel
    by_cases hlt : k < n
    · obtain ⟨wo, rfl⟩ : ∃ wo : World, wo = wr := ⟨_, rfl⟩
      have HA8 := Lib.hid (HA7.out.on hb)
      have HB8 := Lib.hid (HB7.out.on hb)
      have HBO := Lib.hid hb
      obtain ⟨b, o, m, rfl, hbB, hu, c0, c1, c2⟩ := HA8.out.2.2.mark hlt
      obtain ⟨b2, o2, m2, rfl, hbB2, hu2, d0, d1, d2⟩ := HB8.out.2.2.mark hlt
      have hmm : m2 = m := by rw [hu] at hu2; injection hu2 with e; exact e.symm
      subst hmm
      obtain ⟨mk, ms, mg⟩ := m2
      dsimp only at c0 c1 c2 d0 d1 d2
      have HU := Lib.hid hu
      have hi0 : (0 : Int) ≤ (k : Int) := by omega
      have hi1 : (k : Int) < (n : Int) := by omega
      clear hb hu hu2
      go_wp2
      go_quiet (fail)
      have HC : Hid (∀ W, Below wo.heap.size wo W → W.cell? ⟨b, o + k * 3, none⟩ = some (.string mk) ∧ W.cell? ⟨b, o + k * 3 + 1, none⟩ = some (.int .u64 (ms : Int)) ∧ W.cell? ⟨b, o + k * 3 + 2, none⟩ = some (.bool mg)) := fun W h => ⟨(h.cell hbB).trans c0, (h.cell hbB).trans c1, (h.cell hbB).trans c2⟩
      have HI0 : Hid (∃ j : Nat, k + 1 ≤ j ∧ j ≤ n ∧ Value.int .i64 ((k : Int) + 1) = .int .i64 (j : Int) ∧ Below wo.heap.size wo (wo.drewN nq)) := ⟨k + 1, Nat.le_refl _, hlt, by simp, below_drewN (Below.refl _ _) nq⟩
      clear c0 c1 c2 d0 d1 d2
      go_wp2
      go_loopw [9] (fun jv w2 => ∃ j : Nat, k + 1 ≤ j ∧ j ≤ n ∧ jv = .int .i64 (j : Int) ∧ Below wo.heap.size wo w2) (fun jv _ => n - (intOf jv).toNat)
      case atStart => exact HI0.out
      case round =>
        clear HI0
        obtain ⟨j, hkj, hjn, rfl, hb9⟩ := hrel
        by_cases hlt2 : j < n
        · have HA9 := Lib.hid (HA8.out.on hb9)
          obtain ⟨b3, o3, y, hbo, hbB3, hu3, f0, f1, f2⟩ := HA9.out.2.2.mark hlt2
          injection hbo with hbo
          injection hbo with hb0 ho0
          subst hb0 ho0
          have hz := HLE.out k j _ _ (by omega) HU.out hu3
          have HCMP : Hid (∀ W, Calls Try.prog 14 #[.agg #[.string mk, .int .u64 (ms : Int), .bool mg], .agg #[.string y.k, .int .u64 (y.s : Int), .bool y.g]] W fun e w' => e = .returned (.int .i64 (cmpM ⟨mk, ms, mg⟩ y)) ∧ Below W.heap.size W w') := fun W => cmp_any ⟨mk, ms, mg⟩ y W
          obtain ⟨z, hzc⟩ : ∃ z, cmpM ⟨mk, ms, mg⟩ y = z := ⟨_, rfl⟩
          rw [hzc] at HCMP hz
          have dz : decide ((0 : Int) < z) = false := by simp; omega
          obtain ⟨w9, rfl⟩ : ∃ w9 : World, w9 = wr := ⟨_, rfl⟩
          have HB9 := Lib.hid hb9
          have j0 : (0 : Int) ≤ (j : Int) := by omega
          have j1 : (j : Int) < (n : Int) := by omega
          have HKK : Hid (∀ W, Below w9.heap.size w9 W → (W.cell? ⟨b, o + k * 3, none⟩ = some (.string mk) ∧ W.cell? ⟨b, o + k * 3 + 1, none⟩ = some (.int .u64 (ms : Int)) ∧ W.cell? ⟨b, o + k * 3 + 2, none⟩ = some (.bool mg)) ∧ (W.cell? ⟨b, o + j * 3, none⟩ = some (.string y.k) ∧ W.cell? ⟨b, o + j * 3 + 1, none⟩ = some (.int .u64 (y.s : Int)) ∧ W.cell? ⟨b, o + j * 3 + 2, none⟩ = some (.bool y.g))) := fun W h => ⟨HC.out W (HB9.out.trans (h.mono HB9.out.size)), (h.cell hbB3).trans f0, (h.cell hbB3).trans f1, (h.cell hbB3).trans f2⟩
          have hb0 : Below w9.heap.size w9 w9.drew := (Below.refl _ _).drew
          clear f0 f1 f2 hu3 hb9 hzc HA9
          go_wp2
          go_region_held3 (fun W => (W.cell? ⟨b, o + k * 3, none⟩ = some (.string mk) ∧ W.cell? ⟨b, o + k * 3 + 1, none⟩ = some (.int .u64 (ms : Int)) ∧ W.cell? ⟨b, o + k * 3 + 2, none⟩ = some (.bool mg)) ∧ (W.cell? ⟨b, o + j * 3, none⟩ = some (.string y.k) ∧ W.cell? ⟨b, o + j * 3 + 1, none⟩ = some (.int .u64 (y.s : Int)) ∧ W.cell? ⟨b, o + j * 3 + 2, none⟩ = some (.bool y.g)))
            (first | exact HKK.out _ hb0 | exact HKK.out _ hb3 | fail)
            (first
            | (go_at_call 14; refine (HCMP.out _).mono ?_; rintro e w3 ⟨rfl, hb⟩; have hb3 := hb0.trans (hb.mono hb0.size); clear hb)
            | fail)
          have HB10 : Hid (Below wo.heap.size wo w3) := HB9.out.trans (hb3.mono HB9.out.size)
          clear hb0 hb3 HKK HB9
          go_wp2
          go_roundw
          case rel => exact ⟨j + 1, by omega, hlt2, by simp, HB10.out⟩
          case measure => simp [intOf]; omega
        · obtain rfl : n = j := by omega
          have HB10 : Hid (Below w7.heap.size w7 wr) := HBO.out.trans (hb9.mono HBO.out.size)
          clear hb9
          go_wp2
          go_roundw
          case rel => exact ⟨k + 1, hlt, by simp, HB10.out⟩
          case measure => simp [intOf]; omega
    · obtain rfl : n = k := by omega
      have HKW := Lib.hid (HK7.out.on hb)
      clear hb
      go_wp2
      go_ret
      exact ⟨rfl, HKW.out⟩

theorem orderSort_walk (A : Option Addr) (n c : Nat) (l : List Mk) (cut : Nat) (w : World) (y : Lies w w.heap.size 3 A n (mcs l)) (hm : ∀ m ∈ l, m.s < 18446744073709551616 ∧ m.k.size ≤ 140737488351232) (hll : l.length = n) (hnc : n ≤ c) (hc : c ≤ 140737488351232) (hcut : cut < 256) :
    Calls Try.prog 11 #[.slice A n c, .int .u8 (cut : Int)] w fun e w' => e = .returned (.bool true) ∧ Below w.heap.size w w' := by
  by_cases h : 40 < n
  · exact orderSort_long A n c cut w h (by omega)
  · by_cases hg : 100000 < ksum l ∨ n = 0
    · exact orderSort_few A n c cut l w y (fun m h => (hm m h).2) (by omega) hg
    · exact orderSort_main A n c cut l w y (fun m h => (hm m h).2) (by omega) hnc (fun e => hg (.inl e)) (by omega) hcut
end Go.Proofs.Ytjeijgkkobmdbaa
