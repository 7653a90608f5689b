/-
  Contract of layer 4's helper 'sorted'.
-/
import Derived.Test.YtjeijgkkobmdbaaMarkS
namespace Go.Proofs.Ytjeijgkkobmdbaa
open Go.RowKit
set_option linter.unusedVariables false
set_option maxRecDepth 100000

/-- what the loop of 'sorted' keeps -/
def SRel (w : World) (l : List Mk) (n : Nat) (v i : Value) (wr : World) : Prop :=
  ∃ k : Nat, k ≤ n ∧ i = .int .i64 (k : Int) ∧ Below w.heap.size w wr ∧ ∃ A c, v = .slice A k c ∧ k ≤ c ∧ c ≤ maxLen ∧ Lies wr wr.heap.size 3 A k (mcs (sortM (l.take k)))

set_option maxHeartbeats 4000000 in
theorem sorted_any (A : Option Addr) (n c : Nat) (l : List Mk) (w : World) (h : Lies w w.heap.size 3 A n (mcs l)) (hn : n ≤ 1000) :
    Calls Try.prog 28 #[.slice A n c] w fun e w' => ∃ A' c', e = .returned (.slice A' n c') ∧ n ≤ c' ∧ c' ≤ maxLen ∧ Lies w' w'.heap.size 3 A' n (mcs (sortM l)) ∧ Below w.heap.size w w' := by
  obtain ⟨i0, hi, hz0, hz1, hz2⟩ := info_parts mark_info
  have hll := h.mlen
  have Y := Lib.hid h
  have HF : Hid (l.take n = l) := List.take_of_length_le (by omega)
  have HS0 : Hid (SRel w l n (.slice none 0 0) (.int .i64 0) w) := ⟨0, Nat.zero_le _, rfl, Below.refl _ _, none, 0, rfl, Nat.le_refl _, Nat.zero_le _, Lies.none_ _ _ _ _⟩
  clear h
  go_enter Try.func28, Try.ntmps28
  go_wp2
  go_loopw [3, 4] (fun v i wr => SRel w l n v i wr) (fun _ i _ => n - (intOf i).toNat)
  case atStart => exact HS0.out
  case round =>
    clear HS0
    obtain ⟨k, hk, rfl, hb, Ao, co, rfl, hkc, hcm, ho⟩ := hrel
    by_cases hlt : k < n
    · obtain ⟨b, o, m, rfl, hbB, hu, c0, c1, c2⟩ := Y.out.mark hlt
      have HC : Hid (∀ W, Below w.heap.size w W → W.cell? ⟨b, o + k * 3, none⟩ = some (.string m.k) ∧ W.cell? ⟨b, o + k * 3 + 1, none⟩ = some (.int .u64 (m.s : Int)) ∧ W.cell? ⟨b, o + k * 3 + 2, none⟩ = some (.bool m.g)) := fun W h => ⟨(h.cell hbB).trans c0, (h.cell hbB).trans c1, (h.cell hbB).trans c2⟩
      have HSN := Lib.hid (sortM_take l k m hu)
      have HOL : Hid ((sortM (l.take k)).length = k) := by unfold Hid; rw [sortM_len, List.length_take]; omega
      obtain ⟨out, hout⟩ : ∃ out, sortM (l.take k) = out := ⟨_, rfl⟩
      rw [hout] at ho HSN HOL
      obtain ⟨wo, rfl⟩ : ∃ wo : World, wo = wr := ⟨_, rfl⟩
      have HB := Lib.hid hb; have HO := Lib.hid ho
      have hi0 : (0 : Int) ≤ (k : Int) := by omega
      have hi1 : (k : Int) < (n : Int) := by omega
      clear hb ho hout hu c0 c1 c2
      go_wp2
      go_loopw [5] (fun jv w2 => ∃ j : Nat, j ≤ k ∧ jv = .int .i64 (j : Int) ∧ Below wo.heap.size wo w2 ∧ ∀ i x, i < j → out[i]? = some x → 0 ≤ cmpM m x) (fun jv _ => k - (intOf jv).toNat)
      case atStart => exact ⟨0, Nat.zero_le _, rfl, Below.refl _ _, fun i x hi _ => absurd hi (Nat.not_lt_zero _)⟩
      case round =>
        obtain ⟨j, hjk, rfl, hb2, hall⟩ := hrel
        obtain ⟨w2, rfl⟩ : ∃ w2 : World, w2 = wr := ⟨_, rfl⟩
        have HB2 := Lib.hid hb2; have HALL := Lib.hid hall
        have HW2 : Hid (Below w.heap.size w w2) := HB.out.trans (hb2.mono HB.out.size)
        have HO2 := Lib.hid ((HO.out.below hb2).more hb2.size)
        have j0 : (0 : Int) ≤ (j : Int) := by omega
        clear hb2 hall
        by_cases hlt2 : j < k
        · obtain ⟨b2, o2, y, rfl, hbB2, hu2, d0, d1, d2⟩ := HO2.out.mark hlt2
          have j1 : (j : Int) < (k : Int) := by omega
          have HD : Hid (∀ W, Below w2.heap.size w2 W → W.cell? ⟨b2, o2 + j * 3, none⟩ = some (.string y.k) ∧ W.cell? ⟨b2, o2 + j * 3 + 1, none⟩ = some (.int .u64 (y.s : Int)) ∧ W.cell? ⟨b2, o2 + j * 3 + 2, none⟩ = some (.bool y.g)) := fun W h => ⟨(h.cell hbB2).trans d0, (h.cell hbB2).trans d1, (h.cell hbB2).trans d2⟩
          have HCMP : Hid (∀ W, Calls Try.prog 14 #[.agg #[.string m.k, .int .u64 (m.s : Int), .bool m.g], .agg #[.string y.k, .int .u64 (y.s : Int), .bool y.g]] W fun e w' => e = .returned (.int .i64 (cmpM m y)) ∧ Below W.heap.size W w') := fun W => cmp_any m y W
          have HU2 := Lib.hid hu2
          obtain ⟨z, hzc⟩ : ∃ z, cmpM m y = z := ⟨_, rfl⟩
          rw [hzc] at HCMP
          have HZ := Lib.hid hzc
          clear d0 d1 d2 hu2 hzc
          have HKK : Hid (∀ W, Below w2.heap.size w2 W → (W.cell? ⟨b, o + k * 3, none⟩ = some (.string m.k) ∧ W.cell? ⟨b, o + k * 3 + 1, none⟩ = some (.int .u64 (m.s : Int)) ∧ W.cell? ⟨b, o + k * 3 + 2, none⟩ = some (.bool m.g)) ∧ (W.cell? ⟨b2, o2 + j * 3, none⟩ = some (.string y.k) ∧ W.cell? ⟨b2, o2 + j * 3 + 1, none⟩ = some (.int .u64 (y.s : Int)) ∧ W.cell? ⟨b2, o2 + j * 3 + 2, none⟩ = some (.bool y.g))) := fun W h => ⟨HC.out W (HW2.out.trans (h.mono HW2.out.size)), HD.out W h⟩
          have hb0 : Below w2.heap.size w2 w2.drew := (Below.refl _ _).drew
          by_cases hz : 0 ≤ z
          · have dz : decide ((0 : Int) ≤ z) = true := decide_eq_true hz
            go_wp2
            go_region_held3 (fun W => (W.cell? ⟨b, o + k * 3, none⟩ = some (.string m.k) ∧ W.cell? ⟨b, o + k * 3 + 1, none⟩ = some (.int .u64 (m.s : Int)) ∧ W.cell? ⟨b, o + k * 3 + 2, none⟩ = some (.bool m.g)) ∧ (W.cell? ⟨b2, o2 + j * 3, none⟩ = some (.string y.k) ∧ W.cell? ⟨b2, o2 + j * 3 + 1, none⟩ = some (.int .u64 (y.s : Int)) ∧ W.cell? ⟨b2, o2 + j * 3 + 2, none⟩ = some (.bool y.g)))
              (first | exact HKK.out _ hb0 | exact HKK.out _ hb3 | fail)
              (first
              | (go_at_call 14; refine (HCMP.out _).mono ?_; rintro e w3 ⟨rfl, hb⟩; have hb3 := hb0.trans (hb.mono hb0.size); clear hb)
              | fail)
            have HB3 : Hid (Below wo.heap.size wo w3) := HB2.out.trans (hb3.mono HB2.out.size)
            clear hb0 hb3 HKK
            go_wp2
            go_roundw
            case rel => exact ⟨j + 1, hlt2, by simp, HB3.out, fun i x hi hx => by
              rcases Nat.lt_succ_iff_lt_or_eq.1 hi with h | h
              · exact HALL.out i x h hx
              · subst h
                rw [HU2.out] at hx
                injection hx with hx
                subst hx
                rw [HZ.out]; exact hz⟩
            case measure => simp [intOf]; omega
          · have dz : decide ((0 : Int) ≤ z) = false := decide_eq_false hz
            have HIN : Hid (mcs (ins m out) = mcs (out.take j) ++ m.cs ++ mcs (out.drop j)) := by
              unfold Hid
              rw [ins_at m out j (by have := HOL.out; omega) HALL.out (fun x hx => by rw [HU2.out] at hx; injection hx with hx; subst hx; rw [HZ.out]; omega), mcs_app, mcs_app]
              congr 2
            go_wp2
            go_region_held3 (fun W => (W.cell? ⟨b, o + k * 3, none⟩ = some (.string m.k) ∧ W.cell? ⟨b, o + k * 3 + 1, none⟩ = some (.int .u64 (m.s : Int)) ∧ W.cell? ⟨b, o + k * 3 + 2, none⟩ = some (.bool m.g)) ∧ (W.cell? ⟨b2, o2 + j * 3, none⟩ = some (.string y.k) ∧ W.cell? ⟨b2, o2 + j * 3 + 1, none⟩ = some (.int .u64 (y.s : Int)) ∧ W.cell? ⟨b2, o2 + j * 3 + 2, none⟩ = some (.bool y.g)))
              (first | exact HKK.out _ hb0 | exact HKK.out _ hb3 | fail)
              (first
              | (go_at_call 14; refine (HCMP.out _).mono ?_; rintro e w3 ⟨rfl, hb⟩; have hb3 := hb0.trans (hb.mono hb0.size); clear hb)
              | fail)
            have HBW : Hid (Below w.heap.size w w3) := HW2.out.trans (hb3.mono HW2.out.size)
            have HO3 := Lib.hid ((HO2.out.below hb3).more hb3.size)
            clear hb0 hb3 HKK HB2 HO2 HD
            obtain ⟨w4, hw4⟩ : ∃ w4 : World, w4 = w3 := ⟨_, rfl⟩
            rw [← hw4] at HBW HO3 ⊢
            clear hw4
            have LT : Hid (∀ W, Below w4.heap.size w4 W → Lies W w4.heap.size 3 (some ⟨b2, o2, none⟩) j (mcs (out.take j))) := fun W h => by
              have q := (HO3.out.below h).takeK (m := j) (by omega)
              rw [mcs_take] at q; exact q
            have LD : Hid (∀ W, Below w4.heap.size w4 W → Lies W w4.heap.size 3 (cutM (some ⟨b2, o2, none⟩) co j) (k - j) (mcs (out.drop j))) := fun W h => by
              have q := (HO3.out.below h).cutM (m := j) (c := co) (by omega) hkc
              rw [mcs_drop] at q; exact q
            have r1 : ∀ W, (Instr.slice 54 (.slice (some ⟨b2, o2, none⟩) k co) none (some (.int .i64 (j : Int))) none).run Try.prog W = .ok (.slice (some ⟨b2, o2, none⟩) j co) W := fun W => run_headM W _ k co j (by omega)
            have r2 : ∀ W, (Instr.slice 54 (.slice (some ⟨b2, o2, none⟩) k co) (some (.int .i64 (j : Int))) none none).run Try.prog W = .ok (.slice (cutM (some ⟨b2, o2, none⟩) co j) (k - j) (co - j)) W := fun W => run_cutM W _ k co j (by omega)
            have HKC : Hid (∀ W, Below w4.heap.size w4 W → W.cell? ⟨b, o + k * 3, none⟩ = some (.string m.k) ∧ W.cell? ⟨b, o + k * 3 + 1, none⟩ = some (.int .u64 (m.s : Int)) ∧ W.cell? ⟨b, o + k * 3 + 2, none⟩ = some (.bool m.g)) := fun W h => HC.out W (HBW.out.trans (h.mono HBW.out.size))
            have hl0 : Below w4.heap.size w4 w4.drew := (Below.refl _ w4).drew
            have hl1 : ∀ o, Below w4.heap.size w4 (w4.drew.alloc o) := fun o => hl0.alloc (Nat.le_refl _) o
            go_wp2
            go_region_held3 (fun W => W.cell? ⟨b, o + k * 3, none⟩ = some (.string m.k) ∧ W.cell? ⟨b, o + k * 3 + 1, none⟩ = some (.int .u64 (m.s : Int)) ∧ W.cell? ⟨b, o + k * 3 + 2, none⟩ = some (.bool m.g))
              (first | exact HKC.out _ hl0 | exact HKC.out _ (hl1 _) | exact HKC.out _ hl5 | exact HKC.out _ (hl5.alloc hl5.size _) | exact HKC.out _ hl6 | exact HKC.out _ hl7 | fail)
              (first
              | (refine step_app _ (by rfl) (.const (.slice none 0 0)) (.tmp 32) 54 (by rfl) w4.heap.size 24 i0 _ 3 32 Try.underlying54 hi hz0 hz1 hz2 rfl (by decide) (.slice none 0 0) 0 [] (by rfl) (World.ownsRow_nil _ _ _ _) w4.heap.size (some ⟨b2, o2, none⟩) j co (mcs (out.take j)) (by rfl) (LT.out _ hl0) (mcs_one _) (by unfold maxLen; omega) (by omega) (Nat.le_refl _) ?_; intro v5 w5 hown5 hg5 _; have hl5 : Below w4.heap.size w4 w5 := hl0.grown hg5 (Nat.le_refl _) (by simp [Value.ownBlock]); rw [Nat.zero_add, List.nil_append] at hown5; obtain ⟨A5, c5, rfl, _⟩ := own_shape hown5; have hlit : ∀ (o : Obj), True := fun _ => trivial)
              | (refine step_app _ (by rfl) (.const (.slice none 0 0)) (.tmp 32) 54 (by rfl) w4.heap.size 24 i0 _ 3 32 Try.underlying54 hi hz0 hz1 hz2 rfl (by decide) (.slice none 0 0) 0 [] (by rfl) (World.ownsRow_nil _ _ _ _) w4.heap.size (some ⟨b2, o2, none⟩) j co (mcs (out.take j)) (by rfl) (LT.out _ (hl1 _)) (mcs_one _) (by unfold maxLen; omega) (by omega) (hl1 _).size ?_; intro v5 w5 hown5 hg5 _; have hl5 : Below w4.heap.size w4 w5 := (hl1 _).grown hg5 (hl1 _).size (by simp [Value.ownBlock]); rw [Nat.zero_add, List.nil_append] at hown5; obtain ⟨A5, c5, rfl, _⟩ := own_shape hown5; have hlit := (mark_lies w4.drew m w4.heap.size rfl).below ((Below.refl _ _).grown hg5 (by simp) (by simp [Value.ownBlock])))
              | (refine step_app _ (by rfl) (.tmp 33) (.tmp 38) 54 (by rfl) w4.heap.size 24 i0 _ 3 32 Try.underlying54 hi hz0 hz1 hz2 rfl (by decide) (.slice A5 j c5) j (mcs (out.take j)) (by rfl) (hown5.alloc _) (w5.heap.size + 1) (some ⟨w5.heap.size, 0, none⟩) 1 1 m.cs (by rfl) (mark_lies w5 m _ rfl) (mcs_one1 m) (by unfold maxLen; omega) (by omega) (hl5.alloc hl5.size _).size ?_; intro v6 w6 hown6 hg6 _; have hl6 : Below w4.heap.size w4 w6 := (hl5.alloc hl5.size _).grown hg6 (hl5.alloc hl5.size _).size (fun j hj => (hown5.lt j hj).1); obtain ⟨A6, c6, rfl, _⟩ := own_shape hown6)
              | (refine step_app _ (by rfl) (.tmp 33) (.tmp 38) 54 (by rfl) w4.heap.size 24 i0 _ 3 32 Try.underlying54 hi hz0 hz1 hz2 rfl (by decide) (.slice A5 j c5) j (mcs (out.take j)) (by rfl) hown5 (w4.heap.size + 1) (some ⟨w4.heap.size, 0, none⟩) 1 1 m.cs (by rfl) hlit (mcs_one1 m) (by unfold maxLen; omega) (by omega) hl5.size ?_; intro v6 w6 hown6 hg6 _; have hl6 : Below w4.heap.size w4 w6 := hl5.grown hg6 hl5.size (fun j hj => (hown5.lt j hj).1); obtain ⟨A6, c6, rfl, _⟩ := own_shape hown6)
              | (refine step_app _ (by rfl) (.tmp 39) (.tmp 42) 54 (by rfl) w4.heap.size 24 i0 _ 3 32 Try.underlying54 hi hz0 hz1 hz2 rfl (by decide) (.slice A6 (j + 1) c6) (j + 1) (mcs (out.take j) ++ m.cs) (by rfl) hown6 w4.heap.size (cutM (some ⟨b2, o2, none⟩) co j) (k - j) (co - j) (mcs (out.drop j)) (by rfl) (LD.out _ hl6) (mcs_one _) (by unfold maxLen; omega) (by omega) hl6.size ?_; intro v7 w7 hown7 hg7 _; have hl7 : Below w4.heap.size w4 w7 := hl6.grown hg7 hl6.size (fun j hj => (hown6.lt j hj).1))
              | fail)
            all_goals (
              have R : Hid (SRel w l n v7 (.int .i64 ((k : Int) + 1)) w7) := by
                have e1 : j + 1 + (k - j) = k + 1 := by omega
                rw [e1, ← HIN.out, ← HSN.out] at hown7
                obtain ⟨A7, c7, rfl, h1, h2, _⟩ := own_shape hown7
                exact ⟨k + 1, hlt, by simp, HBW.out.trans (hl7.mono HBW.out.size), A7, c7, rfl, h1, h2, Lies.of_own hown7⟩
              clear hl0 hl1 hl5 hl6 hl7 hown5 hown6 hown7 hg5 hg6 hg7 LT LD HKC HO3
              go_wp2
              go_roundw
              case rel => exact R.out
              case measure => simp [intOf]; omega)
        · obtain rfl : k = j := by omega
          have HIN : Hid (mcs (ins m out) = mcs (out.take k) ++ m.cs ++ mcs (out.drop k)) := by
            unfold Hid
            rw [ins_at m out k (by have := HOL.out; omega) HALL.out (fun x hx => by rw [List.getElem?_eq_none (by have := HOL.out; omega)] at hx; cases hx), mcs_app, mcs_app]
            congr 2
          have dk : decide ((k : Int) < (k : Int)) = false := by simp
          go_wp2
          go_quiet (fail)
          have HBW : Hid (Below w.heap.size w (w2.drewN nq)) := below_drewN HW2.out nq
          have HO3 : Hid (Lies (w2.drewN nq) (w2.drewN nq).heap.size 3 Ao k (mcs out)) := HO2.out.drewN nq
          clear HB2 HO2
          obtain ⟨w4, hw4⟩ : ∃ w4 : World, w4 = w2.drewN nq := ⟨_, rfl⟩
          rw [← hw4] at HBW HO3 ⊢
          clear hw4
          have LT : Hid (∀ W, Below w4.heap.size w4 W → Lies W w4.heap.size 3 Ao k (mcs (out.take k))) := fun W h => by
            have q := (HO3.out.below h).takeK (m := k) (by omega)
            rw [mcs_take] at q; exact q
          have LD : Hid (∀ W, Below w4.heap.size w4 W → Lies W w4.heap.size 3 (cutM Ao co k) 0 (mcs (out.drop k))) := fun W h => by
            have q := (HO3.out.below h).cutM (m := k) (c := co) (by omega) hkc
            rw [mcs_drop, Nat.sub_self] at q; exact q
          have r1 : ∀ W, (Instr.slice 54 (.slice Ao k co) none (some (.int .i64 (k : Int))) none).run Try.prog W = .ok (.slice Ao k co) W := fun W => run_headM W _ k co k (by omega)
          have r2 : ∀ W, (Instr.slice 54 (.slice Ao k co) (some (.int .i64 (k : Int))) none none).run Try.prog W = .ok (.slice (cutM Ao co k) 0 (co - k)) W := fun W => by have q := run_cutM W Ao k co k (by omega); rw [Nat.sub_self] at q; exact q
          have HKC : Hid (∀ W, Below w4.heap.size w4 W → W.cell? ⟨b, o + k * 3, none⟩ = some (.string m.k) ∧ W.cell? ⟨b, o + k * 3 + 1, none⟩ = some (.int .u64 (m.s : Int)) ∧ W.cell? ⟨b, o + k * 3 + 2, none⟩ = some (.bool m.g)) := fun W h => HC.out W (HBW.out.trans (h.mono HBW.out.size))
          have hl0 : Below w4.heap.size w4 w4.drew := (Below.refl _ w4).drew
          have hl1 : ∀ o, Below w4.heap.size w4 (w4.drew.alloc o) := fun o => hl0.alloc (Nat.le_refl _) o
          go_wp2
          go_region_held3 (fun W => W.cell? ⟨b, o + k * 3, none⟩ = some (.string m.k) ∧ W.cell? ⟨b, o + k * 3 + 1, none⟩ = some (.int .u64 (m.s : Int)) ∧ W.cell? ⟨b, o + k * 3 + 2, none⟩ = some (.bool m.g))
            (first | exact HKC.out _ hl0 | exact HKC.out _ (hl1 _) | exact HKC.out _ hl5 | exact HKC.out _ (hl5.alloc hl5.size _) | exact HKC.out _ hl6 | exact HKC.out _ hl7 | fail)
            (first
            | (refine step_app _ (by rfl) (.const (.slice none 0 0)) (.tmp 32) 54 (by rfl) w4.heap.size 24 i0 _ 3 32 Try.underlying54 hi hz0 hz1 hz2 rfl (by decide) (.slice none 0 0) 0 [] (by rfl) (World.ownsRow_nil _ _ _ _) w4.heap.size Ao k co (mcs (out.take k)) (by rfl) (LT.out _ hl0) (mcs_one _) (by unfold maxLen; omega) (by omega) (Nat.le_refl _) ?_; intro v5 w5 hown5 hg5 _; have hl5 : Below w4.heap.size w4 w5 := hl0.grown hg5 (Nat.le_refl _) (by simp [Value.ownBlock]); rw [Nat.zero_add, List.nil_append] at hown5; obtain ⟨A5, c5, rfl, _⟩ := own_shape hown5; have hlit : ∀ (o : Obj), True := fun _ => trivial)
            | (refine step_app _ (by rfl) (.const (.slice none 0 0)) (.tmp 32) 54 (by rfl) w4.heap.size 24 i0 _ 3 32 Try.underlying54 hi hz0 hz1 hz2 rfl (by decide) (.slice none 0 0) 0 [] (by rfl) (World.ownsRow_nil _ _ _ _) w4.heap.size Ao k co (mcs (out.take k)) (by rfl) (LT.out _ (hl1 _)) (mcs_one _) (by unfold maxLen; omega) (by omega) (hl1 _).size ?_; intro v5 w5 hown5 hg5 _; have hl5 : Below w4.heap.size w4 w5 := (hl1 _).grown hg5 (hl1 _).size (by simp [Value.ownBlock]); rw [Nat.zero_add, List.nil_append] at hown5; obtain ⟨A5, c5, rfl, _⟩ := own_shape hown5; have hlit := (mark_lies w4.drew m w4.heap.size rfl).below ((Below.refl _ _).grown hg5 (by simp) (by simp [Value.ownBlock])))
            | (refine step_app _ (by rfl) (.tmp 33) (.tmp 38) 54 (by rfl) w4.heap.size 24 i0 _ 3 32 Try.underlying54 hi hz0 hz1 hz2 rfl (by decide) (.slice A5 k c5) k (mcs (out.take k)) (by rfl) (hown5.alloc _) (w5.heap.size + 1) (some ⟨w5.heap.size, 0, none⟩) 1 1 m.cs (by rfl) (mark_lies w5 m _ rfl) (mcs_one1 m) (by unfold maxLen; omega) (by omega) (hl5.alloc hl5.size _).size ?_; intro v6 w6 hown6 hg6 _; have hl6 : Below w4.heap.size w4 w6 := (hl5.alloc hl5.size _).grown hg6 (hl5.alloc hl5.size _).size (fun j hj => (hown5.lt j hj).1); obtain ⟨A6, c6, rfl, _⟩ := own_shape hown6)
            | (refine step_app _ (by rfl) (.tmp 33) (.tmp 38) 54 (by rfl) w4.heap.size 24 i0 _ 3 32 Try.underlying54 hi hz0 hz1 hz2 rfl (by decide) (.slice A5 k c5) k (mcs (out.take k)) (by rfl) hown5 (w4.heap.size + 1) (some ⟨w4.heap.size, 0, none⟩) 1 1 m.cs (by rfl) hlit (mcs_one1 m) (by unfold maxLen; omega) (by omega) hl5.size ?_; intro v6 w6 hown6 hg6 _; have hl6 : Below w4.heap.size w4 w6 := hl5.grown hg6 hl5.size (fun j hj => (hown5.lt j hj).1); obtain ⟨A6, c6, rfl, _⟩ := own_shape hown6)
            | (refine step_app _ (by rfl) (.tmp 39) (.tmp 42) 54 (by rfl) w4.heap.size 24 i0 _ 3 32 Try.underlying54 hi hz0 hz1 hz2 rfl (by decide) (.slice A6 (k + 1) c6) (k + 1) (mcs (out.take k) ++ m.cs) (by rfl) hown6 w4.heap.size (cutM Ao co k) 0 (co - k) (mcs (out.drop k)) (by rfl) (LD.out _ hl6) (mcs_one _) (by unfold maxLen; omega) (by omega) hl6.size ?_; intro v7 w7 hown7 hg7 _; have hl7 : Below w4.heap.size w4 w7 := hl6.grown hg7 hl6.size (fun j hj => (hown6.lt j hj).1))
            | fail)
          all_goals (
            have R : Hid (SRel w l n v7 (.int .i64 ((k : Int) + 1)) w7) := by
              have e1 : k + 1 + 0 = k + 1 := by omega
              rw [e1, ← HIN.out, ← HSN.out] at hown7
              obtain ⟨A7, c7, rfl, h1, h2, _⟩ := own_shape hown7
              exact ⟨k + 1, hlt, by simp, HBW.out.trans (hl7.mono HBW.out.size), A7, c7, rfl, h1, h2, Lies.of_own hown7⟩
            clear hl0 hl1 hl5 hl6 hl7 hown5 hown6 hown7 hg5 hg6 hg7 LT LD HKC HO3
            go_wp2
            go_roundw
            case rel => exact R.out
            case measure => simp [intOf]; omega)
    · have hkn : k = n := by omega
      subst hkn
      rw [HF.out] at ho
      have HO := Lib.hid ho; have HB := Lib.hid hb
      clear ho hb
      go_wp2
      go_ret
      exact ⟨_, _, rfl, hkc, hcm, HO.out, HB.out⟩
end Go.Proofs.Ytjeijgkkobmdbaa
