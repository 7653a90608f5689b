/-
  The walk of BloomsOrder.
-/
import Derived.Test.YtjnmckchicmmgaaLaw9
import Derived.Test.YtjnmckchicmmgaaApp9
import Derived.Test.YtjnmckchicmmgaaSame
namespace Go.Proofs.Ytjnmckchicmmgaa
open Go.RowKit
set_option linter.unusedVariables false
set_option maxRecDepth 100000

/-- the text "other" -/
def OT : ByteArray := ⟨#[111, 116, 104, 101, 114]⟩
set_option maxHeartbeats 8000000 in
/-- where nothing is let go -/
theorem bloomsOrder_main (A : Option Addr) (n c : Nat) (T : List ByteArray) (f : Nat) (w : World) (y : Lies w w.heap.size 1 A n (T.map Value.string)) (z : n ≤ c) (x : c ≤ 140737488351232) (hf : f < 256) (h1 : n ≤ 200) (h0 : 0 < n)
    (hsum : n + (sizes T).sum ≤ 20000) (ht : ∀ W, Below w.heap.size w W → Calls Try.prog 13 #[.slice A n c] W fun e w' => ∃ v : Nat, e = .returned (.int .i64 (v : Int)) ∧ v ≤ 20000 ∧ w' = W) :
    Calls Try.prog 5 #[.slice A n c, .int .u8 (f : Int)] w fun e w' => e = .returned (.bool true) ∧ Below w.heap.size w w' := by
  have d1 : decide ((200 : Int) < (n : Int)) = false := by simp; omega
  have d2 : ((n : Int) == 0) = false := by simp; omega
  have HT := Lib.hid ht; clear ht
  have HY := Lib.hid y; clear y
  have HS := Lib.hid hsum; clear hsum
  obtain ⟨k, hk⟩ : ∃ k, f % n = k := ⟨_, rfl⟩
  have hkn : k < n := by rw [← hk]; exact Nat.mod_lt _ h0
  have hkf : (f : Int) % (n : Int) = (k : Int) := by rw [← hk]; rfl
  have HKF := Lib.hid hkf
  obtain ⟨b, o, xk, rfl, hbB, hxk, hck⟩ := HY.out.str hkn
  have HXK := Lib.hid hxk
  clear hk hxk hkf
  go_enter Try.func5, Try.ntmps5
  go_wp2_with fail
  refine (alive9_any w).mono ?_
  rintro e w1 ⟨rfl, hb1⟩
  have HB1 := Lib.hid hb1; clear hb1
  go_wp2_with fail
  refine (HT.out w1 HB1.out).mono ?_
  rintro e w1' ⟨v, rfl, hv, rfl⟩
  have d3 : decide ((20000 : Int) < (v : Int)) = false := by simp; omega
  have hkf := HKF.out
  have r1 : ∀ W, (Instr.slice 29 (.slice (some ⟨b, o, none⟩) n c) (some (.int .i64 (k : Int))) none none).run Try.prog W = .ok (.slice (cutA (some ⟨b, o, none⟩) c k) (n - k) (c - k)) W := fun W => run_cutS W _ n c k (by omega)
  have r2 : ∀ W, (Instr.slice 29 (.slice (some ⟨b, o, none⟩) n c) none (some (.int .i64 (k : Int))) none).run Try.prog W = .ok (.slice (some ⟨b, o, none⟩) k c) W := fun W => run_headS W _ n c k (by omega)
  have LD : Hid (∀ W, Below w.heap.size w W → Lies W w.heap.size 1 (cutA (some ⟨b, o, none⟩) c k) (n - k) ((T.drop k).map Value.string)) := fun W h => (HY.out.below h).cutS (by omega) z
  have LT : Hid (∀ W, Below w.heap.size w W → Lies W w.heap.size 1 (some ⟨b, o, none⟩) k ((T.take k).map Value.string)) := fun W h => (HY.out.below h).takeS (by omega)
  have hb0 := HB1.out.drew
  clear HT
  go_wp2
  go_region_law (first
    | (refine step_app9N _ rfl (.const (.slice none 0 0)) (.tmp 37) rfl w.heap.size (n - k) (c - k) w.heap.size _ (T.drop k) rfl rfl (LD.out _ hb0) (by omega) hb0.size ?_; intro A4 c4 w4 ha4 hg4; have hb4 := hb0.trans ha4.below)
    | (refine step_app9 _ rfl (.tmp 38) (.tmp 41) rfl w.heap.size (n - k) k c c4 w.heap.size A4 _ (T.drop k) (T.take k) rfl rfl ha4.own (LT.out _ hb4) (by omega) hb4.size ?_; intro A5 c5 w5 ha5 hg5))
  have e5 : n - k + k = n := by omega
  rw [e5] at ha5 ⊢
  have HW5 := Lib.hid (hb4.trans ha5.below)
  have HO5 : Hid (w5.ownsRow w.heap.size 9 1 (.slice A5 n c5) n ((T.drop k ++ T.take k).map Value.string)) := ha5.own
  have hnc5 := ha5.cap
  have hcm5 := ha5.max
  have hck5 : w5.cell? ⟨b, o + k, none⟩ = some (.string xk) := (HW5.out.cell (p := ⟨b, o + k, none⟩) hbB).trans hck
  clear hb0 hb4 ha4 hg4 ha5 hg5 e5 LD LT r1 r2
  have hd5 : Below w5.heap.size w5 w5.drew := (Below.refl _ _).drew
  have hl5 : ∀ o', Below w5.heap.size w5 (w5.drew.alloc o') := fun o' => hd5.alloc (Nat.le_refl _) o'
  have LY : Hid (∀ W, Below w5.heap.size w5 W → Lies W w.heap.size 1 (some ⟨b, o, none⟩) n (T.map Value.string)) := fun W h => HY.out.below (HW5.out.trans (h.mono HW5.out.size))
  have CK : Hid (∀ W, Below w5.heap.size w5 W → W.cell? ⟨b, o + k, none⟩ = some (.string xk)) := fun W h => (h.cell (p := ⟨b, o + k, none⟩) (Nat.lt_of_lt_of_le hbB HW5.out.size)).trans hck5
  have hkn2 : (k : Int) < (n : Int) := by omega
  have hk0 : (0 : Int) ≤ (k : Int) := by omega
  go_wp2
  go_region_law (first
    | (refine step_app9N _ rfl (.const (.slice none 0 0)) (.tmp 43) rfl w5.heap.size n c w.heap.size _ T rfl rfl (LY.out _ hd5) (by omega) (Nat.le_refl _) ?_; intro A6 c6 w6 ha6 hg6; have hb6 : Below w5.heap.size w5 w6 := hd5.trans ha6.below; have hck6 := CK.out w6 hb6; have hlit : ∀ (o' : Obj), True := fun _ => trivial)
    | (refine step_app9N _ rfl (.const (.slice none 0 0)) (.tmp 43) rfl w5.heap.size n c w.heap.size _ T rfl rfl (LY.out _ (hl5 _)) (by omega) (hl5 _).size ?_; intro A6 c6 w6 ha6 hg6; have hb6 : Below w5.heap.size w5 w6 := (hl5 _).trans ha6.below; have hck6 := CK.out w6 hb6; have hlit := (one_str (w := w5.drew) xk).below ((Below.refl _ _).grown hg6 (by simp) (by simp)))
    | (refine step_app9 _ rfl (.tmp 44) (.tmp 49) rfl w5.heap.size n 1 1 c6 (w6.heap.size + 1) A6 (some ⟨w6.heap.size, 0, none⟩) T [xk] rfl rfl (ha6.own.alloc _) (one_str xk) (by omega) (hb6.alloc hb6.size _).size ?_; intro A7 c7 w7 ha7 hg7; have hb7 : Below w5.heap.size w5 w7 := (hb6.alloc hb6.size _).trans ha7.below)
    | (refine step_app9 _ rfl (.tmp 44) (.tmp 49) rfl w5.heap.size n 1 1 c6 (w5.heap.size + 1) A6 (some ⟨w5.heap.size, 0, none⟩) T [xk] rfl rfl ha6.own hlit (by omega) hb6.size ?_; intro A7 c7 w7 ha7 hg7; have hb7 : Below w5.heap.size w5 w7 := hb6.trans ha7.below))
  all_goals (
    have HW7 := Lib.hid (HW5.out.trans (hb7.mono HW5.out.size))
    have HO57 := Lib.hid (own_below HO5.out hb7)
    have HO7 : Hid (w7.ownsRow w5.heap.size 9 1 (.slice A7 (n + 1) c7) (n + 1) ((T ++ [xk]).map Value.string)) := ha7.own
    have hnc7 := ha7.cap
    have hcm7 := ha7.max
    clear hlit ha6 ha7 hg6 hg7 hb6 hb7 hck6 LY CK hd5 hl5 hck5
    have hd7 : Below w7.heap.size w7 w7 := Below.refl _ _
    go_wp2_with (first
      | (at_builtin; refine wpList_appSN _ (by rfl) (.const (.slice none 0 0)) (.tmp 51) rfl w7.heap.size n c w.heap.size _ T rfl rfl (HY.out.below HW7.out) (by omega) (Nat.le_refl _) ?_; intro A8 c8 w8 ha8 hg8)
      | (at_builtin; refine wpList_appS _ (by rfl) (.tmp 52) (.tmp 53) rfl w7.heap.size n 1 1 c8 (w8.heap.size + 1) A8 (some ⟨w8.heap.size, 0, none⟩) T [OT] rfl rfl (ha8.own.alloc _) (one_str OT) (by omega) (ha8.below.alloc ha8.below.size _).size ?_; intro A9 c9 w9 ha9 hg9))
    have hb9 : Below w7.heap.size w7 w9 := (ha8.below.alloc ha8.below.size _).trans ha9.below
    have HW9 := Lib.hid (HW7.out.trans (hb9.mono HW7.out.size))
    have HO59 := Lib.hid (own_below HO57.out hb9)
    have HO79 := Lib.hid (own_below HO7.out hb9)
    have HO9 : Hid (w9.ownsRow w7.heap.size 9 1 (.slice A9 (n + 1) c9) (n + 1) ((T ++ [OT]).map Value.string)) := ha9.own
    have hnc9 := ha9.cap
    have hcm9 := ha9.max
    clear ha8 ha9 hg8 hg9 hb9 hd7 HO57 HO7 HO5
    have HSM : Hid (∀ s ∈ T, s.size ≤ 1099511627776) := small_of (by have := HS.out; omega)
    have hxm : xk ∈ T := List.mem_of_getElem? HXK.out
    have HXM := Lib.hid hxm
    have HSM7 : Hid (∀ s ∈ T ++ [xk], s.size ≤ 1099511627776) := fun s hs => by
      rcases List.mem_append.1 hs with h | h
      · exact HSM.out s h
      · rw [List.mem_singleton.1 h]; exact HSM.out _ HXM.out
    have HSM9 : Hid (∀ s ∈ T ++ [OT], s.size ≤ 1099511627776) := fun s hs => by
      rcases List.mem_append.1 hs with h | h
      · exact HSM.out s h
      · rw [List.mem_singleton.1 h]; decide
    have HSM5 : Hid (∀ s ∈ T.drop k ++ T.take k, s.size ≤ 1099511627776) := fun s hs => by
      rcases List.mem_append.1 hs with h | h
      · exact HSM.out s (List.mem_of_mem_drop h)
      · exact HSM.out s (List.mem_of_mem_take h)
    obtain ⟨N, hN⟩ : ∃ N, Blm.size n + 1 = N := ⟨_, rfl⟩
    obtain ⟨M, hM⟩ : ∃ M, Blm.size (n + 1) + 1 = M := ⟨_, rfl⟩
    have hMl : 9 ≤ M ∧ M ≤ 1000 := by
      have h1 := Blm.size_pos (n + 1)
      have h2 : Blm.size (n + 1) = max (((n + 1) * 10 + 7) / 8) 8 := rfl
      omega
    have hNl : N ≤ 1000 := by
      have h2 : Blm.size n = max ((n * 10 + 7) / 8) 8 := rfl
      omega
    have HP := Lib.hid (put9_any (n + 1) M hM A7 c7 _ (T ++ [xk]) w9 (Lies.of_own HO79.out) (Nat.le_refl _) HSM7.out (by omega))
    have HNN := Lib.hid hN; have HMM := Lib.hid hM
    clear hxm hN hM HO79
    go_wp2_with fail
    refine HP.out.mono ?_
    rintro e w10 ⟨A10, c10, rfl, hc10, hm10, ho10, hb10⟩
    have HW10 := Lib.hid (HW9.out.trans (hb10.mono HW9.out.size))
    have HO510 := Lib.hid (own_below HO59.out hb10)
    have HO910 := Lib.hid (own_below HO9.out hb10)
    have HL10 := Lib.hid (Lies.of_own ho10)
    have HP2 := Lib.hid (put9_any (n + 1) M HMM.out A9 c9 _ (T ++ [OT]) w10 (Lies.of_own HO910.out) (Nat.le_refl _) HSM9.out (by omega))
    clear hb10 ho10 HO59 HO9 HP HO910
    go_wp2_with fail
    refine HP2.out.mono ?_
    rintro e w11 ⟨A11, c11, rfl, hc11, hm11, ho11, hb11⟩
    have HW11 := Lib.hid (HW10.out.trans (hb11.mono HW10.out.size))
    have HO511 := Lib.hid (own_below HO510.out hb11)
    have HL11a := Lib.hid ((HL10.out.below hb11).more hb11.size)
    have HL11 := Lib.hid (Lies.of_own ho11)
    have HP3 := Lib.hid (put9_any n N HNN.out A5 c5 _ (T.drop k ++ T.take k) w11 (Lies.of_own HO511.out) (Nat.le_refl _) HSM5.out (by omega))
    clear hb11 ho11 HO510 HP2 HL10 HO511
    go_wp2_with fail
    refine HP3.out.mono ?_
    rintro e w12 ⟨A12, c12, rfl, _, _, ho12, hb12⟩
    have HW12 := Lib.hid (HW11.out.trans (hb12.mono HW11.out.size))
    have HL12a := Lib.hid ((HL11a.out.below hb12).more hb12.size)
    have HL12 := Lib.hid ((HL11.out.below hb12).more hb12.size)
    have HL12t := Lib.hid (Lies.of_own ho12)
    have HP4 := Lib.hid (put9_any n N HNN.out (some ⟨b, o, none⟩) c _ T w12 (HY.out.below HW12.out) HW12.out.size HSM.out (by omega))
    clear hb12 ho12 HP3 HL11a HL11
    go_wp2_with fail
    refine HP4.out.mono ?_
    rintro e w13 ⟨A13, c13, rfl, _, _, ho13, hb13⟩
    have HW13 := Lib.hid (HW12.out.trans (hb13.mono HW12.out.size))
    have HL13a := Lib.hid ((HL12a.out.below hb13).more hb13.size)
    have HL13 := Lib.hid ((HL12.out.below hb13).more hb13.size)
    have hse := same_any A12 A13 N N c12 c13 w13.heap.size _ _ w13 ((HL12t.out.below hb13).more hb13.size) (Lies.of_own ho13) (by omega)
    have heq : Blm.filt (kys (T.drop k ++ T.take k)) = Blm.filt (kys T) := by
      refine Blm.filt_eq (by simp; omega) fun s => ?_
      have hp : (T.drop k ++ T.take k).Perm T := (List.perm_append_comm).trans (by rw [List.take_append_drop])
      exact (hp.map _).mem_iff
    rw [heq, sameB_self] at hse
    have HSE := Lib.hid hse
    clear hb13 ho13 HP4 HL12a HL12 HL12t hse heq
    go_wp2_with fail
    refine HSE.out.mono ?_
    rintro e w14 ⟨rfl, q, rfl⟩
    have HW14 := Lib.hid (below_drewN HW13.out q)
    have HL14a := Lib.hid (HL13a.out.drewN q)
    have HL14 := Lib.hid (HL13.out.drewN q)
    obtain ⟨w14, hw14⟩ : ∃ w14, w13.drewN q = w14 := ⟨_, rfl⟩
    have hz14 : w14.heap.size = w13.heap.size := by rw [← hw14]; rfl
    rw [hw14] at HW14 HL14a HL14 ⊢
    rw [← hz14] at HL14a HL14
    clear hw14 HSE HL13a HL13 HW13 hz14
    have hmm : ((M : Int) != (M : Int)) = false := by simp
    have R0 : Hid (∃ i : Nat, i ≤ M ∧ (Value.int .i64 0) = .int .i64 (i : Int) ∧ ∃ q, w14 = w14.drewN q) := ⟨0, Nat.zero_le _, rfl, 0, rfl⟩
    go_wp2
    go_loopw [11] (fun i wr => ∃ k : Nat, k ≤ M ∧ i = .int .i64 (k : Int) ∧ ∃ q, wr = w14.drewN q) (fun i _ => M - (intOf i).toNat)
    case atStart => exact R0.out
    case round =>
      clear R0
      obtain ⟨i, hi, rfl, q2, rfl⟩ := hrel
      by_cases hlt : i < M
      · obtain ⟨ba, oa, xa, rfl, _, hxa, hca⟩ := HL14a.out.byte hlt
        obtain ⟨bb, ob, xb, rfl, _, hxb, hcb⟩ := HL14.out.byte hlt
        have hab := Blm.filt_and (l := kys (T ++ [xk])) (l2 := kys (T ++ [OT])) (by simp) (fun s hs => by
          obtain ⟨t, ht, rfl⟩ := List.mem_map.1 hs
          refine List.mem_map.2 ⟨t, ?_, rfl⟩
          rcases List.mem_append.1 ht with h | h
          · exact List.mem_append.2 (.inl h)
          · rw [List.mem_singleton.1 h]; exact List.mem_append.2 (.inl HXM.out)) hxa hxb
        have hal := xa.toNat_lt
        have hbl := xb.toNat_lt
        have hand := u8_and_nat xa.toNat xb.toNat hal hbl
        rw [hab] at hand
        clear hab hxa hxb
        generalize xa.toNat = na at *
        generalize xb.toNat = nb at *
        have hne : ((na : Int) != (na : Int)) = false := by simp
        have hiM : (i : Int) < (M : Int) := by omega
        have hi0 : (0 : Int) ≤ (i : Int) := by omega
        go_wp2
        go_quiet (fail)
        clear hca hcb hand
        go_wp2
        go_roundw
        case rel => exact ⟨i + 1, hlt, by go_num, _, by first | rfl | (rw [World.drewN_drewN])⟩
        case measure => simp [intOf]; omega
      · obtain rfl : i = M := by omega
        have HW15 := Lib.hid (below_drewN HW14.out q2)
        have hz15 : w14.heap.size = (w14.drewN q2).heap.size := rfl
        have hl15 := HL14.out.drewN q2
        rw [hz15] at hl15
        have HL15 := Lib.hid hl15
        generalize w14.drewN q2 = w15 at *
        have m1 := may9_any A11 i c11 _ (Blm.filt (kys (T ++ [OT]))) OT w15 HL15.out (Nat.le_refl _) hc11 (by omega) (by decide)
        rw [Blm.may_there (List.mem_map.2 ⟨OT, List.mem_append.2 (.inr (List.mem_singleton.2 rfl)), rfl⟩)] at m1
        have M1 := Lib.hid m1
        clear hz15 hl15 m1
        go_wp2_with fail
        refine M1.out.mono ?_
        rintro e w16 ⟨rfl, hb16⟩
        have HW16 := Lib.hid (HW15.out.trans (hb16.mono HW15.out.size))
        have hck16 : w16.cell? ⟨b, o + k, none⟩ = some (.string xk) := (HW16.out.cell (p := ⟨b, o + k, none⟩) hbB).trans hck
        have m2 := may9_any A11 i c11 _ (Blm.filt (kys (T ++ [OT]))) xk w16 (HL15.out.below hb16) hb16.size hc11 (by omega) (HSM.out _ HXM.out)
        rw [Blm.may_there (List.mem_map.2 ⟨xk, List.mem_append.2 (.inl HXM.out), rfl⟩)] at m2
        have M2 := Lib.hid m2
        clear m2 hb16 M1 HL15
        go_wp2_with fail
        refine M2.out.mono ?_
        rintro e w17 ⟨rfl, hb17⟩
        have HW17 := Lib.hid (HW16.out.trans (hb17.mono HW16.out.size))
        clear hb17 M2
        go_wp2
        go_ret
        exact ⟨rfl, HW17.out⟩)

set_option maxHeartbeats 2000000 in
/-- too much: nothing is claimed -/
theorem bloomsOrder_much (A : Option Addr) (n c : Nat) (f : Nat) (w : World) (hf : f < 256) (hn : n ≤ 140737488351232)
    (hcase : 200 < n ∨ (∀ W, Below w.heap.size w W → Calls Try.prog 13 #[.slice A n c] W fun e w' => ∃ v : Nat, e = .returned (.int .i64 (v : Int)) ∧ 20000 < v ∧ v ≤ 281474976710656 ∧ w' = W) ∨
      n = 0 ∧ ∀ W, Below w.heap.size w W → Calls Try.prog 13 #[.slice A n c] W fun e w' => ∃ v : Nat, e = .returned (.int .i64 (v : Int)) ∧ v ≤ 20000 ∧ w' = W) :
    Calls Try.prog 5 #[.slice A n c, .int .u8 (f : Int)] w fun e w' => e = .returned (.bool true) ∧ Below w.heap.size w w' := by
  have last : Hid (∀ W : World, Below w.heap.size w W → Calls Try.prog 12 #[] W fun e w' => e = .returned (.bool true) ∧ Below w.heap.size w w') := fun W hW =>
    (alive9_any W).mono fun e w' ⟨he, hb⟩ => ⟨he, hW.trans (hb.mono hW.size)⟩
  by_cases h1 : 200 < n
  · have d1 : decide ((200 : Int) < (n : Int)) = true := by simp; omega
    clear hcase
    go_enter Try.func5, Try.ntmps5
    go_wp2_with fail
    refine (alive9_any w).mono ?_
    rintro e w1 ⟨rfl, hb1⟩
    go_wp2_with fail
    refine (last.out w1 hb1).mono ?_
    rintro e w2 ⟨rfl, hb2⟩
    go_wp2
    go_ret
    exact ⟨rfl, hb2⟩
  have d1 : decide ((200 : Int) < (n : Int)) = false := by simp; omega
  rcases hcase with h | hts | ⟨rfl, hts⟩
  · exact absurd h h1
  · have HTS := Lib.hid hts
    clear hts
    go_enter Try.func5, Try.ntmps5
    go_wp2_with fail
    refine (alive9_any w).mono ?_
    rintro e w1 ⟨rfl, hb1⟩
    have HB1 := Lib.hid hb1; clear hb1
    go_wp2_with fail
    refine (HTS.out w1 HB1.out).mono ?_
    rintro e w1' ⟨v, rfl, hv, hv2, rfl⟩
    have d3 : decide ((20000 : Int) < (v : Int)) = true := by simp; omega
    go_wp2_with fail
    refine (last.out _ HB1.out).mono ?_
    rintro e w2 ⟨rfl, hb2⟩
    go_wp2
    go_ret
    exact ⟨rfl, hb2⟩
  · have HTS := Lib.hid hts
    clear hts
    go_enter Try.func5, Try.ntmps5
    go_wp2_with fail
    refine (alive9_any w).mono ?_
    rintro e w1 ⟨rfl, hb1⟩
    have HB1 := Lib.hid hb1; clear hb1
    go_wp2_with fail
    refine (HTS.out w1 HB1.out).mono ?_
    rintro e w1' ⟨v, rfl, hv, rfl⟩
    have d3 : decide ((20000 : Int) < (v : Int)) = false := by simp; omega
    go_wp2_with fail
    refine (last.out _ HB1.out).mono ?_
    rintro e w2 ⟨rfl, hb2⟩
    go_wp2
    go_ret
    exact ⟨rfl, hb2⟩

theorem bloomsOrder_walk (A : Option Addr) (n c : Nat) (T : List ByteArray) (f : Nat) (w : World) (y : Lies w w.heap.size 1 A n (T.map Value.string)) (u : ∀ s ∈ T, s.size ≤ 140737488351232) (z : n ≤ c) (x : c ≤ 140737488351232) (hf : f < 256) :
    Calls Try.prog 5 #[.slice A n c, .int .u8 (f : Int)] w fun e w' => e = .returned (.bool true) ∧ Below w.heap.size w w' := by
  by_cases h1 : 200 < n
  · exact bloomsOrder_much A n c f w hf (by omega) (.inl h1)
  rcases texts_cases A n c T w y u (by omega) with ht | ⟨hsum, ht⟩
  · exact bloomsOrder_much A n c f w hf (by omega) (.inr (.inl ht))
  · rcases Nat.eq_zero_or_pos n with h0 | h0
    · exact bloomsOrder_much A n c f w hf (by omega) (.inr (.inr ⟨h0, ht⟩))
    · exact bloomsOrder_main A n c T f w y z x hf (by omega) h0 hsum ht
end Go.Proofs.Ytjnmckchicmmgaa
