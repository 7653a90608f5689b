/-
  The walk of OrderAgain: great inputs, bytes that are no entry, an entry that says gone.
-/
import Derived.Test.YtjeijgkkobmdbaaOrderBackW
namespace Go.Proofs.Ytjeijgkkobmdbaa
open Go.RowKit
set_option linter.unusedVariables false
set_option maxRecDepth 100000

set_option maxHeartbeats 400000 in
theorem orderAgain_big (A : Option Addr) (n c cut : Nat) (w : World) (hc : c ≤ 140737488351232) (hnc : n ≤ c) (hbig : 1048576 < n) :
    Calls Try.prog 7 #[.slice A n c, .int .u16 (cut : Int)] w fun e w' => e = .returned (.bool true) ∧ Below w.heap.size w w' := by
  have HD := Lib.hid (decide_eq_true hbig)
  clear hbig
  go_enter Try.func7, Try.ntmps7
  go_wp2_with fail
  refine (alive4_any w).mono ?_
  rintro e w1 ⟨rfl, hb1⟩
  have HB1 : Hid (Kept w w1) := hb1
  clear hb1
  go_wp2_with fail
  refine (beyond_z _ n w1 _ rfl rfl (by omega) true HD.out).mono ?_
  rintro e w2 ⟨rfl, hb2⟩
  have HB2 := Lib.hid (HB1.out.on hb2)
  clear hb2 HB1
  go_wp2_with fail
  refine (alive4_any w2).mono ?_
  rintro e w3 ⟨rfl, hb3⟩
  have HB3 := Lib.hid (HB2.out.on hb3)
  clear hb3 HB2
  go_wp2
  go_ret
  exact ⟨rfl, HB3.out⟩

set_option maxHeartbeats 2000000 in
theorem orderAgain_bad (A : Option Addr) (n c cut er : Nat) (l : List UInt8) (w : World) (y : Lies w w.heap.size 1 A n (l.map bv)) (hnc : n ≤ c) (hc : c ≤ 140737488351232) (hsm : ¬ 1048576 < n) (hgt : gotE l = (En.zero, 0, er)) (h45 : er = 4 ∨ er = 5) :
    Calls Try.prog 7 #[.slice A n c, .int .u16 (cut : Int)] w fun e w' => e = .returned (.bool true) ∧ Below w.heap.size w w' := by
  have Y := Lib.hid y; clear y
  have HD := Lib.hid (decide_eq_false hsm)
  have HX : Hid (∀ (w : World), Lies w w.heap.size 1 A n (l.map bv) → Calls Try.prog 18 #[.slice A n c] w fun e w' => e = .returned (.tuple #[.agg #[.string ByteArray.empty, .int .u64 (0 : Int), .bool false, .string ByteArray.empty], .int .i64 (0 : Int), .int .i64 (er : Int)]) ∧ Below w.heap.size w w') :=
    fun w h => by have h := oget_any A n c l w h hnc (by unfold maxLen; omega); rw [hgt] at h; exact h
  clear hgt
  go_enter Try.func7, Try.ntmps7
  go_wp2_with fail
  refine (alive4_any w).mono ?_
  rintro e w1 ⟨rfl, hb1⟩
  have HB1 : Hid (Kept w w1) := hb1
  clear hb1
  go_wp2_with fail
  refine (beyond_z _ n w1 _ rfl rfl (by omega) false HD.out).mono ?_
  rintro e w2 ⟨rfl, hb2⟩
  have HB2 := Lib.hid (HB1.out.on hb2)
  clear hb2 HB1
  go_wp2_with fail
  refine (HX.out w2 (Kept.lies HB2.out Y.out)).mono ?_
  rintro e w3 ⟨rfl, hb3⟩
  have HB3 := Lib.hid (HB2.out.on hb3)
  have HB4 := Lib.hid (HB3.out.new (.cells #[.string ByteArray.empty, .int .u64 (0 : Int), .bool false, .string ByteArray.empty] 32))
  have HZ4 := Lib.hid (EnIn.new w3 ⟨⟨ByteArray.empty, 0, false⟩, ByteArray.empty⟩)
  clear hb3 HB2 HX HB3
  rcases h45 with rfl | rfl
  · go_wp2_with fail
    generalize (w3.alloc (.cells #[.string ByteArray.empty, .int .u64 (0 : Int), .bool false, .string ByteArray.empty] 32)) = w4 at *
    have z4 := HZ4.out.1.cell
    go_wp2
    go_ret
    exact ⟨rfl, HB4.out⟩
  · go_wp2_with fail
    generalize (w3.alloc (.cells #[.string ByteArray.empty, .int .u64 (0 : Int), .bool false, .string ByteArray.empty] 32)) = w4 at *
    have z4 := HZ4.out.1.cell
    go_wp2
    go_ret
    exact ⟨rfl, HB4.out⟩

set_option maxHeartbeats 4000000 in
theorem orderAgain_gone (A : Option Addr) (n c cut t s : Nat) (k : ByteArray) (l : List UInt8) (w : World) (y0 : Lies w w.heap.size 1 A n (l.map bv)) (hnc : n ≤ c) (hc : c ≤ 140737488351232) (hcut : cut < 65536) (hsm : ¬ 1048576 < n) (hgt : gotE l = (⟨⟨k, s, true⟩, ByteArray.empty⟩, t, 0)) :
    Calls Try.prog 7 #[.slice A n c, .int .u16 (cut : Int)] w fun e w' => e = .returned (.bool true) ∧ Below w.heap.size w w' := by
  have Y := Lib.hid y0; clear y0
  have hln := Y.out.blen
  have HD := Lib.hid (decide_eq_false hsm)
  have HX : Hid (∀ (w : World), Lies w w.heap.size 1 A n (l.map bv) → Calls Try.prog 18 #[.slice A n c] w fun e w' => e = .returned (.tuple #[.agg #[.string k, .int .u64 (s : Int), .bool true, .string ByteArray.empty], .int .i64 (t : Int), .int .i64 (0 : Int)]) ∧ Below w.heap.size w w') :=
    fun w h => by have h := oget_any A n c l w h hnc (by unfold maxLen; omega); rw [hgt] at h; exact h
  obtain ⟨ht3, htl, hck, hys, _, hs, htE, htake⟩ := got_back l _ t hgt
  dsimp only at hck hys hs
  have htn : t ≤ n := by omega
  have hel := (encE_len ⟨⟨k, s, true⟩, ByteArray.empty⟩).1
  have hkl : k.size ≤ 1048576 := by
    have hkk : k.size ≤ (encE ⟨⟨k, s, true⟩, ByteArray.empty⟩).length := by unfold encE; simp only [List.length_append, txt_len]; omega
    omega
  obtain ⟨q, hq⟩ : ∃ q, cut % t = q := ⟨_, rfl⟩
  have hqt : q < t := by rw [← hq]; exact Nat.mod_lt _ (by omega)
  have HCUT : Hid (gotE (l.take q) = (En.zero, 0, 5)) := by
    have h := got_cut ⟨⟨k, s, true⟩, ByteArray.empty⟩ q (by show k.size < _; omega) hs (by show (ByteArray.empty).size < _; omega) hck (by omega)
    rw [← htake, List.take_take, Nat.min_eq_left (by omega)] at h
    exact h
  have HX2 : Hid (∀ (w : World), Lies w w.heap.size 1 A n (l.map bv) → Calls Try.prog 18 #[.slice A q c] w fun e w' => e = .returned (.tuple #[.agg #[.string ByteArray.empty, .int .u64 (0 : Int), .bool false, .string ByteArray.empty], .int .i64 (0 : Int), .int .i64 (5 : Int)]) ∧ Below w.heap.size w w') :=
    fun w h => by
      have h := oget_any A q c (l.take q) w (by have h := lies_take h (m := q) (by omega); exact h) (by omega) (by unfold maxLen; omega)
      rw [HCUT.out] at h; exact h
  have HCH : Hid (∀ W, Calls Try.prog 12 #[.string k] W fun e w' => e = .returned (.bool true) ∧ W = w') := fun W => by have h := chk_any k W (by omega); rw [hck] at h; exact h
  have HPut : Hid (∀ W, Calls Try.prog 23 #[.slice none 0 0, .agg #[.string k, .int .u64 (s : Int), .bool true, .string ByteArray.empty]] W fun e w' => PutAns W (encE ⟨⟨k, s, true⟩, ByteArray.empty⟩) e w') := fun W => oput_any none 0 0 [] ⟨⟨k, s, true⟩, ByteArray.empty⟩ W (Lies.none_ _ _ _ _) hs (by show 0 + k.size + (ByteArray.empty).size ≤ _; omega)
  obtain ⟨E, hE⟩ : ∃ E, encE ⟨⟨k, s, true⟩, ByteArray.empty⟩ = E := ⟨_, rfl⟩
  rw [hE] at HPut htE htake
  have HTE := Lib.hid htE; have HTK := Lib.hid htake
  have e0 : ((cut : Int)) % (t : Int) = (q : Int) := by rw [← hq]; exact (Int.natCast_emod cut t).symm
  have e1 : Int.tmod (cut : Int) (t : Int) = (q : Int) := by rw [Int.tmod_eq_emod_of_nonneg (by omega), e0]
  have hne0 : ((t : Int) == 0) = false := by simp; omega
  have d1 : decide ((t : Int) < 3) = false := by simp; omega
  have d2 : decide ((n : Int) < (t : Int)) = false := by simp; omega
  have d2' : decide (n < t) = false := by simp; omega

  have htc : (t : Int) ≤ (c : Int) := by omega
  have hqc : (q : Int) ≤ (c : Int) := by omega
  have hhead : ∀ W, (Instr.slice 28 (.slice A n c) none (some (.int .i64 (t : Int))) none).run Try.prog W = .ok (.slice A t c) W := fun W => run_headI W A n c t (by omega)
  have hhead2 : ∀ W, (Instr.slice 28 (.slice A n c) none (some (.int .i64 (q : Int))) none).run Try.prog W = .ok (.slice A q c) W := fun W => run_headI W A n c q (by omega)
  clear hgt hln HCUT hE hel hck htE htake hq htl
  go_enter Try.func7, Try.ntmps7
  go_wp2_with fail
  refine (alive4_any w).mono ?_
  rintro e w1 ⟨rfl, hb1⟩
  have HB1 : Hid (Kept w w1) := hb1
  clear hb1
  go_wp2_with fail
  refine (beyond_z _ n w1 _ rfl rfl (by omega) false HD.out).mono ?_
  rintro e w2 ⟨rfl, hb2⟩
  have HB2 := Lib.hid (HB1.out.on hb2)
  clear hb2 HB1
  go_wp2_with fail
  refine (HX.out w2 (Kept.lies HB2.out Y.out)).mono ?_
  rintro e w3 ⟨rfl, hb3⟩
  have HB3 := Lib.hid (HB2.out.on hb3)
  have HB4 := Lib.hid (HB3.out.new (.cells #[.string k, .int .u64 (s : Int), .bool true, .string ByteArray.empty] 32))
  have HZ4 := Lib.hid (EnIn.new w3 ⟨⟨k, s, true⟩, ByteArray.empty⟩)
  clear hb3 HB2 HX HB3
  go_wp2_with fail
  generalize (w3.alloc (.cells #[.string k, .int .u64 (s : Int), .bool true, .string ByteArray.empty] 32)) = w4 at *
  have SF : Hid (∀ (w5 : World) (A5 : Option Addr) (n5 c5 : Nat), Own w4.drew E A5 n5 c5 w5 →
      Calls Try.prog 24 #[.slice A5 n5 c5, .slice A t c] w5 fun e w' => e = .returned (.bool true) ∧ Below w5.heap.size w5 w') := by
    intro w5 A5 n5 c5 h
    have hk5 : Kept w w5 := (Kept.on HB4.out (Below.refl _ _).drew).on h.2.2
    have hl := lies_take (Kept.lies hk5 Y.out) (m := t) htn
    rw [HTK.out] at hl
    have hn5 : n5 = t := by rw [h.1, ← HTE.out]
    subst hn5
    exact same_k A5 A n5 c5 c E w5 (Lies.of_own h.2.1) hl (by omega)
  have HKS : Hid (∀ W', Kept w4.drew W' → W'.cell? ⟨w3.heap.size, 0, none⟩ = some (.string k) ∧ W'.cell? ⟨w3.heap.size, 1, none⟩ = some (.int .u64 (s : Int)) ∧ W'.cell? ⟨w3.heap.size, 2, none⟩ = some (.bool true) ∧ W'.cell? ⟨w3.heap.size, 3, none⟩ = some (.string ByteArray.empty)) := fun W' h => (EnIn.on (w := w4.drew) HZ4.out h).1.cell
  have hk : Kept w4.drew w4.drew := Kept.self _
  go_region_held3 (fun w' => w'.cell? ⟨w3.heap.size, 0, none⟩ = some (.string k) ∧ w'.cell? ⟨w3.heap.size, 1, none⟩ = some (.int .u64 (s : Int)) ∧ w'.cell? ⟨w3.heap.size, 2, none⟩ = some (.bool true) ∧ w'.cell? ⟨w3.heap.size, 3, none⟩ = some (.string ByteArray.empty))
    (first | exact HKS.out _ hk | fail)
    (first
    | (go_at_call 12; refine (HCH.out _).mono ?_; rintro e wc ⟨rfl, rfl⟩)
    | (go_at_call 23; refine ((HPut.out _).mono fun _ _ q => q.own).mono ?_; rintro e w5 ⟨A5, n5, c5, rfl, hf5⟩; have hk2 := hk.on hf5.2.2; clear hk; have hk := hk2; clear hk2)
    | (go_at_call 24; refine (SF.out w5 A5 n5 c5 hf5).mono ?_; rintro e w6 ⟨rfl, hb6⟩; have hk2 := hk.on hb6; clear hk; have hk := hk2; clear hk2)
    | fail)
  have HB6 : Hid (Kept w w6) := (Kept.on HB4.out (Below.refl _ _).drew).on hk
  clear hk HKS SF hf5 hb6 HB4 HZ4 HPut HCH hhead
  go_wp2_with fail
  refine (HX2.out w6 (Kept.lies HB6.out Y.out)).mono ?_
  rintro e w7 ⟨rfl, hb7⟩
  have HB7 := Lib.hid (HB6.out.on hb7)
  have HB8 := Lib.hid (HB7.out.new (.cells #[.string ByteArray.empty, .int .u64 (0 : Int), .bool false, .string ByteArray.empty] 32))
  have HZ8 := Lib.hid (EnIn.new w7 ⟨⟨ByteArray.empty, 0, false⟩, ByteArray.empty⟩)
  clear hb7 HB6 HX2 HB7
  go_wp2_with fail
  generalize (w7.alloc (.cells #[.string ByteArray.empty, .int .u64 (0 : Int), .bool false, .string ByteArray.empty] 32)) = w8 at *
  have z8 := HZ8.out.1.cell
  go_wp2
  go_ret
  exact ⟨rfl, HB8.out⟩
end Go.Proofs.Ytjeijgkkobmdbaa
