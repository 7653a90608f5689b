/-
  The walk of OrderBack.
-/
import Derived.Test.YtjeijgkkobmdbaaOrderPartsW
import Derived.Test.YtjeijgkkobmdbaaTwin
namespace Go.Proofs.Ytjeijgkkobmdbaa
open Go.RowKit
set_option linter.unusedVariables false
set_option maxRecDepth 100000

theorem same_k (A A2 : Option Addr) (n c c2 : Nat) (l : List UInt8) (w : World) (h1 : Lies w w.heap.size 1 A n (l.map bv)) (h2 : Lies w w.heap.size 1 A2 n (l.map bv)) (hn : n ≤ 4611686018427387904) :
    Calls Try.prog 24 #[.slice A n c, .slice A2 n c2] w fun e w' => e = .returned (.bool true) ∧ Below w.heap.size w w' := by
  have s := same_any A A2 n n c c2 _ l l w h1 h2 hn
  rw [sameB_self] at s
  exact s.mono fun e w' ⟨he, q', hw⟩ => ⟨he, by rw [hw]; exact below_drewN (Below.refl _ _) q'⟩

/-- 's[:h]' -/
theorem run_headI (w : World) (A : Option Addr) (n c h : Nat) (h3 : h ≤ c) :
    (Instr.slice 28 (.slice A n c) none (some (.int .i64 (h : Int))) none).run Try.prog w = .ok (.slice A h c) w := by
  obtain ⟨i0, hi, hz0, hz1, hz2⟩ := info_parts byte_info
  unfold Instr.slice
  simp [run_underlying Try.underlying28, Instr.sliceBounds, Instr.sliceBound, asIntOf, sizeOf, typeInfo, hi, h3]
  cases A <;> simp [Addr.add]

set_option maxHeartbeats 400000 in
theorem orderBack_big (x : En) (A : Option Addr) (n c : Nat) (w : World) (y : x.m.k.size ≤ 140737488351232) (z : x.x.size ≤ 140737488351232) (hnc : n ≤ c) (hc : c ≤ 140737488351232) (hbig : 1048576 < n + x.m.k.size + x.x.size) :
    Calls Try.prog 6 #[x.v, .slice A n c] w fun e w' => e = .returned (.bool true) ∧ Below w.heap.size w w' := by
  have HE := Lib.hid (EnIn.new w x)
  have HB : Hid (Kept w (w.alloc (.cells #[.string x.m.k, .int .u64 (x.m.s : Int), .bool x.m.g, .string x.x] 32))) := (Kept.self w).new _
  have HD := Lib.hid (decide_eq_true hbig)
  clear hbig
  unfold En.v
  go_enter Try.func6, Try.ntmps6
  go_wp2_with fail
  generalize (w.alloc (.cells #[.string x.m.k, .int .u64 (x.m.s : Int), .bool x.m.g, .string x.x] 32)) = W at *
  refine (alive4_any W).mono ?_
  rintro e w1 ⟨rfl, hb1⟩
  have HE1 := Lib.hid (HE.out.on hb1); have HB1 := Lib.hid (HB.out.on hb1)
  have q1 := HE1.out.1.cell
  clear hb1 HE HB
  go_wp2_with fail
  refine (beyond_z _ (n + x.m.k.size + x.x.size) w1 _ rfl (by omega) (by omega) true HD.out).mono ?_
  rintro e w2 ⟨rfl, hb2⟩
  have HB2 := Lib.hid (HB1.out.on hb2)
  clear hb2 q1 HE1 HB1
  go_wp2_with fail
  refine (alive4_any w2).mono ?_
  rintro e w3 ⟨rfl, hb3⟩
  have HB3 := Lib.hid (HB2.out.on hb3)
  clear hb3 HB2
  go_wp2
  go_ret
  exact ⟨rfl, HB3.out⟩

/-- the ways of an entry that is read back -/
theorem back_ways (k y : ByteArray) (s : Nat) (g : Bool) (l : List UInt8) (hk : k.size < 18446744073709551616) (hs : s < 18446744073709551616) (hy : y.size < 18446744073709551616) :
    (chk k = false ∧ gotE (encE ⟨⟨k, s, g⟩, y⟩ ++ l) = (En.zero, 0, 4)) ∨ (chk k = true ∧ g = false ∧ 256 < y.size ∧ gotE (encE ⟨⟨k, s, g⟩, y⟩ ++ l) = (En.zero, 0, 4)) ∨
    (chk k = true ∧ g = false ∧ y.size ≤ 256 ∧ gotE (encE ⟨⟨k, s, g⟩, y⟩ ++ l) = (⟨⟨k, s, g⟩, y⟩, (encE ⟨⟨k, s, g⟩, y⟩).length, 0)) ∨
    (chk k = true ∧ g = true ∧ gotE (encE ⟨⟨k, s, g⟩, y⟩ ++ l) = (⟨⟨k, s, g⟩, ByteArray.empty⟩, (encE ⟨⟨k, s, g⟩, y⟩).length, 0)) := by
  have h := got_enc ⟨⟨k, s, g⟩, y⟩ l hk hs hy
  cases hc : chk k
  · refine .inl ⟨rfl, ?_⟩
    rw [h]; unfold okE; rw [hc]; rfl
  · cases g
    · by_cases hl : y.size ≤ 256
      · refine .inr (.inr (.inl ⟨rfl, rfl, hl, ?_⟩))
        rw [h]; unfold okE; rw [hc]; simp [hl, normE]
      · refine .inr (.inl ⟨rfl, rfl, by omega, ?_⟩)
        rw [h]; unfold okE; rw [hc]; simp [hl]
    · refine .inr (.inr (.inr ⟨rfl, rfl, ?_⟩))
      rw [h]; unfold okE; rw [hc]; simp [normE]

set_option maxHeartbeats 4000000 in
theorem orderBack_small (k y : ByteArray) (s : Nat) (g : Bool) (A : Option Addr) (n c : Nat) (l : List UInt8) (w : World) (hs : s < 18446744073709551616) (hl : Lies w w.heap.size 1 A n (l.map bv)) (hnc : n ≤ c) (hc : c ≤ 140737488351232) (hsm : ¬ 1048576 < n + k.size + y.size) :
    Calls Try.prog 6 #[En.v ⟨⟨k, s, g⟩, y⟩, .slice A n c] w fun e w' => e = .returned (.bool true) ∧ Below w.heap.size w w' := by
  obtain ⟨i0, hi, hz0, hz1, hz2⟩ := info_parts byte_info
  have HE := Lib.hid (EnIn.new w ⟨⟨k, s, g⟩, y⟩)
  have HB : Hid (Kept w (w.alloc (.cells #[.string k, .int .u64 (s : Int), .bool g, .string y] 32))) := (Kept.self w).new _
  have HD := Lib.hid (decide_eq_false hsm)
  have HL : Hid (Lies (w.alloc (.cells #[.string k, .int .u64 (s : Int), .bool g, .string y] 32)) (w.alloc (.cells #[.string k, .int .u64 (s : Int), .bool g, .string y] 32)).heap.size 1 A n (l.map bv)) := HB.out.lies hl
  have hln := hl.blen
  have HPut : Hid (∀ W, Lies W W.heap.size 1 A n (l.map bv) → Calls Try.prog 23 #[.slice A n c, .agg #[.string k, .int .u64 (s : Int), .bool g, .string y]] W fun e w' => PutAns W (l ++ encE ⟨⟨k, s, g⟩, y⟩) e w') := fun W h => oput_any A n c l ⟨⟨k, s, g⟩, y⟩ W h hs (by show n + k.size + y.size ≤ _; omega)
  have HC := Lib.hid (back_ways k y s g l (by omega) hs (by omega))
  have hel : (encE ⟨⟨k, s, g⟩, y⟩).length ≤ 31 + k.size + y.size := (encE_len ⟨⟨k, s, g⟩, y⟩).2
  obtain ⟨E, hE⟩ : ∃ E, encE ⟨⟨k, s, g⟩, y⟩ = E := ⟨_, rfl⟩
  rw [hE] at HPut HC hel
  obtain ⟨m, hm⟩ : ∃ m, E.length = m := ⟨_, rfl⟩
  rw [hm] at hel HC
  have hEm : m ≤ 1048640 := by omega
  have HM := Lib.hid hm; have HLN := Lib.hid hln
  have HCH : Hid (∀ W, Calls Try.prog 12 #[.string k] W fun e w' => e = .returned (.bool (chk k)) ∧ W = w') := fun W => chk_any k W (by omega)
  clear hm hE hel hl hln
  unfold En.v
  go_enter Try.func6, Try.ntmps6
  go_wp2_with fail
  generalize (w.alloc (.cells #[.string k, .int .u64 (s : Int), .bool g, .string y] 32)) = W at *
  refine (alive4_any W).mono ?_
  rintro e w1 ⟨rfl, hb1⟩
  have HE1 := Lib.hid (HE.out.on hb1); have HB1 := Lib.hid (HB.out.on hb1); have HL1 := Lib.hid (Kept.lies hb1 HL.out)
  have q1 := HE1.out.1.cell
  clear hb1 HE HB HL
  go_wp2_with fail
  refine (beyond_z _ (n + k.size + y.size) w1 _ rfl (by omega) (by omega) false HD.out).mono ?_
  rintro e w2 ⟨rfl, hb2⟩
  have HE2 := Lib.hid (HE1.out.on hb2); have HB2 := Lib.hid (HB1.out.on hb2); have HL2 := Lib.hid (Kept.lies hb2 HL1.out)
  have q2 := HE2.out.1.cell
  clear hb2 q1 HE1 HB1 HL1
  go_wp2_with fail
  refine ((HPut.out w2 HL2.out).mono fun _ _ q => q.own).mono ?_
  rintro e w3 ⟨A3, n3, c3, rfl, hf3⟩
  have hn3 : n3 = n + m := by rw [hf3.1, List.length_append, HLN.out, HM.out]
  subst hn3
  obtain ⟨hnc3, hcm3⟩ : n + m ≤ c3 ∧ c3 ≤ maxLen := by
    obtain ⟨A3', c3', hv3, h1, h2, _⟩ := own_shape hf3.2.1
    injection hv3 with e1 e2 e3
    rw [e3]; exact ⟨h1, h2⟩
  unfold maxLen at hcm3
  have HE3 := Lib.hid (HE2.out.on hf3.2.2); have HB3 := Lib.hid (HB2.out.on hf3.2.2); have HL3 := Lib.hid (Kept.lies hf3.2.2 HL2.out)
  have HO3 := Lib.hid (Lies.of_own hf3.2.1)
  clear hf3 q2 HE2 HB2 HL2 HPut
  have d3 : decide ((n : Int) + (m : Int) < (n : Int)) = false := decide_eq_false (by omega)
  have i3 : (n : Int) ≤ (c3 : Int) := by omega
  have hhead : ∀ W, (Instr.slice 28 (.slice A3 (n + m) c3) none (some (.int .i64 (n : Int))) none).run Try.prog W = .ok (.slice A3 n c3) W := fun W => run_headI W A3 (n + m) c3 n (by omega)
  have HS3 := Lib.hid (same_k A3 A n c3 c l w3 (by have h := lies_take HO3.out (m := n) (by omega); rw [List.take_left' HLN.out] at h; exact h) HL3.out (by omega))
  go_wp2_with fail
  refine HS3.out.mono ?_
  rintro e w4 ⟨rfl, hb4⟩
  have HE4 := Lib.hid (HE3.out.on hb4); have HB4 := Lib.hid (HB3.out.on hb4); have HL4 := Lib.hid (Kept.lies hb4 HL3.out)
  have L4 : Lies w4 w4.heap.size 1 (cutA A3 c3 n) m (E.map bv) := by
    have h := (Kept.lies hb4 HO3.out).cutA (m := n) (c := c3) (by omega) hnc3
    rw [Nat.add_sub_cancel_left, List.drop_left' HLN.out] at h
    exact h
  have HTW := Lib.hid (twin_own (cutA A3 c3 n) m (c3 - n) E w4 L4 (by omega))
  have hcut : ∀ W, (Instr.slice 28 (.slice A3 (n + m) c3) (some (.int .i64 (n : Int))) none none).run Try.prog W = .ok (.slice (cutA A3 c3 n) m (c3 - n)) W := fun W => by
    have h := run_cut W A3 (n + m) c3 n (by omega)
    rw [Nat.add_sub_cancel_left] at h; exact h
  have hz4 : w.heap.size < w4.heap.size := HE4.out.2
  clear hb4 HE3 HB3 HL3 HO3 HS3 d3 L4 hhead
  go_wp2_with fail
  refine HTW.out.mono ?_
  rintro e w5 ⟨g5, c5, rfl, hnc5, hcm5, hown5, hb5⟩
  have HE5 := Lib.hid (HE4.out.on hb5); have HB5 := Lib.hid (HB4.out.on hb5); have HL5 := Lib.hid (Kept.lies hb5 HL4.out)
  have HO5 := Lib.hid hown5; have HZ5 := Lib.hid hb5.size
  clear hown5 hb5 HE4 HL4 HTW hcut
  go_wp2_with (at_builtin; refine wpList_app _ rfl _ _ 28 rfl w4.heap.size 5 i0 _ 1 1 Try.underlying28 hi hz0 hz1 hz2 rfl (by decide) (.slice (some ⟨g5, 0, none⟩) m c5) m (E.map bv) rfl HO5.out w5.heap.size A n c (l.map bv) rfl HL5.out (bv_one _) (by unfold maxLen; omega) (by omega) HZ5.out ?_)
  intro v6 w6 hown6 hg6 _
  have hl6 : Below w4.heap.size w5 w6 := (Below.refl _ w5).grown hg6 HZ5.out (fun j hj => (HO5.out.lt j hj).1)
  obtain ⟨A6, c6, rfl, hnc6, hcm6, _⟩ := own_shape hown6
  have L6 : Lies w6 w6.heap.size 1 A6 (m + n) ((E ++ l).map bv) := by rw [List.map_append]; exact Lies.of_own hown6
  have HE6 : Hid (EnIn w6 w.heap.size ⟨⟨k, s, g⟩, y⟩) := ⟨HE5.out.1.below hl6 hz4, Nat.lt_of_lt_of_le HE5.out.2 hl6.size⟩
  have HB6 : Hid (Kept w w6) := Below.trans HB5.out (Below.mono hl6 (by omega))
  have HG := Lib.hid (oget_any A6 (m + n) c6 (E ++ l) w6 L6 hnc6 hcm6)
  clear hown6 hg6 hl6 L6 HO5 HL5 HE5 HB5 HB4 HZ5
  go_wp2_with fail
  rcases HC.out with ⟨hck, hgt⟩ | ⟨hck, rfl, hys, hgt⟩ | ⟨hck, rfl, hys, hgt⟩ | ⟨hck, rfl, hgt⟩
  · rw [hgt] at HG
    rw [hck] at HCH
    skip
    clear HC hgt hck
    refine HG.out.mono ?_
    rintro e w7 ⟨rfl, hb7⟩
    have HE7 := Lib.hid (HE6.out.on hb7)
    have B7 := HB6.out.on hb7
    have HE8 := Lib.hid (HE7.out.on ((Below.refl _ w7).alloc (Nat.le_refl _) (.cells #[.string ByteArray.empty, .int .u64 (0 : Int), .bool false, .string ByteArray.empty] 32)))
    have HB8 := Lib.hid (B7.new (.cells #[.string ByteArray.empty, .int .u64 (0 : Int), .bool false, .string ByteArray.empty] 32))
    have HZ8 := Lib.hid (EnIn.new w7 ⟨⟨ByteArray.empty, 0, false⟩, ByteArray.empty⟩)
    have hne : w.heap.size < w7.heap.size := HE7.out.2
    have q7 := HE7.out.1.cell
    clear hb7 B7 HE7 HE6 HB6 HG
    unfold En.v
    unfold En.zero
    go_wp2_with fail
    generalize (w7.alloc (.cells #[.string ByteArray.empty, .int .u64 (0 : Int), .bool false, .string ByteArray.empty] 32)) = W8 at *
    have q8 := HE8.out.1.cell; have z8 := HZ8.out.1.cell
    refine (HCH.out W8).mono ?_
    rintro e w9 ⟨rfl, rfl⟩
    go_wp2
    go_ret
    exact ⟨rfl, HB8.out⟩
  · rw [hgt] at HG
    rw [hck] at HCH
    have dy : decide ((y.size : Int) ≤ 256) = false := by simp; omega
    clear HC hgt hck
    refine HG.out.mono ?_
    rintro e w7 ⟨rfl, hb7⟩
    have HE7 := Lib.hid (HE6.out.on hb7)
    have B7 := HB6.out.on hb7
    have HE8 := Lib.hid (HE7.out.on ((Below.refl _ w7).alloc (Nat.le_refl _) (.cells #[.string ByteArray.empty, .int .u64 (0 : Int), .bool false, .string ByteArray.empty] 32)))
    have HB8 := Lib.hid (B7.new (.cells #[.string ByteArray.empty, .int .u64 (0 : Int), .bool false, .string ByteArray.empty] 32))
    have HZ8 := Lib.hid (EnIn.new w7 ⟨⟨ByteArray.empty, 0, false⟩, ByteArray.empty⟩)
    have hne : w.heap.size < w7.heap.size := HE7.out.2
    have q7 := HE7.out.1.cell
    clear hb7 B7 HE7 HE6 HB6 HG
    unfold En.v
    unfold En.zero
    go_wp2_with fail
    generalize (w7.alloc (.cells #[.string ByteArray.empty, .int .u64 (0 : Int), .bool false, .string ByteArray.empty] 32)) = W8 at *
    have q8 := HE8.out.1.cell; have z8 := HZ8.out.1.cell
    refine (HCH.out W8).mono ?_
    rintro e w9 ⟨rfl, rfl⟩
    go_wp2
    go_ret
    exact ⟨rfl, HB8.out⟩
  · rw [hgt] at HG
    rw [hck] at HCH
    have dy : decide ((y.size : Int) ≤ 256) = true := by simp; omega
    clear HC hgt hck
    refine HG.out.mono ?_
    rintro e w7 ⟨rfl, hb7⟩
    have HE7 := Lib.hid (HE6.out.on hb7)
    have B7 := HB6.out.on hb7
    have HE8 := Lib.hid (HE7.out.on ((Below.refl _ w7).alloc (Nat.le_refl _) (.cells #[.string k, .int .u64 (s : Int), .bool false, .string y] 32)))
    have HB8 := Lib.hid (B7.new (.cells #[.string k, .int .u64 (s : Int), .bool false, .string y] 32))
    have HZ8 := Lib.hid (EnIn.new w7 ⟨⟨k, s, false⟩, y⟩)
    have hne : w.heap.size < w7.heap.size := HE7.out.2
    have q7 := HE7.out.1.cell
    clear hb7 B7 HE7 HE6 HB6 HG
    unfold En.v
    
    go_wp2_with fail
    generalize (w7.alloc (.cells #[.string k, .int .u64 (s : Int), .bool false, .string y] 32)) = W8 at *
    have q8 := HE8.out.1.cell; have z8 := HZ8.out.1.cell
    refine (HCH.out W8).mono ?_
    rintro e w9 ⟨rfl, rfl⟩
    have dm : ((m : Int) == (n : Int) + (m : Int) - (n : Int)) = true := by simp; omega
    go_wp2
    go_ret
    exact ⟨rfl, HB8.out⟩
  · rw [hgt] at HG
    rw [hck] at HCH
    skip
    clear HC hgt hck
    refine HG.out.mono ?_
    rintro e w7 ⟨rfl, hb7⟩
    have HE7 := Lib.hid (HE6.out.on hb7)
    have B7 := HB6.out.on hb7
    have HE8 := Lib.hid (HE7.out.on ((Below.refl _ w7).alloc (Nat.le_refl _) (.cells #[.string k, .int .u64 (s : Int), .bool true, .string ByteArray.empty] 32)))
    have HB8 := Lib.hid (B7.new (.cells #[.string k, .int .u64 (s : Int), .bool true, .string ByteArray.empty] 32))
    have HZ8 := Lib.hid (EnIn.new w7 ⟨⟨k, s, true⟩, ByteArray.empty⟩)
    have hne : w.heap.size < w7.heap.size := HE7.out.2
    have q7 := HE7.out.1.cell
    clear hb7 B7 HE7 HE6 HB6 HG
    unfold En.v
    
    go_wp2_with fail
    generalize (w7.alloc (.cells #[.string k, .int .u64 (s : Int), .bool true, .string ByteArray.empty] 32)) = W8 at *
    have q8 := HE8.out.1.cell; have z8 := HZ8.out.1.cell
    refine (HCH.out W8).mono ?_
    rintro e w9 ⟨rfl, rfl⟩
    have f8 := HE8.out.1.frozen 3
    have dm : ((m : Int) == (n : Int) + (m : Int) - (n : Int)) = true := by simp; omega
    go_wp2
    go_ret
    exact ⟨rfl, Below.setCell HB8.out (p := ⟨w.heap.size, 3, none⟩) (Nat.le_refl _) _⟩

theorem orderBack_walk (x : En) (A : Option Addr) (n c : Nat) (l : List UInt8) (w : World) (hs : x.m.s < 18446744073709551616) (y : x.m.k.size ≤ 140737488351232) (z : x.x.size ≤ 140737488351232) (hl : Lies w w.heap.size 1 A n (l.map bv)) (hnc : n ≤ c) (hc : c ≤ 140737488351232) :
    Calls Try.prog 6 #[x.v, .slice A n c] w fun e w' => e = .returned (.bool true) ∧ Below w.heap.size w w' := by
  by_cases h : 1048576 < n + x.m.k.size + x.x.size
  · exact orderBack_big x A n c w y z hnc hc h
  · exact orderBack_small x.m.k x.x x.m.s x.m.g A n c l w hs hl hnc hc h
end Go.Proofs.Ytjeijgkkobmdbaa
