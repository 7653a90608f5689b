/-
  The walk of OrderParts.
-/
import Derived.Test.YtjeijgkkobmdbaaAlive4
import Derived.Test.YtjeijgkkobmdbaaBeyond
import Derived.Test.YtjeijgkkobmdbaaSame
import Derived.Test.YtjeijgkkobmdbaaStep
import Derived.Deep.RegionWith
import Derived.Deep.RegionHeld3
namespace Go.Proofs.Ytjeijgkkobmdbaa
open Go.RowKit
set_option linter.unusedVariables false
set_option maxRecDepth 100000

/-- the cells of an entry -/
def EnCells (w : World) (g : Nat) (x : En) : Prop := w.cell? ⟨g, 0, none⟩ = some (.string x.m.k) ∧ w.cell? ⟨g, 1, none⟩ = some (.int .u64 (x.m.s : Int)) ∧ w.cell? ⟨g, 2, none⟩ = some (.bool x.m.g) ∧ w.cell? ⟨g, 3, none⟩ = some (.string x.x)
/-- an entry stands in a block, whatever comes -/
def EnIn (w : World) (g : Nat) (x : En) : Prop := EnAt w g x ∧ g < w.heap.size
theorem EnIn.new (w : World) (x : En) : EnIn (w.alloc (.cells #[.string x.m.k, .int .u64 (x.m.s : Int), .bool x.m.g, .string x.x] 32)) w.heap.size x := ⟨EnAt.new w x, by simp⟩
theorem EnIn.on {w w' : World} {g : Nat} {x : En} (h : EnIn w g x) (hb : Below w.heap.size w w') : EnIn w' g x := ⟨h.1.below hb h.2, Nat.lt_of_lt_of_le h.2 hb.size⟩
theorem EnIn.drew {w : World} {g : Nat} {x : En} (h : EnIn w g x) : EnIn w.drew g x := h

theorem putText_on (A : Option Addr) (n c : Nat) (s : ByteArray) (l : List UInt8) (w : World) (h : Lies w w.heap.size 1 A n (l.map bv)) (hs : n + s.size ≤ 549755813888) :
    Calls Try.prog 26 #[.slice A n c, .string s] w fun e w' => PutAns w (l ++ (Vi.enc s.size ++ s.data.toList)) e w' :=
  (putText_any A n c s l w h hs).mono fun e w' ⟨v, he, ho, hb⟩ => ⟨v, he, by
    have hl := h.blen
    rw [show (l ++ (Vi.enc s.size ++ s.data.toList)).length = n + ((Vi.enc s.size).length + s.size) from by simp [hl]]
    exact ho, hb⟩
theorem put_on (A : Option Addr) (n c k : Nat) (l : List UInt8) (w : World) (h : Lies w w.heap.size 1 A n (l.map bv)) (hk : k < 18446744073709551616) (hs : n ≤ 549755813888) :
    Calls Try.prog 25 #[.slice A n c, .int .u64 (k : Int)] w fun e w' => PutAns w (l ++ Vi.enc k) e w' :=
  (put_any A n c k l w h hk hs).mono fun e w' ⟨v, he, ho, hb⟩ => ⟨v, he, by
    have hl := h.blen
    rw [show (l ++ Vi.enc k).length = n + (Vi.enc k).length from by simp [hl]]
    exact ho, hb⟩
/-- a slice that was answered, with what it owns -/
def Own (w : World) (l : List UInt8) (A : Option Addr) (n c : Nat) (w' : World) : Prop := n = l.length ∧ w'.ownsRow w.heap.size 5 1 (.slice A n c) n (l.map bv) ∧ Below w.heap.size w w'
theorem PutAns.own {w : World} {l : List UInt8} {e : Ending} {w' : World} (h : PutAns w l e w') : ∃ A n c, e = .returned (.slice A n c) ∧ Own w l A n c w' := by
  obtain ⟨v, rfl, ho, hb⟩ := h
  obtain ⟨A, c, rfl, _⟩ := own_shape ho
  exact ⟨A, _, c, rfl, rfl, ho, hb⟩

set_option maxHeartbeats 2000000 in
theorem orderParts_big (x : En) (w : World) (y : x.m.k.size ≤ 140737488351232) (z : x.x.size ≤ 140737488351232) (hbig : 1048576 < x.m.k.size + x.x.size) :
    Calls Try.prog 8 #[x.v] w fun e w' => e = .returned (.bool true) ∧ Below w.heap.size w w' := by
  have HE := Lib.hid (EnIn.new w x)
  have HB : Hid (Kept w (w.alloc (.cells #[.string x.m.k, .int .u64 (x.m.s : Int), .bool x.m.g, .string x.x] 32))) := (Kept.self w).new _
  have HD := Lib.hid (decide_eq_true hbig)
  clear hbig
  unfold En.v
  go_enter Try.func8, Try.ntmps8
  go_wp2_with fail
  generalize (w.alloc (.cells #[.string x.m.k, .int .u64 (x.m.s : Int), .bool x.m.g, .string x.x] 32)) = W at *
  refine (alive4_any W).mono ?_
  rintro e w1 ⟨rfl, hb1⟩
  have HE1 := Lib.hid (HE.out.on hb1); have HB1 := Lib.hid (HB.out.on hb1)
  have q1 := HE1.out.1.cell
  clear hb1 HE HB
  go_wp2_with fail
  refine (beyond_z _ (x.m.k.size + x.x.size) w1 _ rfl (by omega) (by omega) true HD.out).mono ?_
  rintro e w2 ⟨rfl, hb2⟩
  have HB2 := Lib.hid (HB1.out.on hb2)
  clear hb2 q1 HE1 HB1
  go_wp2_with fail
  refine (alive4_any w2).mono ?_
  rintro e w3 ⟨rfl, hb3⟩
  have HB3 := Lib.hid (HB2.out.on hb3)
  clear hb3 HB2
  go_wp2
  go_ret
  exact ⟨rfl, HB3.out⟩

set_option maxHeartbeats 4000000 in
theorem orderParts_small (x : En) (w : World) (hs : x.m.s < 18446744073709551616) (hsm : ¬ 1048576 < x.m.k.size + x.x.size) :
    Calls Try.prog 8 #[x.v] w fun e w' => e = .returned (.bool true) ∧ Below w.heap.size w w' := by
  obtain ⟨i0, hi, hz0, hz1, hz2⟩ := info_parts byte_info
  have HE := Lib.hid (EnIn.new w x)
  have HB : Hid (Kept w (w.alloc (.cells #[.string x.m.k, .int .u64 (x.m.s : Int), .bool x.m.g, .string x.x] 32))) := (Kept.self w).new _
  have HD := Lib.hid (decide_eq_false hsm)
  have hlk := Vi.enc_len x.m.k.size
  have hls := Vi.enc_len x.m.s
  have HK : Hid ((Vi.enc x.m.k.size ++ x.m.k.data.toList).length ≤ 1048586) := by unfold Hid; rw [List.length_append, txt_len]; omega
  have P1 : Hid (∀ W, Calls Try.prog 26 #[.slice none 0 0, .string x.m.k] W fun e w' => ∃ A n c, e = .returned (.slice A n c) ∧ Ans W (Vi.enc x.m.k.size ++ x.m.k.data.toList) A n c w') := fun W => putText_ans x.m.k W (by omega)
  have HPut : Hid (∀ W, Calls Try.prog 23 #[.slice none 0 0, x.v] W fun e w' => PutAns W (encE x) e w') := fun W => oput_any none 0 0 [] x W (Lies.none_ _ _ _ _) hs (by omega)
  have HBB : Hid ((encE x).length ≤ 1048640) := by have := (encE_len x).2; unfold Hid; omega
  obtain ⟨⟨k, s, g⟩, y⟩ := x
  dsimp only at hsm hlk hls P1 HK hs
  have hys : y.size ≤ 1048576 := by omega
  have hks : k.size ≤ 1048576 := by omega
  unfold En.v at *
  dsimp only at HPut
  have HDec : Hid ((1 : UInt8).toNat = 1) := rfl
  cases g
  · have HT : Hid (encE ⟨⟨k, s, false⟩, y⟩ = ((Vi.enc k.size ++ k.data.toList) ++ Vi.enc s ++ [0]) ++ (Vi.enc y.size ++ y.data.toList)) := by unfold Hid encE tailE; simp
    rw [HT.out] at HPut HBB
    go_enter Try.func8, Try.ntmps8
    go_wp2_with fail
    generalize (w.alloc (.cells #[.string k, .int .u64 (s : Int), .bool false, .string y] 32)) = W at *
    refine (alive4_any W).mono ?_
    rintro e w1 ⟨rfl, hb1⟩
    have HE1 := Lib.hid (HE.out.on hb1); have HB1 := Lib.hid (HB.out.on hb1)
    have q1 := HE1.out.1.cell
    clear hb1 HE HB
    go_wp2_with fail
    refine (beyond_z _ (k.size + y.size) w1 _ rfl (by omega) (by omega) false HD.out).mono ?_
    rintro e w2 ⟨rfl, hb2⟩
    have HE2 := Lib.hid (HE1.out.on hb2); have HB2 := Lib.hid (HB1.out.on hb2)
    clear hb2 q1 HE1 HB1
    go_wp2_with fail
    have HKS : Hid (∀ W', Kept w2.drew W' → W'.cell? ⟨w.heap.size, 0, none⟩ = some (.string k) ∧ W'.cell? ⟨w.heap.size, 1, none⟩ = some (.int .u64 (s : Int))) := fun W' h => have q := (EnIn.on (w := w2.drew) HE2.out h).1.cell; ⟨q.1, q.2.1⟩
    have hk : Kept w2.drew w2.drew := Kept.self _
    go_region_held3 (fun w' => w'.cell? ⟨w.heap.size, 0, none⟩ = some (.string k) ∧ w'.cell? ⟨w.heap.size, 1, none⟩ = some (.int .u64 (s : Int)))
      (first | exact HKS.out _ hk | fail)
      (first
      | (go_at_call 26; refine (P1.out _).mono ?_; rintro e w3 ⟨A3, n3, c3, rfl, hf3⟩; have hk2 := hk.on hf3.2.2; clear hk; have hk := hk2; clear hk2)
      | (go_at_call 25; refine ((put_on A3 n3 c3 s _ _ hf3.2.1 hs (by have := HK.out; have := hf3.1; omega)).mono fun _ _ q => q.own).mono ?_; rintro e w5 ⟨A5, n5, c5, rfl, hf5⟩; have hk2 := hk.on hf5.2.2; clear hk; have hk := hk2; clear hk2)
      | fail)
    have HE5 : Hid (EnIn w5 w.heap.size ⟨⟨k, s, false⟩, y⟩) := EnIn.on (w := w2.drew) HE2.out hk
    have HB5 : Hid (Kept w w5) := (HB2.out.drew).on hk
    have HO5 : Hid (w5.ownsRow (w.heap.size + 1) 5 1 (.slice A5 n5 c5) n5 (((Vi.enc k.size ++ k.data.toList) ++ Vi.enc s).map bv)) := own_base hf5.2.1 (Nat.le_trans HE2.out.2 hf3.2.2.size)
    have hz5 : w.heap.size + 1 ≤ w5.heap.size := HE5.out.2
    have hn5 : n5 ≤ 1048600 := by have h1 := hf5.1; have h2 := HK.out; rw [List.length_append] at h1; omega
    have q5 := HE5.out.1.cell
    clear hk HKS hf3 hf5 HE2 HB2 P1
    go_wp2_with fail
    have HKS2 : Hid (∀ W', Below (w.heap.size + 1) w5 W' → W'.cell? ⟨w.heap.size, 3, none⟩ = some (.string y)) := fun W' h => (HE5.out.1.below h (by omega)).cell.2.2.2
    have hl0 : Below (w.heap.size + 1) w5 w5.drew := (Below.refl _ w5).drew
    have hl1 : ∀ o, Below (w.heap.size + 1) w5 (w5.drew.alloc o) := fun o => hl0.alloc hz5 o
    have O5d : w5.drew.ownsRow (w.heap.size + 1) 5 1 (.slice A5 n5 c5) n5 (((Vi.enc k.size ++ k.data.toList) ++ Vi.enc s).map bv) := HO5.out
    have HO5d := Lib.hid O5d
    clear q5 O5d
    go_region_held3 (fun w' => w'.cell? ⟨w.heap.size, 3, none⟩ = some (.string y))
      (first | exact HKS2.out _ hl0 | exact HKS2.out _ (hl1 _) | exact HKS2.out _ hl6 | exact HKS2.out _ hl7 | fail)
      (first
      | (refine step_app _ (by rfl) (.tmp 33) (.tmp 34) 28 (by rfl) (w.heap.size + 1) 5 i0 _ 1 1 Try.underlying28 hi hz0 hz1 hz2 rfl (by decide) (.slice A5 n5 c5) n5 (((Vi.enc k.size ++ k.data.toList) ++ Vi.enc s).map bv) (by rfl) (HO5d.out.alloc _) (w5.heap.size + 1) (some ⟨w5.heap.size, 0, none⟩) 1 1 [.int .u8 0] (by rfl) ((one_lies (w := w5) (g := w5.heap.size) rfl (.int .u8 0) 5).drew) (by intro u hu; simp at hu; subst hu; rfl) (by unfold maxLen; omega) (by omega) (Nat.le_trans hz5 (by simp)) ?_; intro v6 w6 hown6 hg6 _; have hl6 : Below (w.heap.size + 1) w5 w6 := (hl1 _).grown hg6 (Nat.le_trans hz5 (by simp)) (fun j hj => (HO5.out.lt j hj).1); obtain ⟨A6, c6, rfl, hnc6, hcm6, _⟩ := own_shape hown6)
      | (go_at_call 26; refine ((putText_on A6 (n5 + 1) c6 y (((Vi.enc k.size ++ k.data.toList) ++ Vi.enc s) ++ [0]) _ (by rw [List.map_append]; exact Lies.of_own hown6) (by omega)).mono fun _ _ q => q.own).mono ?_; rintro e w9 ⟨A9, n9, c9, rfl, hf9⟩; have hl7 : Below (w.heap.size + 1) w5 w9 := hl6.trans (hf9.2.2.mono (Nat.le_trans hz5 hl6.size)))
      | fail)
    have HO6 : Hid (w9.ownsRow (w.heap.size + 1) 5 1 (.slice A9 n9 c9) n9 (((Vi.enc k.size ++ k.data.toList) ++ Vi.enc s ++ [0] ++ (Vi.enc y.size ++ y.data.toList)).map bv)) := own_base hf9.2.1 (Nat.le_trans hz5 hl6.size)
    have HL6 := hl7
    have HB6 : Hid (Kept w w9) := Below.trans HB5.out (Below.mono HL6 (by omega))
    have q6 := (HE5.out.1.below HL6 (by omega)).cell
    clear hl0 hl1 hl6 hl7 hown6 hf9 HKS2 HO5d
    generalize w9 = w6 at *
    generalize A9 = A6' at *
    clear HO5 hg6 HL6 HE5 HB5
    go_wp2_with fail
    refine ((HPut.out w6).mono fun _ _ q => q.own).mono ?_
    rintro e w7 ⟨A7, n7, c7, rfl, hf7⟩
    have HB7 := Lib.hid (HB6.out.on hf7.2.2)
    have L6 := ((Lies.of_own HO6.out).below hf7.2.2).more hf7.2.2.size
    have SS := same_any A7 A6' n7 n9 c7 c9 w7.heap.size _ _ w7 (Lies.of_own hf7.2.1) L6 (by have := hf7.1; have := HBB.out; omega)
    rw [sameB_self] at SS
    have HSS := Lib.hid SS
    clear L6 SS hf7 HO6
    go_wp2_with fail
    refine HSS.out.mono ?_
    rintro e w8 ⟨rfl, q, rfl⟩
    go_wp2
    go_ret
    exact ⟨rfl, below_drewN HB7.out q⟩
  · have HT : Hid (encE ⟨⟨k, s, true⟩, y⟩ = (Vi.enc k.size ++ k.data.toList) ++ Vi.enc s ++ [1]) := by unfold Hid encE tailE; simp
    rw [HT.out] at HPut HBB
    go_enter Try.func8, Try.ntmps8
    go_wp2_with fail
    generalize (w.alloc (.cells #[.string k, .int .u64 (s : Int), .bool true, .string y] 32)) = W at *
    refine (alive4_any W).mono ?_
    rintro e w1 ⟨rfl, hb1⟩
    have HE1 := Lib.hid (HE.out.on hb1); have HB1 := Lib.hid (HB.out.on hb1)
    have q1 := HE1.out.1.cell
    clear hb1 HE HB
    go_wp2_with fail
    refine (beyond_z _ (k.size + y.size) w1 _ rfl (by omega) (by omega) false HD.out).mono ?_
    rintro e w2 ⟨rfl, hb2⟩
    have HE2 := Lib.hid (HE1.out.on hb2); have HB2 := Lib.hid (HB1.out.on hb2)
    clear hb2 q1 HE1 HB1
    go_wp2_with fail
    have HKS : Hid (∀ W', Kept w2.drew W' → W'.cell? ⟨w.heap.size, 0, none⟩ = some (.string k) ∧ W'.cell? ⟨w.heap.size, 1, none⟩ = some (.int .u64 (s : Int))) := fun W' h => have q := (EnIn.on (w := w2.drew) HE2.out h).1.cell; ⟨q.1, q.2.1⟩
    have hk : Kept w2.drew w2.drew := Kept.self _
    go_region_held3 (fun w' => w'.cell? ⟨w.heap.size, 0, none⟩ = some (.string k) ∧ w'.cell? ⟨w.heap.size, 1, none⟩ = some (.int .u64 (s : Int)))
      (first | exact HKS.out _ hk | fail)
      (first
      | (go_at_call 26; refine (P1.out _).mono ?_; rintro e w3 ⟨A3, n3, c3, rfl, hf3⟩; have hk2 := hk.on hf3.2.2; clear hk; have hk := hk2; clear hk2)
      | (go_at_call 25; refine ((put_on A3 n3 c3 s _ _ hf3.2.1 hs (by have := HK.out; have := hf3.1; omega)).mono fun _ _ q => q.own).mono ?_; rintro e w5 ⟨A5, n5, c5, rfl, hf5⟩; have hk2 := hk.on hf5.2.2; clear hk; have hk := hk2; clear hk2)
      | fail)
    have HE5 : Hid (EnIn w5 w.heap.size ⟨⟨k, s, true⟩, y⟩) := EnIn.on (w := w2.drew) HE2.out hk
    have HB5 : Hid (Kept w w5) := (HB2.out.drew).on hk
    have HO5 : Hid (w5.ownsRow (w.heap.size + 1) 5 1 (.slice A5 n5 c5) n5 (((Vi.enc k.size ++ k.data.toList) ++ Vi.enc s).map bv)) := own_base hf5.2.1 (Nat.le_trans HE2.out.2 hf3.2.2.size)
    have hz5 : w.heap.size + 1 ≤ w5.heap.size := HE5.out.2
    have hn5 : n5 ≤ 1048600 := by have h1 := hf5.1; have h2 := HK.out; rw [List.length_append] at h1; omega
    have q5 := HE5.out.1.cell
    clear hk HKS hf3 hf5 HE2 HB2 P1
    go_wp2_with (at_builtin; refine wpList_app _ rfl _ _ 28 rfl (w.heap.size + 1) 5 i0 _ 1 1 Try.underlying28 hi hz0 hz1 hz2 rfl (by decide) (.slice A5 n5 c5) n5 (((Vi.enc k.size ++ k.data.toList) ++ Vi.enc s).map bv) rfl ((HO5.out).alloc _) (w5.heap.size + 1) (some ⟨w5.heap.size, 0, none⟩) 1 1 [.int .u8 1] rfl (one_lies rfl _ _) (by intro u hu; simp at hu; subst hu; rfl) (by unfold maxLen; omega) (by omega) (by simp; omega) ?_)
    intro v6 w6 hown6 hg6 _
    obtain ⟨A6, c6, rfl, hnc6, hcm6, _⟩ := own_shape hown6
    have HO6 : Hid (w6.ownsRow (w.heap.size + 1) 5 1 (.slice A6 (n5 + 1) c6) (n5 + 1) (((Vi.enc k.size ++ k.data.toList) ++ Vi.enc s ++ [1]).map bv)) := by unfold Hid; simp only [List.map_append, List.append_assoc] at hown6 ⊢; exact hown6
    have HL6 : Below (w.heap.size + 1) w5 w6 := ((Below.refl _ w5).alloc hz5 _).grown hg6 (by simp; omega) (fun j hj => (HO5.out.lt j hj).1)
    have HB6 : Hid (Kept w w6) := Below.trans HB5.out (Below.mono HL6 (by omega))
    have q6 := (HE5.out.1.below HL6 (by omega)).cell
    clear hown6
    clear HO5 hg6 HL6 HE5 HB5 q5
    go_wp2_with fail
    refine ((HPut.out w6).mono fun _ _ q => q.own).mono ?_
    rintro e w7 ⟨A7, n7, c7, rfl, hf7⟩
    have HB7 := Lib.hid (HB6.out.on hf7.2.2)
    have L6 := ((Lies.of_own HO6.out).below hf7.2.2).more hf7.2.2.size
    have SS := same_any A7 A6 n7 (n5 + 1) c7 c6 w7.heap.size _ _ w7 (Lies.of_own hf7.2.1) L6 (by have := hf7.1; have := HBB.out; omega)
    rw [sameB_self] at SS
    have HSS := Lib.hid SS
    clear L6 SS hf7 HO6
    go_wp2_with fail
    refine HSS.out.mono ?_
    rintro e w8 ⟨rfl, q, rfl⟩
    go_wp2
    go_ret
    exact ⟨rfl, below_drewN HB7.out q⟩

theorem orderParts_walk (x : En) (w : World) (hs : x.m.s < 18446744073709551616) (y : x.m.k.size ≤ 140737488351232) (z : x.x.size ≤ 140737488351232) :
    Calls Try.prog 8 #[x.v] w fun e w' => e = .returned (.bool true) ∧ Below w.heap.size w w' := by
  by_cases h : 1048576 < x.m.k.size + x.x.size
  · exact orderParts_big x w y z h
  · exact orderParts_small x w hs h
end Go.Proofs.Ytjeijgkkobmdbaa
