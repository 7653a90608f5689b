/-
  Contract of layer 4's 'alive': some answers that the document fixes.
-/
import Derived.Test.YtjeijgkkobmdbaaEnt
import Derived.Test.YtjeijgkkobmdbaaOrdB
import Derived.Test.YtjeijgkkobmdbaaKept
import Derived.Test.YtjeijgkkobmdbaaStr
import Derived.Lib.SlBytesConst
import Derived.Outline
namespace Go.Proofs.Ytjeijgkkobmdbaa
open Go.RowKit
set_option linter.unusedVariables false

theorem MkAt.below {w w' : World} {g B : Nat} {m : Mk} (h : MkAt w g m) (hb : Below B w w') (hg : g < B) : MkAt w' g m := (hb.block g hg).trans h

/-- a mark that was answered -/
def GotM (w : World) (m : Mk) (e : Ending) (w' : World) : Prop := e = .returned m.v ∧ Below w.heap.size w w'
set_option maxHeartbeats 1000000 in
theorem mark_any (s : ByteArray) (n : Nat) (w : World) :
    Calls Try.prog 40 #[.string s, .int .u64 (n : Int)] w fun e w' => GotM w ⟨s, n, false⟩ e w' := by
  go_enter Try.func40, Try.ntmps40
  go_wp2
  have HF : MkAt (w.alloc (.cells #[.string s, .int .u64 (n : Int), .bool false] 24)) w.heap.size ⟨s, n, false⟩ := heap_alloc_new w _
  have HBF : Below w.heap.size w (w.alloc (.cells #[.string s, .int .u64 (n : Int), .bool false] 24)) := (Below.refl _ _).alloc (Nat.le_refl _) _
  generalize w.alloc (.cells #[.string s, .int .u64 (n : Int), .bool false] 24) = W at *
  obtain ⟨z0, z1, z2⟩ := HF.cell
  exact bodyPost_ret (v := Mk.v ⟨s, n, false⟩) (by simp [results, Try.results40, go_sem, z0, z1, z2, Mk.v]) rfl ⟨rfl, HBF⟩
theorem oget_lit (l : List UInt8) (w : World) (fz : Nat × Nat) (r : En × Nat × Nat) (m g : Nat) (hg : w.heap.size = g) (hm : l.length = m) (hr : gotE l = r) (hl : m ≤ 1000) :
    Calls Try.prog 18 #[.slice (some ⟨g, 0, none⟩) m m] (w.alloc (.cells (l.map bv).toArray 5 fz)) fun e w' => GotE w r e w' := by
  subst hm hr hg
  exact (oget_any _ l.length l.length l _ (lit_lies_fz w l fz) (Nat.le_refl _) (by unfold maxLen; omega)).mono fun e w' ⟨he, hb⟩ => ⟨he, lit_below _ _ hb⟩

theorem chk_is (s : ByteArray) (w : World) (b : Bool) (hs : s.size ≤ 1000) (hb : chk s = b) : Calls Try.prog 12 #[.string s] w fun e w' => e = .returned (.bool b) ∧ w = w' := by
  subst hb; exact chk_any s w (by omega)
theorem al_a : gotE [1, 97, 5, 0, 1, 118, 9] = (⟨⟨⟨#[97]⟩, 5, false⟩, ⟨#[118]⟩⟩, 6, 0) := rfl
theorem al_b : gotE [1, 97, 5] = (En.zero, 0, 5) := rfl
theorem al_c : gotE [0, 5, 1] = (En.zero, 0, 4) := rfl
theorem al_d : gotE [1, 97, 5, 2] = (En.zero, 0, 4) := rfl
theorem al_e : encE ⟨⟨⟨#[97]⟩, 5, false⟩, ⟨#[118]⟩⟩ = [1, 97, 5, 0, 1, 118] := rfl
theorem al_f : encE ⟨⟨⟨#[97]⟩, 300, true⟩, ByteArray.empty⟩ = [1, 97, 172, 2, 1] := rfl
theorem al_1 : cmpM ⟨⟨#[97]⟩, 5, false⟩ ⟨⟨#[98]⟩, 9, false⟩ = -1 := by rw [cmpM_eq]; unfold cmpS; simp only [lessB_eq]; rfl
theorem al_2 : cmpM ⟨⟨#[97]⟩, 5, false⟩ ⟨⟨#[97]⟩, 4, false⟩ = -1 := by rw [cmpM_eq]; unfold cmpS; simp only [lessB_eq]; rfl
theorem al_3 : cmpM ⟨⟨#[97]⟩, 5, false⟩ ⟨⟨#[97]⟩, 5, true⟩ = 1 := by rw [cmpM_eq]; unfold cmpS; simp only [lessB_eq]; rfl
theorem al_4 : cmpM ⟨⟨#[97]⟩, 5, false⟩ ⟨⟨#[97, 97]⟩, 9, false⟩ = -1 := by rw [cmpM_eq]; unfold cmpS; simp only [lessB_eq]; rfl
theorem al_5 : cmpM ⟨⟨#[97]⟩, 5, false⟩ ⟨⟨#[97]⟩, 5, false⟩ = 0 := tri_M.self _

/-- a string of an answered slice, under one name -/
def Strs (w0 : World) (r : ByteArray) (e : Ending) (w' : World) : Prop :=
  ∃ A n c, e = .returned (.slice A n c) ∧ (convert 28 9 (.slice A n c)).run Try.prog w' = .ok (.string r) w' ∧ Kept w0 w'
theorem strs_of {w0 w w' : World} {l : List UInt8} {e : Ending} (hk : Kept w0 w) (h : PutAns w l e w') : Strs w0 ⟨l.toArray⟩ e w' := by
  obtain ⟨v, rfl, ho, hb⟩ := h
  obtain ⟨A, c, rfl, _⟩ := own_shape ho
  exact ⟨A, _, c, rfl, run_str w' _ _ 5 Try.underlying28 Try.underlying5 Try.underlying9 c (Lies.of_own ho), hk.on hb⟩
section
variable {w0 w : World} (hk : Kept w0 w)
include hk
theorem mark_k (s : ByteArray) (z : Int) (n : Nat) (hz : (n : Int) = z) : Calls Try.prog 40 #[.string s, .int .u64 z] w fun e w' => e = .returned (.agg #[.string s, .int .u64 z, .bool false]) ∧ Kept w0 w' := by
  subst hz; exact (mark_any s n w).mono fun e w' ⟨he, hb⟩ => ⟨he, hk.on hb⟩
theorem cmp_k (a b : Mk) (va vb : Value) (r : Int) (ha : va = a.v) (hb : vb = b.v) (h : cmpM a b = r) : Calls Try.prog 14 #[va, vb] w fun e w' => e = .returned (.int .i64 r) ∧ Kept w0 w' := by
  subst ha hb h; exact (cmp_any a b w).mono fun e w' ⟨he, hb⟩ => ⟨he, hk.on hb⟩
theorem cmp_k1 : Calls Try.prog 14 #[.agg #[.string ⟨#[97]⟩, .int .u64 5, .bool false], .agg #[.string ⟨#[98]⟩, .int .u64 9, .bool false]] w fun e w' => e = .returned (.int .i64 (-1)) ∧ Kept w0 w' := cmp_k hk ⟨⟨#[97]⟩, 5, false⟩ ⟨⟨#[98]⟩, 9, false⟩ _ _ _ rfl rfl al_1
theorem cmp_k2 : Calls Try.prog 14 #[.agg #[.string ⟨#[97]⟩, .int .u64 5, .bool false], .agg #[.string ⟨#[97]⟩, .int .u64 4, .bool false]] w fun e w' => e = .returned (.int .i64 (-1)) ∧ Kept w0 w' := cmp_k hk ⟨⟨#[97]⟩, 5, false⟩ ⟨⟨#[97]⟩, 4, false⟩ _ _ _ rfl rfl al_2
theorem cmp_k3 : Calls Try.prog 14 #[.agg #[.string ⟨#[97]⟩, .int .u64 5, .bool false], .agg #[.string ⟨#[97]⟩, .int .u64 5, .bool true]] w fun e w' => e = .returned (.int .i64 1) ∧ Kept w0 w' := cmp_k hk ⟨⟨#[97]⟩, 5, false⟩ ⟨⟨#[97]⟩, 5, true⟩ _ _ _ rfl rfl al_3
theorem cmp_k4 : Calls Try.prog 14 #[.agg #[.string ⟨#[97]⟩, .int .u64 5, .bool false], .agg #[.string ⟨#[97, 97]⟩, .int .u64 9, .bool false]] w fun e w' => e = .returned (.int .i64 (-1)) ∧ Kept w0 w' := cmp_k hk ⟨⟨#[97]⟩, 5, false⟩ ⟨⟨#[97, 97]⟩, 9, false⟩ _ _ _ rfl rfl al_4
theorem cmp_k5 : Calls Try.prog 14 #[.agg #[.string ⟨#[97]⟩, .int .u64 5, .bool false], .agg #[.string ⟨#[97]⟩, .int .u64 5, .bool false]] w fun e w' => e = .returned (.int .i64 0) ∧ Kept w0 w' := cmp_k hk ⟨⟨#[97]⟩, 5, false⟩ ⟨⟨#[97]⟩, 5, false⟩ _ _ _ rfl rfl al_5
theorem mark_k5 (s : ByteArray) : Calls Try.prog 40 #[.string s, .int .u64 5] w fun e w' => e = .returned (.agg #[.string s, .int .u64 5, .bool false]) ∧ Kept w0 w' := mark_k hk s 5 5 rfl
theorem mark_k9 (s : ByteArray) : Calls Try.prog 40 #[.string s, .int .u64 9] w fun e w' => e = .returned (.agg #[.string s, .int .u64 9, .bool false]) ∧ Kept w0 w' := mark_k hk s 9 9 rfl
theorem mark_k4 (s : ByteArray) : Calls Try.prog 40 #[.string s, .int .u64 4] w fun e w' => e = .returned (.agg #[.string s, .int .u64 4, .bool false]) ∧ Kept w0 w' := mark_k hk s 4 4 rfl
theorem put_k1 : Calls Try.prog 23 #[.slice none 0 0, .agg #[.string ⟨#[97]⟩, .int .u64 5, .bool false, .string ⟨#[118]⟩]] w fun e w' => Strs w0 ⟨#[1, 97, 5, 0, 1, 118]⟩ e w' :=
  (oput_any none 0 0 [] ⟨⟨⟨#[97]⟩, 5, false⟩, ⟨#[118]⟩⟩ w (Lies.none_ _ _ _ _) (by decide) (by decide)).mono fun e w' h => strs_of hk h
theorem put_k2 {g : Nat} (hg : w.heap.size = g) : Calls Try.prog 23 #[.slice (some ⟨g, 0, none⟩) 1 1, .agg #[.string ⟨#[97]⟩, .int .u64 300, .bool true, .string ⟨#[]⟩]] (w.alloc (.cells #[.int .u8 7] 5)) fun e w' => Strs w0 ⟨#[7, 1, 97, 172, 2, 1]⟩ e w' := by
  subst hg
  exact (oput_any (some ⟨w.heap.size, 0, none⟩) 1 1 [7] ⟨⟨⟨#[97]⟩, 300, true⟩, ⟨#[]⟩⟩ _ (lit_lies w [7]) (by decide) (by decide)).mono fun e w' h => strs_of (hk.new _) h
end

set_option maxRecDepth 100000 in
set_option maxHeartbeats 8000000 in
theorem alive4_any (w : World) : Calls Try.prog 21 #[] w fun e w' => e = .returned (.bool true) ∧ Below w.heap.size w w' := by
  have kc := fun (w : World) (C : Array Value) (n c g : Nat) (hg : w.heap.size = g) => (by
    have := Lib.run_convert_bytes_const (P := Try.prog) w 28 5 C n c Try.underlying28 Try.underlying5
    rw [hg] at this
    exact this)
  have hA := Lib.hid al_a; have hB := Lib.hid al_b; have hC := Lib.hid al_c; have hD := Lib.hid al_d
  go_enter Try.func21, Try.ntmps21
  go_wp2_with fail
  refine (mark_any _ _ w).mono ?_
  rintro e w1 ⟨rfl, hb1⟩
  have HB1 := Lib.hid hb1; clear hb1
  unfold Mk.v
  have EX : EnAt ((w1.alloc (.cells #[.string ⟨#[97]⟩, .int .u64 5, .bool false, .string ⟨#[118]⟩] 32)).alloc (.cells #[.string ⟨#[97]⟩, .int .u64 300, .bool true, .string ⟨#[]⟩] 32)) w1.heap.size ⟨⟨⟨#[97]⟩, 5, false⟩, ⟨#[118]⟩⟩ :=
    (Below.heap_alloc _ _ _ (by simp)).trans (EnAt.new w1 ⟨⟨⟨#[97]⟩, 5, false⟩, ⟨#[118]⟩⟩)
  have EY : EnAt ((w1.alloc (.cells #[.string ⟨#[97]⟩, .int .u64 5, .bool false, .string ⟨#[118]⟩] 32)).alloc (.cells #[.string ⟨#[97]⟩, .int .u64 300, .bool true, .string ⟨#[]⟩] 32)) (w1.heap.size + 1) ⟨⟨⟨#[97]⟩, 300, true⟩, ⟨#[]⟩⟩ := by
    have := EnAt.new (w1.alloc (.cells #[.string ⟨#[97]⟩, .int .u64 5, .bool false, .string ⟨#[118]⟩] 32)) ⟨⟨⟨#[97]⟩, 300, true⟩, ⟨#[]⟩⟩
    rw [show (w1.alloc (.cells #[.string ⟨#[97]⟩, .int .u64 5, .bool false, .string ⟨#[118]⟩] 32)).heap.size = w1.heap.size + 1 from by simp] at this
    exact this
  have B2 : Below w.heap.size w ((w1.alloc (.cells #[.string ⟨#[97]⟩, .int .u64 5, .bool false, .string ⟨#[118]⟩] 32)).alloc (.cells #[.string ⟨#[97]⟩, .int .u64 300, .bool true, .string ⟨#[]⟩] 32)) :=
    (HB1.out.alloc HB1.out.size _).alloc (by have := HB1.out.size; simp; omega) _
  have S2 : ((w1.alloc (.cells #[.string ⟨#[97]⟩, .int .u64 5, .bool false, .string ⟨#[118]⟩] 32)).alloc (.cells #[.string ⟨#[97]⟩, .int .u64 300, .bool true, .string ⟨#[]⟩] 32)).heap.size = w1.heap.size + 1 + 1 := by simp
  have HEX := Lib.hid EX; have HEY := Lib.hid EY; have HB2 := Lib.hid B2; have HS2 := Lib.hid S2
  clear EX EY B2 S2 HB1
  go_wp2_with fail
  generalize ((w1.alloc (.cells #[.string ⟨#[97]⟩, .int .u64 5, .bool false, .string ⟨#[118]⟩] 32)).alloc (.cells #[.string ⟨#[97]⟩, .int .u64 300, .bool true, .string ⟨#[]⟩] 32)) = W2 at *
  generalize w1.heap.size = g1 at *
  refine (oget_lit [1, 97, 5, 0, 1, 118, 9] W2 _ _ 7 _ HS2.out rfl hA.out (by decide)).mono ?_
  rintro e w3 ⟨rfl, hb3⟩
  have h12 : g1 + 1 < W2.heap.size := by rw [HS2.out]; omega
  have Z3 := EnAt.new w3 ⟨⟨⟨#[97]⟩, 5, false⟩, ⟨#[118]⟩⟩
  have A3 : Below w3.heap.size w3 (w3.alloc (.cells #[.string ⟨#[97]⟩, .int .u64 5, .bool false, .string ⟨#[118]⟩] 32)) := (Below.refl _ _).alloc (Nat.le_refl _) _
  have h13 : g1 + 1 < w3.heap.size := Nat.lt_of_lt_of_le h12 hb3.size
  have HEX3 := Lib.hid ((HEX.out.below hb3 (by omega)).below A3 (by omega)); have HEY3 := Lib.hid ((HEY.out.below hb3 h12).below A3 h13); have HB3 := Lib.hid ((HB2.out.trans (hb3.mono HB2.out.size)).trans (A3.mono (Nat.le_trans HB2.out.size hb3.size)))
  have HEZ3 := Lib.hid Z3
  have HS3 : Hid ((w3.alloc (.cells #[.string ⟨#[97]⟩, .int .u64 5, .bool false, .string ⟨#[118]⟩] 32)).heap.size = w3.heap.size + 1) := by unfold Hid; simp
  clear hb3 HEX HEY HB2 HS2 hA h12 Z3 A3
  unfold En.v
  go_wp2_with fail
  generalize (w3.alloc (.cells #[.string ⟨#[97]⟩, .int .u64 5, .bool false, .string ⟨#[118]⟩] 32)) = W3 at *
  generalize w3.heap.size = g3 at *
  refine (oget_lit [1, 97, 5] W3 _ _ 3 _ HS3.out rfl hB.out (by decide)).mono ?_
  rintro e w4 ⟨rfl, hb4⟩
  have h33 : g3 < W3.heap.size := by rw [HS3.out]; omega
  have A4 : Below w4.heap.size w4 (w4.alloc (.cells #[.string ByteArray.empty, .int .u64 0, .bool false, .string ByteArray.empty] 32)) := (Below.refl _ _).alloc (Nat.le_refl _) _
  have T4 := hb4.trans (A4.mono hb4.size)
  have HEX4 := Lib.hid (HEX3.out.below T4 (by omega)); have HEY4 := Lib.hid (HEY3.out.below T4 (by omega)); have HEZ4 := Lib.hid (HEZ3.out.below T4 h33); have HB4 := Lib.hid (HB3.out.trans (T4.mono HB3.out.size))
  have HS4 : Hid ((w4.alloc (.cells #[.string ByteArray.empty, .int .u64 0, .bool false, .string ByteArray.empty] 32)).heap.size = w4.heap.size + 1) := by unfold Hid; simp
  have h34 : g3 < w4.heap.size := Nat.lt_of_lt_of_le h33 hb4.size
  clear HEX3 HEY3 HEZ3 HB3 HS3 hB hb4 A4 T4 h33
  unfold En.v En.zero
  go_wp2_with fail
  generalize (w4.alloc (.cells #[.string ByteArray.empty, .int .u64 0, .bool false, .string ByteArray.empty] 32)) = W4 at *
  generalize w4.heap.size = g4 at *
  refine (oget_lit [0, 5, 1] W4 _ _ 3 _ HS4.out rfl hC.out (by decide)).mono ?_
  rintro e w5 ⟨rfl, hb5⟩
  have h44 : g4 < W4.heap.size := by rw [HS4.out]; omega
  have A5 : Below w5.heap.size w5 (w5.alloc (.cells #[.string ByteArray.empty, .int .u64 0, .bool false, .string ByteArray.empty] 32)) := (Below.refl _ _).alloc (Nat.le_refl _) _
  have T5 := hb5.trans (A5.mono hb5.size)
  have HEX5 := Lib.hid (HEX4.out.below T5 (by omega)); have HEY5 := Lib.hid (HEY4.out.below T5 (by omega)); have HEZ5 := Lib.hid (HEZ4.out.below T5 (by omega)); have HB5 := Lib.hid (HB4.out.trans (T5.mono HB4.out.size))
  have HS5 : Hid ((w5.alloc (.cells #[.string ByteArray.empty, .int .u64 0, .bool false, .string ByteArray.empty] 32)).heap.size = w5.heap.size + 1) := by unfold Hid; simp
  have h35 : g3 < w5.heap.size := Nat.lt_of_lt_of_le (by omega) hb5.size
  clear HEX4 HEY4 HEZ4 HB4 HS4 hC hb5 A5 T5 h44 h34
  unfold En.v En.zero
  go_wp2_with fail
  generalize (w5.alloc (.cells #[.string ByteArray.empty, .int .u64 0, .bool false, .string ByteArray.empty] 32)) = W5 at *
  generalize w5.heap.size = g5 at *
  refine (oget_lit [1, 97, 5, 2] W5 _ _ 4 _ HS5.out rfl hD.out (by decide)).mono ?_
  rintro e w6 ⟨rfl, hb6⟩
  have h55 : g5 < W5.heap.size := by rw [HS5.out]; omega
  have A6 : Below w6.heap.size w6 (w6.alloc (.cells #[.string ByteArray.empty, .int .u64 0, .bool false, .string ByteArray.empty] 32)) := (Below.refl _ _).alloc (Nat.le_refl _) _
  have A7 : Below w6.heap.size w6 ((w6.alloc (.cells #[.string ByteArray.empty, .int .u64 0, .bool false, .string ByteArray.empty] 32)).alloc (.cells #[.string ⟨#[97]⟩, .int .u64 5, .bool true] 24)) := A6.alloc (by simp) _
  have T6 := hb6.trans (A7.mono hb6.size)
  have HEX6 := Lib.hid (HEX5.out.below T6 (by omega)); have HEY6 := Lib.hid (HEY5.out.below T6 (by omega)); have HEZ6 := Lib.hid (HEZ5.out.below T6 (by omega)); have HB6 := Lib.hid (HB5.out.trans (T6.mono HB5.out.size))
  have HM6 : Hid (MkAt ((w6.alloc (.cells #[.string ByteArray.empty, .int .u64 0, .bool false, .string ByteArray.empty] 32)).alloc (.cells #[.string ⟨#[97]⟩, .int .u64 5, .bool true] 24)) (w6.heap.size + 1) ⟨⟨#[97]⟩, 5, true⟩) := by
    have := heap_alloc_new (w6.alloc (.cells #[.string ByteArray.empty, .int .u64 0, .bool false, .string ByteArray.empty] 32)) (.cells #[.string ⟨#[97]⟩, .int .u64 5, .bool true] 24)
    rw [show (w6.alloc (.cells #[.string ByteArray.empty, .int .u64 0, .bool false, .string ByteArray.empty] 32)).heap.size = w6.heap.size + 1 from by simp] at this
    exact this
  have HS6 : Hid (((w6.alloc (.cells #[.string ByteArray.empty, .int .u64 0, .bool false, .string ByteArray.empty] 32)).alloc (.cells #[.string ⟨#[97]⟩, .int .u64 5, .bool true] 24)).heap.size = w6.heap.size + 1 + 1) := by unfold Hid; simp
  have h36 : g3 < w6.heap.size := Nat.lt_of_lt_of_le (by omega) hb6.size
  clear HEX5 HEY5 HEZ5 HB5 HS5 hD hb6 A6 A7 T6 h55 h35
  unfold En.v En.zero
  go_wp2_with fail
  generalize ((w6.alloc (.cells #[.string ByteArray.empty, .int .u64 0, .bool false, .string ByteArray.empty] 32)).alloc (.cells #[.string ⟨#[97]⟩, .int .u64 5, .bool true] 24)) = W6 at *
  generalize w6.heap.size = g6 at *
  have qx := HEX6.out.cell; have qz := HEZ6.out.cell; have qy := HEY6.out.cell; have qm := HM6.out.cell
  refine (chk_is _ _ true (by decide) (by decide)).mono ?_
  rintro e w7 ⟨rfl, rfl⟩
  go_wp2_with fail
  refine (chk_is _ _ false (by decide) (by decide)).mono ?_
  rintro e w7 ⟨rfl, rfl⟩
  go_wp2_with fail
  refine (chk_is _ _ false (by decide) (by decide)).mono ?_
  rintro e w7 ⟨rfl, rfl⟩
  go_wp2_with fail
  have KS : Hid (∀ W', Kept W6.drew W' → (W'.cell? ⟨g1, 0, none⟩ = some (.string ⟨#[97]⟩) ∧ W'.cell? ⟨g1, 1, none⟩ = some (.int .u64 5) ∧ W'.cell? ⟨g1, 2, none⟩ = some (.bool false) ∧ W'.cell? ⟨g1, 3, none⟩ = some (.string ⟨#[118]⟩)) ∧
      (W'.cell? ⟨g1 + 1, 0, none⟩ = some (.string ⟨#[97]⟩) ∧ W'.cell? ⟨g1 + 1, 1, none⟩ = some (.int .u64 300) ∧ W'.cell? ⟨g1 + 1, 2, none⟩ = some (.bool true) ∧ W'.cell? ⟨g1 + 1, 3, none⟩ = some (.string ⟨#[]⟩)) ∧
      (W'.cell? ⟨g6 + 1, 0, none⟩ = some (.string ⟨#[97]⟩) ∧ W'.cell? ⟨g6 + 1, 1, none⟩ = some (.int .u64 5) ∧ W'.cell? ⟨g6 + 1, 2, none⟩ = some (.bool true))) := fun W' h => by
    have hs : g6 + 1 < W6.drew.heap.size := by
      have := HS6.out
      show g6 + 1 < W6.heap.size
      omega
    have h1 := (EnAt.below (w := W6.drew) HEX6.out h (by omega)).cell
    have h2 := (EnAt.below (w := W6.drew) HEY6.out h (by omega)).cell
    have h3 := (MkAt.below (w := W6.drew) HM6.out h hs).cell
    exact ⟨h1, h2, h3⟩
  have HB7 := Lib.hid (Below.drew HB6.out)
  have hk : Kept W6.drew W6.drew := Kept.self _
  clear qx qy qz qm HEX6 HEY6 HEZ6 HM6 HB6 HS6 h36
  go_region_with (first
    | (go_at_call 40; first | ((with_reducible refine (mark_k5 hk _).mono ?_); clear hk; first | (clear hm; rintro e w' ⟨rfl, hk⟩; have hm := (KS.out _ hk).2.2) | (rintro e w' ⟨rfl, hk⟩)) | ((with_reducible refine (mark_k9 hk _).mono ?_); clear hk; first | (clear hm; rintro e w' ⟨rfl, hk⟩; have hm := (KS.out _ hk).2.2) | (rintro e w' ⟨rfl, hk⟩)) | ((with_reducible refine (mark_k4 hk _).mono ?_); clear hk; first | (clear hm; rintro e w' ⟨rfl, hk⟩; have hm := (KS.out _ hk).2.2) | (rintro e w' ⟨rfl, hk⟩)))
    | (go_at_call 14; first | ((with_reducible refine (cmp_k1 hk).mono ?_); clear hk; rintro e w' ⟨rfl, hk⟩) | ((with_reducible refine (cmp_k2 hk).mono ?_); clear hk; rintro e w' ⟨rfl, hk⟩; have hm := (KS.out _ hk).2.2) | ((with_reducible refine (cmp_k3 hk).mono ?_); clear hk hm; rintro e w' ⟨rfl, hk⟩) | ((with_reducible refine (cmp_k4 hk).mono ?_); clear hk; rintro e w' ⟨rfl, hk⟩) | ((with_reducible refine (cmp_k5 hk).mono ?_); clear hk; rintro e w' ⟨rfl, hk⟩; have hx := (KS.out _ hk).1))
    | (go_at_call 23; first | ((with_reducible refine (put_k1 hk).mono ?_); clear hk hx; rintro e w' ⟨A1, n1, c1, rfl, hs1, hk⟩; have hy := (KS.out _ hk).2.1; have hya : ∀ o : Obj, _ := fun o => (KS.out _ (hk.new o)).2.1) | ((with_reducible refine (put_k2 hk rfl).mono ?_); clear hk hy hya; rintro e w' ⟨A2, n2, c2, rfl, hs2, hk⟩))
    | fail)
  all_goals (go_wp2; go_ret; exact ⟨rfl, HB7.out.trans (Below.mono hk HB7.out.size)⟩)
end Go.Proofs.Ytjeijgkkobmdbaa
