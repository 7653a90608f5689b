/-
  The walk of OrderGet.
-/
import Derived.Test.YtjeijgkkobmdbaaRefGet4
import Derived.Test.YtjeijgkkobmdbaaOrderPartsW
import Derived.Test.YtjeijgkkobmdbaaLeft
namespace Go.Proofs.Ytjeijgkkobmdbaa
open Go.RowKit
set_option linter.unusedVariables false
set_option maxRecDepth 100000

theorem orderGet_yes (A : Option Addr) (n c : Nat) (w : World) (hnc : n ≤ c) (hc : c ≤ 140737488351232) (hbig : 1048576 < n) :
    Calls Try.prog 4 #[.slice A n c] w fun e w' => e = .returned (.bool true) ∧ Below w.heap.size w w' := by
  go_enter Try.func4, Try.ntmps4
  go_wp2_with fail
  refine (beyond_yes n w (by omega) hbig).mono ?_
  rintro e w2 ⟨rfl, hb2⟩
  go_wp2
  go_ret
  exact ⟨rfl, hb2⟩

set_option maxHeartbeats 2000000 in
theorem orderGet_no (A : Option Addr) (n c : Nat) (l : List UInt8) (w : World) (y : Lies w w.heap.size 1 A n (l.map bv)) (hnc : n ≤ c) (hc : c ≤ 140737488351232) (hbig : n ≤ 1048576) :
    Calls Try.prog 4 #[.slice A n c] w fun e w' => e = .returned (.bool true) ∧ Below w.heap.size w w' := by
  have Y := Lib.hid y; clear y
  rcases hgt : gotE l with ⟨⟨⟨k, s, gg⟩, x⟩, t, er⟩
  have HX : Hid (∀ (w : World) (A : Option Addr) (c : Nat), n ≤ c → c ≤ maxLen → Lies w w.heap.size 1 A n (l.map bv) → Calls Try.prog 18 #[.slice A n c] w fun e w' => e = .returned (.tuple #[.agg #[.string k, .int .u64 (s : Int), .bool gg, .string x], .int .i64 (t : Int), .int .i64 (er : Int)]) ∧ Below w.heap.size w w') :=
    fun w A c h1 h2 h => by have h := oget_any A n c l w h h1 h2; rw [hgt] at h; exact h
  have RX : Hid (∀ (w : World), Lies w w.heap.size 1 A n (l.map bv) → Calls Try.prog 19 #[.slice A n c] w fun e w' => e = .returned (.tuple #[.agg #[.string k, .int .u64 (s : Int), .bool gg, .string x], .int .i64 (t : Int), .int .i64 (er : Int)]) ∧ Below w.heap.size w w') :=
    fun w h => by have h := rget_any A n c l w h hnc hc; rw [hgt] at h; exact h
  clear hgt
  have hcm : c ≤ maxLen := by unfold maxLen; omega
  go_enter Try.func4, Try.ntmps4
  go_wp2_with fail
  refine (beyond_no n w hbig).mono ?_
  rintro e w1 ⟨rfl, hb1⟩
  go_wp2_with fail
  refine (twin_any A n c l w1 ((Y.out.below hb1).more hb1.size) (by omega)).mono ?_
  rintro e w2 ⟨g, c2, rfl, hown2, hb2⟩
  have HB2 : Hid (Kept w w2) := hb1.trans (hb2.mono hb1.size); clear hb1 hb2
  have L2 := Lib.hid (Lies.of_own hown2)
  obtain ⟨hc2, hc2m⟩ : n + 1 ≤ c2 ∧ c2 ≤ maxLen := by
    obtain ⟨A', c', he, h1, h2, _⟩ := own_shape hown2
    injection he with _ _ he
    subst he
    exact ⟨h1, h2⟩
  have T2 : Hid (Lies w2 w2.heap.size 1 (some ⟨g, 0, none⟩) n (l.map bv)) := by
    have := L2.out.take_ (m := n) (by omega)
    rw [List.map_append, List.take_append_of_le_length (by simp [Y.out.blen]), List.take_of_length_le (by simp [Y.out.blen])] at this
    exact this
  clear hown2
  go_wp2_with fail
  refine (HX.out w2 (some ⟨g, 0, none⟩) c2 (by omega) hc2m T2.out).mono ?_
  rintro e w3 ⟨rfl, hb3⟩
  have HE4 := Lib.hid (EnIn.new w3 ⟨⟨k, s, gg⟩, x⟩)
  have hb4 : Below w2.heap.size w2 (w3.alloc (.cells #[.string k, .int .u64 (s : Int), .bool gg, .string x] 32)) := hb3.alloc hb3.size _
  have HB4 := Lib.hid (HB2.out.on hb4)
  have L4 := Lib.hid ((L2.out.below hb4).more hb4.size)
  clear HB2 T2 L2 hb3 hb4 HX
  go_wp2_with fail
  generalize (w3.alloc (.cells #[.string k, .int .u64 (s : Int), .bool gg, .string x] 32)) = w4 at *
  refine (RX.out w4 (Kept.lies HB4.out Y.out)).mono ?_
  rintro e w5 ⟨rfl, hb5⟩
  have HE5 := Lib.hid (HE4.out.on hb5)
  have HB5 := Lib.hid (HB4.out.on hb5)
  have L5 := Lib.hid ((L4.out.below hb5).more hb5.size)
  have hb6 : Below w5.heap.size w5 (w5.alloc (.cells #[.string k, .int .u64 (s : Int), .bool gg, .string x] 32)) := (Below.refl _ w5).alloc (Nat.le_refl _) _
  have HE6 := Lib.hid (HE5.out.on hb6)
  have HF6 := Lib.hid (EnIn.new w5 ⟨⟨k, s, gg⟩, x⟩)
  have HB6 := Lib.hid (HB5.out.on hb6)
  have L6 := Lib.hid ((L5.out.below hb6).more hb6.size)
  have q5 := HE5.out.1.cell
  have hne : w3.heap.size < w5.heap.size := HE5.out.2
  clear HE4 HB4 L4 hb5 hb6 RX HB5 L5 HE5
  go_wp2_with fail
  generalize (w5.alloc (.cells #[.string k, .int .u64 (s : Int), .bool gg, .string x] 32)) = w6 at *
  have q6 := HE6.out.1.cell; have z6 := HF6.out.1.cell
  refine (leftB_any A g 0 n c2 c w6.heap.size l w6 L6.out hc2 hc2m (Kept.lies HB6.out Y.out)).mono ?_
  rintro e w7 ⟨rfl, q7, rfl⟩
  go_wp2
  go_ret
  exact ⟨rfl, below_drewN HB6.out q7⟩
theorem orderGet_walk (A : Option Addr) (n c : Nat) (l : List UInt8) (w : World) (y : Lies w w.heap.size 1 A n (l.map bv)) (hnc : n ≤ c) (hc : c ≤ 140737488351232) :
    Calls Try.prog 4 #[.slice A n c] w fun e w' => e = .returned (.bool true) ∧ Below w.heap.size w w' := by
  by_cases hbig : 1048576 < n
  · exact orderGet_yes A n c w hnc hc hbig
  · exact orderGet_no A n c l w y hnc hc (by omega)
end Go.Proofs.Ytjeijgkkobmdbaa
