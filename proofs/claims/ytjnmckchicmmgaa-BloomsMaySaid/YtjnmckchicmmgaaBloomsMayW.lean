/-
  The walk of BloomsMay.
-/
import Derived.Test.YtjnmckchicmmgaaBlmC
import Derived.Test.YtjnmckchicmmgaaRefB
import Derived.Test.YtjnmckchicmmgaaHelpB
namespace Go.Proofs.Ytjnmckchicmmgaa
open Go.RowKit
set_option linter.unusedVariables false
set_option maxRecDepth 100000

set_option maxHeartbeats 4000000 in
theorem bloomsMay_walk (A : Option Addr) (n c : Nat) (b : List UInt8) (s : ByteArray) (w : World) (L : Lies w w.heap.size 1 A n (b.map bv)) (hnc : n ≤ c) (hc : c ≤ 140737488351232) (hs : s.size ≤ 140737488351232) :
    Calls Try.prog 3 #[.slice A n c, .string s] w fun e w' => e = .returned (.bool true) ∧ Below w.heap.size w w' := by
  have HL := Lib.hid L; clear L
  by_cases hbig : 100000 < n
  · have hg : decide ((100000 : Int) < (n : Int)) = true := by simp; omega
    go_enter Try.func3, Try.ntmps3
    go_wp2
    go_ret
    exact ⟨rfl, Below.refl _ _⟩
  have hg : decide ((100000 : Int) < (n : Int)) = false := by simp; omega
  by_cases hbig2 : 10000 < s.size
  · have hg2 : decide ((10000 : Int) < (s.size : Int)) = true := by simp; omega
    go_enter Try.func3, Try.ntmps3
    go_wp2
    go_ret
    exact ⟨rfl, Below.refl _ _⟩
  have hg2 : decide ((10000 : Int) < (s.size : Int)) = false := by simp; omega
  rcases hm : Blm.may b s.data.toList with ⟨a, er⟩
  have haa : (a == a) = true := by simp
  have hee : ((er : Int) == (er : Int)) = true := by simp
  have HM := Lib.hid hm
  clear hm
  go_enter Try.func3, Try.ntmps3
  go_wp2_with fail
  refine (twin_any A n c b _ HL.out (by omega)).mono ?_
  rintro e w1 ⟨gc, cc, rfl, hown1, hb1⟩
  have hcc : n + 1 ≤ cc ∧ cc ≤ maxLen := by
    obtain ⟨_, c', hsl, h1, h2, _⟩ := own_shape hown1
    injection hsl with _ _ e3
    rw [e3]; exact ⟨h1, h2⟩
  have HB1 := Lib.hid hb1
  have HT1 := Lib.hid (Lies.of_own hown1)
  have hbl := HL.out.blen
  have lt := lies_take HT1.out (Nat.le_succ n)
  rw [List.take_append_of_le_length (by omega), List.take_of_length_le (by omega)] at lt
  have HP := Lib.hid (blMay_any (some ⟨gc, 0, none⟩) n cc _ b s w1 lt (Nat.le_refl _) (by omega) (by omega) (by omega))
  rw [HM.out] at HP
  clear hown1 hb1 lt hbl
  go_wp2_with fail
  refine HP.out.mono ?_
  rintro e w2 ⟨rfl, hb2⟩
  have HB2 := Lib.hid (HB1.out.trans (hb2.mono HB1.out.size))
  have HT2 := Lib.hid ((HT1.out.below hb2).more hb2.size)
  have HR := Lib.hid (rMay_any A n c w.heap.size b s w2 (HL.out.below HB2.out) HB2.out.size hnc (by omega) (by omega))
  rw [HM.out] at HR
  clear hb2 HB1 HT1 HP
  go_wp2_with fail
  refine HR.out.mono ?_
  rintro e w3 ⟨rfl, hb3⟩
  have HB3 := Lib.hid (HB2.out.trans (hb3.mono HB2.out.size))
  have HT3 := Lib.hid ((HT2.out.below hb3).more hb3.size)
  have HLF := Lib.hid (left_any A gc 0 n cc c _ b w3 HT3.out hcc.1 hcc.2 ((HL.out.below HB3.out).more HB3.out.size))
  clear hb3 HB2 HT2 HR HT3
  go_wp2_with fail
  refine HLF.out.mono ?_
  rintro e w4 ⟨rfl, q, rfl⟩
  have HB4 := Lib.hid (below_drewN HB3.out q)
  clear HLF
  go_wp2
  go_ret
  exact ⟨rfl, HB4.out⟩
end Go.Proofs.Ytjnmckchicmmgaa
