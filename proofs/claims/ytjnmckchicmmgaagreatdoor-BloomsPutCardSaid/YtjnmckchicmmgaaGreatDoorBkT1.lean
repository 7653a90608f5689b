/-
  The laws' Book: texts: their marks.
-/
import Derived.Test.YtjnmckchicmmgaaGreatDoorBkW
namespace Go.Proofs.YtjnmckchicmmgaaGreatDoor
open Go.RowKit
set_option linter.unusedVariables false
set_option maxRecDepth 100000

theorem markText_any (n : Nat) (w : World) (hn : n ≤ 1000000) (ht : TabB w.heap.size w) :
    Calls Tryz.prog 68 #[.int .i64 (n : Int)] w fun e w' => e = .returned (.string (wd n)) ∧ Below w.heap.size w w' := by
  have H : Hid (∀ W, Below w.heap.size w W → Calls Tryz.prog 93 #[.int .i64 (n : Int)] W fun e w' => e = .returned (.string (wd n)) ∧ Below W.heap.size W w') := fun W hW => word_any n W hn (ht W hW)
  clear ht
  generalize wd n = s at *
  go_enter Tryz.func68, Tryz.ntmps68
  go_wp2_with fail
  refine (H.out _ (Below.refl _ _)).mono ?_
  rintro e w1 ⟨rfl, hb⟩
  have HB := Lib.hid hb
  clear hb
  go_wp2
  go_ret
  exact ⟨rfl, HB.out⟩
theorem isText_any (n : Nat) (w : World) (hn : n ≤ 1000000) (ht : TabB w.heap.size w) :
    Calls Tryz.prog 81 #[.string (wd n), .int .i64 (n : Int)] w fun e w' => e = .returned (.bool true) ∧ Below w.heap.size w w' := by
  have H : Hid (∀ W, Below w.heap.size w W → Calls Tryz.prog 93 #[.int .i64 (n : Int)] W fun e w' => e = .returned (.string (wd n)) ∧ Below W.heap.size W w') := fun W hW => word_any n W hn (ht W hW)
  clear ht
  generalize wd n = s at *
  have hee : (s.toList == s.toList) = true := by simp
  go_enter Tryz.func81, Tryz.ntmps81
  go_wp2_with fail
  refine (H.out _ (Below.refl _ _)).mono ?_
  rintro e w1 ⟨rfl, hb⟩
  have HB := Lib.hid hb
  clear hb
  go_wp2
  go_ret
  exact ⟨rfl, HB.out⟩
def textK : Kn where
  e := 9
  sz := 1
  h := 67
  mark := fun n => [.string (wd n)]
  pos := by decide
  len := fun _ => rfl
  one := fun n u hu => by
    rw [List.mem_singleton.1 hu]; rfl
  ne := by decide
  nb := by decide
  nh := by decide
end Go.Proofs.YtjnmckchicmmgaaGreatDoor
