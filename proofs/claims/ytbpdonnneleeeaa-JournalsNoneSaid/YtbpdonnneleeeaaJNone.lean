/-
  What package journals answers for a journal that is not there, or that no call made, and for no disk.
-/
import Derived.Test.YtbpdonnneleeeaaNone
namespace Go.Proofs.Ytbpdonnneleeeaa
open Go.RowKit
set_option linter.unusedVariables false
set_option maxRecDepth 100000

def NoJ (w : World) (p : Option Addr) : Prop := p = none ∨ ∃ b, p = some ⟨b, 0, none⟩ ∧ b < w.heap.size ∧ w.cell? ⟨b, 0, none⟩ = some (.pointer none)
theorem NoJ.below {w w' : World} {p : Option Addr} (h : NoJ w p) (hb : Below w.heap.size w w') : NoJ w' p := by
  rcases h with h | ⟨b, h1, h2, h3⟩
  · exact .inl h
  · exact .inr ⟨b, h1, Nat.lt_of_lt_of_le h2 hb.size, by rw [hb.cell h2]; exact h3⟩
section
variable {p : Option Addr} {w : World} (h : NoJ w p)
include h
theorem noJ_exists : Calls Try.prog 27 #[.pointer p] w fun x w' => x = .returned (.bool false) ∧ w' = w := by
  rcases h with rfl | ⟨b, rfl, _, h3⟩
  · go_enter Try.func27, Try.ntmps27
    go_wp2
    go_ret
    exact ⟨rfl, rfl⟩
  · go_enter Try.func27, Try.ntmps27
    go_wp2
    go_ret
    exact ⟨rfl, rfl⟩
theorem noJ_add (A : Option Addr) (n c : Nat) : Calls Try.prog 10 #[.pointer p, .slice A n c] w fun x w' => x = .returned (er 2) ∧ w' = w := by
  have HE := Lib.hid (noJ_exists h)
  clear h
  go_enter Try.func10, Try.ntmps10
  go_wp2_with fail
  refine HE.out.mono ?_
  rintro x w1 ⟨rfl, hw⟩
  obtain rfl := hw.symm
  go_wp2
  go_ret
  exact ⟨rfl, rfl⟩
theorem noJ_sync : Calls Try.prog 11 #[.pointer p] w fun x w' => x = .returned (er 2) ∧ w' = w := by
  have HE := Lib.hid (noJ_exists h)
  clear h
  go_enter Try.func11, Try.ntmps11
  go_wp2_with fail
  refine HE.out.mono ?_
  rintro x w1 ⟨rfl, hw⟩
  obtain rfl := hw.symm
  go_wp2
  go_ret
  exact ⟨rfl, rfl⟩
end
section
variable {p : Option Addr} {w : World} (h : No w p)
include h
theorem content_no (s : ByteArray) (hs : s.size ≤ 140737488355328) :
    Calls Try.prog 30 #[.pointer p, .string s] w (Ans w (.tuple #[.slice none 0 0, er 2])) := by
  have HH := Lib.hid h
  go_enter Try.func30, Try.ntmps30
  go_wp2_with fail
  refine (size_no HH.out s hs).mono ?_
  rintro x w1 ⟨rfl, hb1⟩
  have HB := Lib.hid hb1
  clear hb1
  go_wp2
  go_ret2
  exact ⟨rfl, HB.out⟩
theorem open_no (s : ByteArray) (hs : s.size ≤ 140737488355328) :
    Calls Try.prog 12 #[.pointer p, .string s] w (Ans w (.tuple #[.pointer none, .slice none 0 0, er 2])) := by
  have HH := Lib.hid h
  go_enter Try.func12, Try.ntmps12
  go_wp2_with fail
  refine (content_no HH.out s hs).mono ?_
  rintro x w1 ⟨rfl, hb1⟩
  have HB := Lib.hid hb1
  clear hb1
  go_wp2
  exact bodyPost_ret (results_tmp3 rfl _ _ _) rfl ⟨rfl, HB.out⟩
end
end Go.Proofs.Ytbpdonnneleeeaa
