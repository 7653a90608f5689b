/-
  What the methods of package files answer for a disk that is not there, or that no call made.
-/
import Derived.Test.YtbpdonnneleeeaaOpC
namespace Go.Proofs.Ytbpdonnneleeeaa
open Go.RowKit
set_option maxRecDepth 100000
set_option linter.unusedVariables false

def No (w : World) (p : Option Addr) : Prop := NoDisk w (.pointer p)
theorem No.below {w w' : World} {p : Option Addr} (h : No w p) (hb : Below w.heap.size w w') : No w' p := NoDisk.below h hb
def Ans (w : World) (v : Value) (e : Ending) (w' : World) : Prop := e = .returned v ∧ Below w.heap.size w w'
section
variable {p : Option Addr} {w : World} (h : No w p)
include h
theorem read_no (s : ByteArray) (at_ n : Int) (hs : s.size ≤ 140737488355328) : Calls Try.prog 20 #[.pointer p, .string s, .int .i64 at_, .int .i64 n] w (Ans w (.tuple #[.slice none 0 0, er 2])) :=
  read_fails p s at_ n w hs 2 0 0 2 h.gives (fun h => by cases h) (fun h => by cases h) rfl (by decide)
theorem size_no (s : ByteArray) (hs : s.size ≤ 140737488355328) : Calls Try.prog 17 #[.pointer p, .string s] w (Ans w (.tuple #[.int .i64 0, er 2])) :=
  size_fails p s w hs 2 0 2 h.gives (fun h => by cases h) rfl (by decide)
theorem fail_no (n : Int) (b : Bool) : Calls Try.prog 19 #[.pointer p, .int .i64 n, .bool b] w (Ans w (.tuple #[.pointer none, er 2])) :=
  fail_fails p n b w 2 2 h.gives rfl (by decide)
theorem create_no (s : ByteArray) (hs : s.size ≤ 140737488355328) : Calls Try.prog 22 #[.pointer p, .string s] w (Ans w (er 2)) :=
  create_fails p s w hs 2 0 0 2 h.gives (fun h => by cases h) (fun h => by cases h) rfl (by decide)
theorem remove_no (s : ByteArray) (hs : s.size ≤ 140737488355328) : Calls Try.prog 21 #[.pointer p, .string s] w (Ans w (er 2)) :=
  remove_fails p s w hs 2 0 2 h.gives (fun h => by cases h) rfl (by decide)
theorem append_no (s : ByteArray) (A : Option Addr) (n c : Nat) (hs : s.size ≤ 140737488355328) : Calls Try.prog 23 #[.pointer p, .string s, .slice A n c] w (Ans w (er 2)) :=
  append_fails p s A n c w hs 2 0 0 2 h.gives (fun h => by cases h) (fun h => by cases h) rfl (by decide)
theorem sync_no (s : ByteArray) (hs : s.size ≤ 140737488355328) : Calls Try.prog 29 #[.pointer p, .string s] w (Ans w (er 2)) :=
  sync_fails p s w hs 2 0 2 h.gives (fun h => by cases h) rfl (by decide)
theorem names_no : Calls Try.prog 18 #[.pointer p] w (Ans w (er 2)) := by
  have H := Lib.hid h; clear h
  go_enter Try.func18, Try.ntmps18
  go_wp2_with (go_at_call 35; refine (NoDisk.exists H.out).mono ?_; rintro x w' ⟨rfl, rfl⟩)
  go_ret
  exact ⟨rfl, Below.refl _ _⟩
theorem list_no : Calls Try.prog 25 #[.pointer p] w (Ans w (.slice none 0 0)) := by
  have H := Lib.hid h; clear h
  go_enter Try.func25, Try.ntmps25
  go_wp2_with (go_at_call 35; refine (NoDisk.exists H.out).mono ?_; rintro x w' ⟨rfl, rfl⟩)
  go_ret
  exact ⟨rfl, Below.refl _ _⟩
theorem left_no : Calls Try.prog 62 #[.pointer p] w (Ans w (.int .i64 0)) := by
  have H := Lib.hid h; clear h
  go_enter Try.func62, Try.ntmps62
  go_wp2_with (go_at_call 35; refine (NoDisk.exists H.out).mono ?_; rintro x w' ⟨rfl, rfl⟩)
  go_ret
  exact ⟨rfl, Below.refl _ _⟩
end
end Go.Proofs.Ytbpdonnneleeeaa
