/-
  The walk of JournalsNone.
-/
import Derived.Test.YtbpdonnneleeeaaJNone
namespace Go.Proofs.Ytbpdonnneleeeaa
open Go.RowKit
set_option linter.unusedVariables false
set_option maxRecDepth 100000

/-- the two journals that no call made, as they lie in memory -/
def Two (g : Nat) (wr : World) : Prop :=
  NoJ wr none ∧ NoJ wr (some ⟨g, 0, none⟩) ∧ Lies wr wr.heap.size 1 (some ⟨g + 1, 0, none⟩) 2 [.pointer none, .pointer (some ⟨g, 0, none⟩)]
def NoRel (w : World) (i : Value) (wr : World) : Prop := ∃ k : Nat, k ≤ 2 ∧ i = .int .i64 (k : Int) ∧ Below w.heap.size w wr ∧ Two w.heap.size wr

theorem two_new (w : World) (t u : TypeId) : Two w.heap.size ((w.alloc (.cells #[.pointer none, .string ByteArray.empty, .int .i64 0] t)).alloc (.cells #[.pointer none, .pointer (some ⟨w.heap.size, 0, none⟩)] u)) := by
  have hs := alloc_size w (.cells #[.pointer none, .string ByteArray.empty, .int .i64 0] t)
  have h1 : (w.alloc (.cells #[.pointer none, .string ByteArray.empty, .int .i64 0] t)).heap[w.heap.size]? = some (.cells #[.pointer none, .string ByteArray.empty, .int .i64 0] t) := heap_alloc_new w _
  generalize hW : w.alloc (.cells #[.pointer none, .string ByteArray.empty, .int .i64 0] t) = W at *
  have hs2 := alloc_size W (.cells #[.pointer none, .pointer (some ⟨w.heap.size, 0, none⟩)] u)
  refine ⟨.inl rfl, .inr ⟨_, rfl, by omega, ?_⟩, ?_⟩
  · rw [World.cell?_alloc_lt W _ _ (by show w.heap.size < _; omega), cell_of_row _ w.heap.size 0 _ _ (0, 0) h1]
    rfl
  · have h := lits_lie hs [.pointer none, .pointer (some ⟨w.heap.size, 0, none⟩)] u
    rw [← hs2, ← hs]
    exact h
/-- a disk that no call made -/
theorem no_new (w : World) (t : TypeId) : No (w.alloc (.cells #[.int .i64 0, .map none, .map none] t)) (some ⟨w.heap.size, 0, none⟩) := by
  have hs := alloc_size w (.cells #[.int .i64 0, .map none, .map none] t)
  refine .inr ⟨_, rfl, by omega, ?_⟩
  rw [cell_of_row _ w.heap.size 1 _ _ (0, 0) (heap_alloc_new w _)]
  rfl

theorem journalsNone_walk (A : Option Addr) (n c : Nat) (l : List UInt8) (s : ByteArray) (w : World) (_y : Lies w w.heap.size 1 A n (l.map bv)) (_z : n ≤ c) (_x : c ≤ 140737488351232) (hs : s.size ≤ 140737488351232) :
    Calls Try.prog 3 #[.slice A n c, .string s] w fun e w' => e = .returned (.bool true) ∧ Below w.heap.size w w' := by
  have hs2 : s.size ≤ 140737488355328 := by omega
  have HS := Lib.hid hs2
  have HR : Hid (NoRel w (.int .i64 0) ((w.alloc (.cells #[.pointer none, .string ByteArray.empty, .int .i64 0] 26)).alloc (.cells #[.pointer none, .pointer (some ⟨w.heap.size, 0, none⟩)] 23))) :=
    ⟨0, by omega, rfl, below_a (below_a (Below.refl _ _) _) _, two_new _ _ _⟩
  clear hs hs2 _y _z _x
  go_enter Try.func3, Try.ntmps3
  go_wp2
  go_loopw [6] (fun i wr => NoRel w i wr) (fun i _ => 2 - (intOf i).toNat)
  case atStart => exact HR.out
  case round =>
    clear HR
    obtain ⟨k, hk, rfl, hb, htw⟩ := hrel
    have HB := Lib.hid hb
    by_cases hlt : k < 2
    · obtain ⟨p, hp, hcell⟩ : ∃ p, NoJ wr p ∧ wr.cell? ⟨w.heap.size + 1, 0 + k, none⟩ = some (.pointer p) := by
        obtain ⟨h1, h2, h3⟩ := htw
        obtain ⟨b, o, v, hA, _, hu, hcell⟩ := h3.at_ hlt
        injection hA with hA
        injection hA with hA1 hA2
        subst hA1 hA2
        have : k = 0 ∨ k = 1 := by omega
        rcases this with rfl | rfl
        · injection hu with hu; subst hu; exact ⟨none, h1, hcell⟩
        · injection hu with hu; subst hu; exact ⟨_, h2, hcell⟩
      have HP := Lib.hid hp
      have HT := Lib.hid htw
      clear hp htw hb
      have hcell' : wr.cell? ⟨w.heap.size + 1, k, none⟩ = some (.pointer p) := by simpa using hcell
      clear hcell
      go_wp2_with fail
      refine (noJ_add HP.out A n c).mono ?_
      rintro x w1 ⟨rfl, hw⟩
      obtain rfl := hw.symm
      go_wp2_with fail
      refine (noJ_sync HP.out).mono ?_
      rintro x w2 ⟨rfl, hw⟩
      obtain rfl := hw.symm
      go_wp2
      go_roundw
      case rel => exact ⟨k + 1, by omega, by go_num, HB.out, HT.out⟩
      case measure => simp [intOf]; omega
    · obtain rfl : k = 2 := by omega
      clear htw hb
      go_wp2_with fail
      refine (open_no (.inl rfl) s HS.out).mono ?_
      rintro x w1 ⟨rfl, b1⟩
      have HB := Lib.hid (HB.out.trans (b1.mono HB.out.size))
      have HN := Lib.hid (no_new w1 37)
      have HB1 := Lib.hid (HB.out.alloc HB.out.size (.cells #[.int .i64 0, .map none, .map none] 37))
      clear b1
      go_wp2_with fail
      refine (open_no HN.out s HS.out).mono ?_
      rintro x w2 ⟨rfl, b1⟩
      have HB2 := Lib.hid (HB1.out.trans (b1.mono HB1.out.size))
      clear b1
      go_wp2
      go_ret
      exact ⟨rfl, HB2.out⟩
end Go.Proofs.Ytbpdonnneleeeaa
