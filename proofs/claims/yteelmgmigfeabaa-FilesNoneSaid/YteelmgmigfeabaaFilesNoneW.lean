/-
  The walk of FilesNone.
-/
import Derived.Test.YteelmgmigfeabaaNone
namespace Go.Proofs.Yteelmgmigfeabaa
open Go.RowKit
set_option linter.unusedVariables false
set_option maxRecDepth 100000

/-- the two disks that no call made, as they lie in memory -/
def Two (g : Nat) (wr : World) : Prop :=
  No wr none ∧ No wr (some ⟨g, 0, none⟩) ∧ Lies wr wr.heap.size 1 (some ⟨g + 1, 0, none⟩) 2 [.pointer none, .pointer (some ⟨g, 0, none⟩)]
theorem Two.below {g : Nat} {w w' : World} (h : Two g w) (hb : Below w.heap.size w w') : Two g w' :=
  ⟨h.1.below hb, h.2.1.below hb, (h.2.2.below hb).more hb.size⟩
def NoRel (w : World) (i : Value) (wr : World) : Prop := ∃ k : Nat, k ≤ 2 ∧ i = .int .i64 (k : Int) ∧ Below w.heap.size w wr ∧ Two w.heap.size wr

theorem two_new (w : World) (t u : TypeId) : Two w.heap.size ((w.alloc (.cells #[.int .i64 0, .map none, .map none] t)).alloc (.cells #[.pointer none, .pointer (some ⟨w.heap.size, 0, none⟩)] u)) := by
  have hs := alloc_size w (.cells #[.int .i64 0, .map none, .map none] t)
  have h1 : (w.alloc (.cells #[.int .i64 0, .map none, .map none] t)).heap[w.heap.size]? = some (.cells #[.int .i64 0, .map none, .map none] t) := heap_alloc_new w _
  generalize hW : w.alloc (.cells #[.int .i64 0, .map none, .map none] t) = W at *
  have hs2 := alloc_size W (.cells #[.pointer none, .pointer (some ⟨w.heap.size, 0, none⟩)] u)
  refine ⟨.inl rfl, .inr ⟨_, rfl, by omega, ?_⟩, ?_⟩
  · rw [World.cell?_alloc_lt W _ _ (by show w.heap.size < _; omega), cell_of_row _ w.heap.size 1 _ _ (0, 0) h1]
    rfl
  · have h := lits_lie hs [.pointer none, .pointer (some ⟨w.heap.size, 0, none⟩)] u
    rw [← hs2, ← hs]
    exact h

set_option maxHeartbeats 4000000 in
theorem filesNone_all (s : ByteArray) (A : Option Addr) (n c : Nat) (m : Int) (w : World) (hs : s.size ≤ 140737488351232) :
    Calls Try.prog 3 #[.string s, .slice A n c, .int .i64 m] w fun e w' => e = .returned (.bool true) ∧ Below w.heap.size w w' := by
  have hs2 : s.size ≤ 140737488355328 := by omega
  have HS := Lib.hid hs2
  have HR : Hid (NoRel w (.int .i64 0) ((w.alloc (.cells #[.int .i64 0, .map none, .map none] 27)).alloc (.cells #[.pointer none, .pointer (some ⟨w.heap.size, 0, none⟩)] 23))) :=
    ⟨0, by omega, rfl, below_a (below_a (Below.refl _ _) _) _, two_new _ _ _⟩
  clear hs hs2
  go_enter Try.func3, Try.ntmps3
  go_wp2
  go_loopw [8] (fun i wr => NoRel w i wr) (fun i _ => 2 - (intOf i).toNat)
  case atStart => exact HR.out
  case round =>
    clear HR
    obtain ⟨k, hk, rfl, hb, htw⟩ := hrel
    have HB := Lib.hid hb; have HT := Lib.hid htw
    clear hb htw
    by_cases hlt : k < 2
    · obtain ⟨p, hp, hcell⟩ : ∃ p, No wr p ∧ wr.cell? ⟨w.heap.size + 1, 0 + k, none⟩ = some (.pointer p) := by
        obtain ⟨h1, h2, h3⟩ := HT.out
        obtain ⟨b, o, v, hA, _, hu, hcell⟩ := h3.at_ hlt
        injection hA with hA
        injection hA with hA1 hA2
        subst hA1 hA2
        have : k = 0 ∨ k = 1 := by omega
        rcases this with rfl | rfl
        · injection hu with hu; subst hu; exact ⟨none, h1, hcell⟩
        · injection hu with hu; subst hu; exact ⟨_, h2, hcell⟩
      have HP := Lib.hid hp
      clear hp
      have hcell' : wr.cell? ⟨w.heap.size + 1, k, none⟩ = some (.pointer p) := by simpa using hcell
      clear hcell
      go_wp2_with fail
      refine (read_no HP.out s m m HS.out).mono ?_
      rintro x w1 ⟨rfl, b1⟩
      have HP := Lib.hid (HP.out.below b1); have HB := Lib.hid (HB.out.trans (b1.mono HB.out.size)); have HT := Lib.hid (HT.out.below b1)
      clear b1 hcell'
      go_wp2_with fail
      refine (size_no HP.out s HS.out).mono ?_
      rintro x w2 ⟨rfl, b1⟩
      have HP := Lib.hid (HP.out.below b1); have HB := Lib.hid (HB.out.trans (b1.mono HB.out.size)); have HT := Lib.hid (HT.out.below b1)
      clear b1
      go_wp2_with fail
      refine (fail_no HP.out m true).mono ?_
      rintro x w3 ⟨rfl, b1⟩
      have HP := Lib.hid (HP.out.below b1); have HB := Lib.hid (HB.out.trans (b1.mono HB.out.size)); have HT := Lib.hid (HT.out.below b1)
      clear b1
      go_wp2_with fail
      refine (list_no HP.out).mono ?_
      rintro x w4 ⟨rfl, b1⟩
      have HP := Lib.hid (HP.out.below b1); have HB := Lib.hid (HB.out.trans (b1.mono HB.out.size)); have HT := Lib.hid (HT.out.below b1)
      clear b1
      go_wp2_with fail
      refine (left_no HP.out).mono ?_
      rintro x w5 ⟨rfl, b1⟩
      have HP := Lib.hid (HP.out.below b1); have HB := Lib.hid (HB.out.trans (b1.mono HB.out.size)); have HT := Lib.hid (HT.out.below b1)
      clear b1
      go_wp2_with fail
      refine (create_no HP.out s HS.out).mono ?_
      rintro x w6 ⟨rfl, b1⟩
      have HP := Lib.hid (HP.out.below b1); have HB := Lib.hid (HB.out.trans (b1.mono HB.out.size)); have HT := Lib.hid (HT.out.below b1)
      clear b1
      go_wp2_with fail
      refine (remove_no HP.out s HS.out).mono ?_
      rintro x w7 ⟨rfl, b1⟩
      have HP := Lib.hid (HP.out.below b1); have HB := Lib.hid (HB.out.trans (b1.mono HB.out.size)); have HT := Lib.hid (HT.out.below b1)
      clear b1
      go_wp2_with fail
      refine (rename_no HP.out s s HS.out HS.out).mono ?_
      rintro x w8 ⟨rfl, b1⟩
      have HP := Lib.hid (HP.out.below b1); have HB := Lib.hid (HB.out.trans (b1.mono HB.out.size)); have HT := Lib.hid (HT.out.below b1)
      clear b1
      go_wp2_with fail
      refine (append_no HP.out s A n c HS.out).mono ?_
      rintro x w9 ⟨rfl, b1⟩
      have HP := Lib.hid (HP.out.below b1); have HB := Lib.hid (HB.out.trans (b1.mono HB.out.size)); have HT := Lib.hid (HT.out.below b1)
      clear b1
      go_wp2_with fail
      refine (sync_no HP.out s HS.out).mono ?_
      rintro x w10 ⟨rfl, b1⟩
      have HP := Lib.hid (HP.out.below b1); have HB := Lib.hid (HB.out.trans (b1.mono HB.out.size)); have HT := Lib.hid (HT.out.below b1)
      clear b1
      go_wp2_with fail
      refine (names_no HP.out).mono ?_
      rintro x w11 ⟨rfl, b1⟩
      have HP := Lib.hid (HP.out.below b1); have HB := Lib.hid (HB.out.trans (b1.mono HB.out.size)); have HT := Lib.hid (HT.out.below b1)
      clear b1
      go_wp2
      go_roundw
      case rel => exact ⟨k + 1, by omega, by go_num, HB.out, HT.out⟩
      case measure => simp [intOf]; omega
    · obtain rfl : k = 2 := by omega
      go_wp2
      go_ret
      exact ⟨rfl, HB.out⟩
theorem filesNone_walk (s : ByteArray) (A : Option Addr) (n c : Nat) (l : List UInt8) (m : Int) (w : World) (hs : s.size ≤ 140737488351232) (_y : Lies w w.heap.size 1 A n (l.map bv)) (_z : n ≤ c) (_x : c ≤ 140737488351232) (_q : -9223372036854775808 ≤ m ∧ m ≤ 9223372036854775807) :
    Calls Try.prog 3 #[.string s, .slice A n c, .int .i64 m] w fun e w' => e = .returned (.bool true) ∧ Below w.heap.size w w' :=
  filesNone_all s A n c m w hs
end Go.Proofs.Yteelmgmigfeabaa
