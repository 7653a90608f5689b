/-
  FilesApart: the disk that the law makes, as it is written to, round by round; plain facts.
-/
import Derived.Test.YteelmgmigfeabaaFilesKeepW
import Derived.Test.YteelmgmigfeabaaAny
import Derived.Test.YteelmgmigfeabaaTSize
namespace Go.Proofs.Yteelmgmigfeabaa
open Go.RowKit Go.Maps Go.Sort
set_option linter.unusedVariables false
set_option linter.unusedSectionVars false

def sOne : ByteArray := ⟨#[111, 110, 101]⟩
def sOther : ByteArray := ⟨#[111, 116, 104, 101, 114]⟩
section
variable (f g : Nat) (la lb : List UInt8)
def A1 : St := (St.new 30000).create [111, 110, 101] f
def A2 : St := (A1 f).create [111, 116, 104, 101, 114] g
def D2 : Dir := .map [(.string [111, 110, 101], .lit (.int .u64 (f : Int))), (.string [111, 116, 104, 101, 114], .lit (.int .u64 (g : Int)))]
theorem A2_pres : (A2 f g).pres = D2 f g := rfl
def A3 : St := (A2 f g).append f la
def A4 : St := (A3 f g la).sync f
def A5 : St := (A4 f g la).append f lb
def A6 : St := (A5 f g la lb).names
theorem D2_put : D2 f g = (A1 f).pres.put (.string [111, 116, 104, 101, 114]) (.lit (.int .u64 (g : Int))) := rfl
theorem D2_one : look (D2 f g) [111, 110, 101] = some f := by
  rw [D2_put, look_put (A1 f).pres ⟨_, rfl⟩, if_neg (show ¬ ([111, 110, 101] : List UInt8) = [111, 116, 104, 101, 114] by decide)]
  exact look_one f [111, 110, 101]
theorem D2_other : look (D2 f g) [111, 116, 104, 101, 114] = some g := by
  rw [D2_put, look_put (A1 f).pres ⟨_, rfl⟩, if_pos rfl]
theorem D2_tot (h : Nat → Nat) : tot (D2 f g) h = h f + h g := by
  show h f + (h g + 0) = _
  omega
/-- the law's disk, m bytes in the other file -/
structure Inv (S : St) (m : Nat) : Prop where
  size : S.size = 30000
  pres : S.pres = D2 f g
  dur : S.dur = D2 f g
  one : S.file f = ⟨la ++ lb, la.length⟩
  other : S.len g = m
variable (hne : f ≠ g)
include hne
theorem A2_f : (A2 f g).file f = ⟨[], 0⟩ := by simp [A2, A1, St.create, upd, hne]
theorem A2_g : (A2 f g).file g = ⟨[], 0⟩ := by simp [A2, A1, St.create, upd]
theorem A3_f : (A3 f g la).file f = ⟨la, 0⟩ := by show upd _ _ _ _ = _; rw [upd_same, A2_f f g hne]; rfl
theorem A3_g : (A3 f g la).file g = ⟨[], 0⟩ := by show upd _ _ _ _ = _; rw [upd_other _ _ hne.symm, A2_g f g hne]
theorem A4_f : (A4 f g la).file f = ⟨la, la.length⟩ := by show upd _ _ _ _ = _; rw [upd_same, A3_f f g la hne]
theorem A4_g : (A4 f g la).file g = ⟨[], 0⟩ := by show upd _ _ _ _ = _; rw [upd_other _ _ hne.symm, A3_g f g la hne]
theorem A5_f : (A5 f g la lb).file f = ⟨la ++ lb, la.length⟩ := by show upd _ _ _ _ = _; rw [upd_same, A4_f f g la hne]
theorem A5_g : (A5 f g la lb).file g = ⟨[], 0⟩ := by show upd _ _ _ _ = _; rw [upd_other _ _ hne.symm, A4_g f g la hne]
theorem A2_left : (A2 f g).left = 30000 := by
  show 30000 - tot (A2 f g).pres _ = _
  rw [A2_pres, D2_tot]; show 30000 - (((A2 f g).file f).bytes.length + ((A2 f g).file g).bytes.length) = _
  rw [A2_f f g hne, A2_g f g hne]; rfl
theorem A4_left : (A4 f g la).left = 30000 - la.length := by
  show 30000 - tot (D2 f g) _ = _
  rw [D2_tot]; show 30000 - (((A4 f g la).file f).bytes.length + ((A4 f g la).file g).bytes.length) = _
  rw [A4_f f g la hne, A4_g f g la hne]; show 30000 - (la.length + 0) = _; rw [Nat.add_zero]
theorem A6_inv : Inv f g la lb (A6 f g la lb) 0 := ⟨rfl, rfl, rfl, A5_f f g la lb hne, by show ((A5 f g la lb).file g).bytes.length = 0; rw [A5_g f g la lb hne]; rfl⟩
theorem Inv.left {S : St} {m : Nat} (h : Inv f g la lb S m) : S.left = 30000 - (la.length + lb.length + m) := by
  show S.size - tot S.pres S.len = _
  rw [h.size, h.pres, D2_tot, h.other]
  show 30000 - ((S.file f).bytes.length + m) = _
  rw [h.one]; show 30000 - ((la ++ lb).length + m) = _; rw [List.length_append]
theorem Inv.app {S : St} {m : Nat} (h : Inv f g la lb S m) (l : List UInt8) : Inv f g la lb (S.append g l) (m + l.length) := by
  refine ⟨h.size, h.pres, h.dur, ?_, ?_⟩
  · show upd _ _ _ _ = _; rw [upd_other _ _ hne]; exact h.one
  · show (upd S.file g _ g).bytes.length = _
    rw [upd_same]; show ((S.file g).bytes ++ l).length = _
    rw [List.length_append]; have := h.other; unfold St.len at this; omega
theorem Inv.syn {S : St} {m : Nat} (h : Inv f g la lb S m) : Inv f g la lb (S.sync g) m := by
  refine ⟨h.size, h.pres, h.dur, ?_, ?_⟩
  · show upd _ _ _ _ = _; rw [upd_other _ _ hne]; exact h.one
  · show (upd S.file g _ g).bytes.length = _
    rw [upd_same]; exact h.other
/-- what a crash leaves of the one file -/
theorem Inv.fail {S S' : St} {m keep : Nat} (h : Inv f g la lb S m) (hs : FailSpec S S.dur keep S') : ∃ b, look S'.pres [111, 110, 101] = some b ∧ (S'.file b).bytes = la ++ lb.take keep := by
  rw [h.dur] at hs
  obtain ⟨b, h1, h2⟩ := (hs.2.2 _).2 f (D2_one f g)
  exact ⟨b, h1, by rw [h2, h.one, K_cut]⟩
end
end Go.Proofs.Yteelmgmigfeabaa
