/-
  FilesBytes: the disk that the law makes, as both files grow, round by round; plain facts.
-/
import Derived.Test.YteelmgmigfeabaaFilesMovesW
import Derived.Test.YteelmgmigfeabaaTSize
namespace Go.Proofs.Yteelmgmigfeabaa
open Go.RowKit Go.Maps Go.Sort
set_option linter.unusedVariables false
set_option linter.unusedSectionVars false

section
variable (f g : Nat)
def B1 : St := (St.new 30000).create [97] f
def B2 : St := (B1 f).create [98] g
def DB : Dir := .map [(.string [97], .lit (.int .u64 (f : Int))), (.string [98], .lit (.int .u64 (g : Int)))]
theorem B2_pres : (B2 f g).pres = DB f g := rfl
theorem DB_put : DB f g = (B1 f).pres.put (.string [98]) (.lit (.int .u64 (g : Int))) := rfl
theorem DB_a : look (DB f g) [97] = some f := by
  rw [DB_put, look_put (B1 f).pres ⟨_, rfl⟩, if_neg (show ¬ ([97] : List UInt8) = [98] by decide)]
  exact look_one f [97]
theorem DB_b : look (DB f g) [98] = some g := by
  rw [DB_put, look_put (B1 f).pres ⟨_, rfl⟩, if_pos rfl]
theorem DB_tot (h : Nat → Nat) : tot (DB f g) h = h f + h g := by
  show h f + (h g + 0) = _
  omega
/-- the law's disk, its files' bytes -/
structure IB (la lb : List UInt8) (S : St) : Prop where
  size : S.size = 30000
  pres : S.pres = DB f g
  one : (S.file f).bytes = la
  two : (S.file g).bytes = lb
variable (hne : f ≠ g)
include hne
theorem B2_inv : IB f g [] [] (B2 f g) := ⟨rfl, rfl, by simp [B2, B1, St.create, upd, hne], by simp [B2, B1, St.create, upd]⟩
variable {la lb : List UInt8} {S : St}
theorem IB.left (h : IB f g la lb S) : S.left = 30000 - (la.length + lb.length) := by
  show S.size - tot S.pres S.len = _
  rw [h.size, h.pres, DB_tot]
  show 30000 - ((S.file f).bytes.length + (S.file g).bytes.length) = _
  rw [h.one, h.two]
theorem IB.len_a (h : IB f g la lb S) : S.len f = la.length := by show (S.file f).bytes.length = _; rw [h.one]
theorem IB.len_b (h : IB f g la lb S) : S.len g = lb.length := by show (S.file g).bytes.length = _; rw [h.two]
theorem IB.app_a (h : IB f g la lb S) (l : List UInt8) : IB f g (la ++ l) lb (S.append f l) := by
  refine ⟨h.size, h.pres, ?_, ?_⟩
  · show (upd S.file f _ f).bytes = _
    rw [upd_same]; show (S.file f).bytes ++ l = _; rw [h.one]
  · show (upd S.file f _ g).bytes = _
    rw [upd_other _ _ hne.symm]; exact h.two
theorem IB.app_b (h : IB f g la lb S) (l : List UInt8) : IB f g la (lb ++ l) (S.append g l) := by
  refine ⟨h.size, h.pres, ?_, ?_⟩
  · show (upd S.file g _ f).bytes = _
    rw [upd_other _ _ hne]; exact h.one
  · show (upd S.file g _ g).bytes = _
    rw [upd_same]; show (S.file g).bytes ++ l = _; rw [h.two]
end
def sA : ByteArray := ⟨#[97]⟩
def sB : ByteArray := ⟨#[98]⟩
theorem cat_data (a b : ByteArray) : (a ++ b).data.toList = a.data.toList ++ b.data.toList := by simp
theorem len_data (a : ByteArray) : a.data.toList.length = a.size := by rw [Array.length_toList]; rfl
end Go.Proofs.Yteelmgmigfeabaa
