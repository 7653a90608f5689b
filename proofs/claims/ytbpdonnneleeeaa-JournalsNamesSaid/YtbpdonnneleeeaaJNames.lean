/-
  JournalsNames: plain facts on a disk with one file of any name.
-/
import Derived.Test.YtbpdonnneleeeaaJEnd3
namespace Go.Proofs.Ytbpdonnneleeeaa
open Go.RowKit Go.Maps Go.Sort
set_option linter.unusedVariables false
set_option maxRecDepth 100000

theorem gone_one (k : List UInt8) (b : Nat) : (((DataW.map []) : Dir).put (.string k) (.lit (.int .u64 (b : Int)))).del (.string k) = .map [] := by
  show (DataW.map (([((.string k : Lit), (.lit (.int .u64 (b : Int)) : DataW Unit))]).filter fun e => !e.1.sameKey (.string k)) : Dir) = .map []
  rw [List.filter_cons, if_neg (by rw [WideAt.sameKey_self (isKey k)]; decide)]
  rfl
/-- the disk with no file, after one was made and removed -/
def SN (k : List UInt8) (b : Nat) : St := ((St.new 100000).create k b).remove k
theorem SN_pres (k : List UInt8) (b : Nat) : (SN k b).pres = .map [] := gone_one k b
/-- and with one -/
def SM (k : List UInt8) (b b2 : Nat) : St := (SN k b).create k b2
theorem SM_pres (k : List UInt8) (b b2 : Nat) : (SM k b b2).pres = .map [(.string k, .lit (.int .u64 (b2 : Int)))] := by
  show ((SN k b).pres).put _ _ = _
  rw [SN_pres]; rfl
theorem SM_len (k : List UInt8) (b b2 : Nat) : (SM k b b2).len b2 = 0 := by
  show ((upd (SN k b).file b2 ⟨[], 0⟩) b2).bytes.length = 0
  rw [upd_same]; rfl
theorem SM_left (k : List UInt8) (b b2 : Nat) : (SM k b b2).left = 100000 := by
  show 100000 - tot _ _ = _
  rw [SM_pres, one_tot, SM_len]
theorem SM_look (k : List UInt8) (b b2 : Nat) : look (SM k b b2).pres k = some b2 := by rw [SM_pres]; exact look_one b2 k
end Go.Proofs.Ytbpdonnneleeeaa
