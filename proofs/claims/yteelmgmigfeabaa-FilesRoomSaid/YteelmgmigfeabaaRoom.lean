/-
  FilesRoom: the disk with three files, and how long they are; plain facts.
-/
import Derived.Test.YteelmgmigfeabaaBeside
namespace Go.Proofs.Yteelmgmigfeabaa
open Go.RowKit Go.Maps Go.Sort
set_option linter.unusedVariables false
set_option linter.unusedSectionVars false

section
variable (N f g e : Nat)
def R1 : St := (St.new N).create [48] f
def R2 : St := (R1 N f).create [49] g
def R3 : St := (R2 N f g).create [50] e
def D3 : Dir := .map [(.string [48], .lit (.int .u64 (f : Int))), (.string [49], .lit (.int .u64 (g : Int))), (.string [50], .lit (.int .u64 (e : Int)))]
theorem R3_pres : (R3 N f g e).pres = D3 f g e := rfl
theorem R2_put : (R2 N f g).pres = (R1 N f).pres.put (.string [49]) (.lit (.int .u64 (g : Int))) := rfl
theorem D3_put : D3 f g e = (R2 N f g).pres.put (.string [50]) (.lit (.int .u64 (e : Int))) := rfl
theorem R2_look (k : List UInt8) : look (R2 N f g).pres k = if k = [49] then some g else if k = [48] then some f else none := by
  rw [R2_put, look_put (R1 N f).pres ⟨_, rfl⟩]
  by_cases h : k = [49]
  · rw [if_pos h, if_pos h]
  · rw [if_neg h, if_neg h]
    by_cases h2 : k = [48]
    · rw [if_pos h2, h2]; exact look_one f [48]
    · rw [if_neg h2]; exact look_one_not f h2
theorem D3_look (k : List UInt8) : look (D3 f g e) k = if k = [50] then some e else if k = [49] then some g else if k = [48] then some f else none := by
  rw [D3_put 0 f g e, look_put (R2 0 f g).pres ⟨_, rfl⟩]
  by_cases h : k = [50]
  · rw [if_pos h, if_pos h]
  · rw [if_neg h, if_neg h]; exact R2_look 0 f g k
theorem D3_0 : look (D3 f g e) [48] = some f := by rw [D3_look]; rfl
theorem D3_1 : look (D3 f g e) [49] = some g := by rw [D3_look]; rfl
theorem D3_2 : look (D3 f g e) [50] = some e := by rw [D3_look]; rfl
theorem D3_tot (h : Nat → Nat) : tot (D3 f g e) h = h f + h g + h e := by
  show h f + (h g + (h e + 0)) = _
  omega
theorem D3_del : (D3 f g e).del (.string [49]) = .map [(.string [48], .lit (.int .u64 (f : Int))), (.string [50], .lit (.int .u64 (e : Int)))] := rfl
/-- the law's disk, and how long its files are -/
structure IR (h0 h1 h2 : Nat) (S : St) : Prop where
  size : S.size = N
  pres : S.pres = D3 f g e
  l0 : S.len f = h0
  l1 : S.len g = h1
  l2 : S.len e = h2
variable (h1 : f ≠ g) (h2 : f ≠ e) (h3 : g ≠ e)
include h1 h2 h3
theorem R3_inv : IR N f g e 0 0 0 (R3 N f g e) := by
  refine ⟨rfl, rfl, ?_, ?_, ?_⟩
  · show ((R3 N f g e).file f).bytes.length = 0
    simp [R3, R2, R1, St.create, upd]
  · show ((R3 N f g e).file g).bytes.length = 0
    simp [R3, R2, R1, St.create, upd]
  · show ((R3 N f g e).file e).bytes.length = 0
    simp [R3, R2, R1, St.create, upd]
variable {a0 a1 a2 : Nat} {S : St}
theorem IR.left (h : IR N f g e a0 a1 a2 S) : S.left = N - (a0 + a1 + a2) := by
  show S.size - tot S.pres S.len = _
  rw [h.size, h.pres, D3_tot, h.l0, h.l1, h.l2]
theorem IR.gone (h : IR N f g e a0 a1 a2 S) : (S.remove [49]).left = N - (a0 + a2) := by
  show S.size - tot (S.pres.del (.string [49])) S.len = _
  rw [h.size, h.pres, D3_del]
  show N - (S.len f + (S.len e + 0)) = _
  rw [h.l0, h.l2, Nat.add_zero]
theorem len_app (b c : Nat) (l : List UInt8) : (S.append b l).len c = if c = b then S.len b + l.length else S.len c := by
  show (upd S.file b ⟨(S.file b).bytes ++ l, (S.file b).sure⟩ c).bytes.length = _
  by_cases x : c = b
  · rw [x, upd_same, if_pos rfl]; exact List.length_append
  · rw [upd_other _ _ x, if_neg x]; rfl
theorem IR.app0 (h : IR N f g e a0 a1 a2 S) (l : List UInt8) : IR N f g e (a0 + l.length) a1 a2 (S.append f l) :=
  ⟨h.size, h.pres, by rw [len_app f g e h1 h2 h3, if_pos rfl, h.l0], by rw [len_app f g e h1 h2 h3, if_neg h1.symm, h.l1], by rw [len_app f g e h1 h2 h3, if_neg h2.symm, h.l2]⟩
theorem IR.app1 (h : IR N f g e a0 a1 a2 S) (l : List UInt8) : IR N f g e a0 (a1 + l.length) a2 (S.append g l) :=
  ⟨h.size, h.pres, by rw [len_app f g e h1 h2 h3, if_neg h1, h.l0], by rw [len_app f g e h1 h2 h3, if_pos rfl, h.l1], by rw [len_app f g e h1 h2 h3, if_neg h3.symm, h.l2]⟩
theorem IR.app2 (h : IR N f g e a0 a1 a2 S) (l : List UInt8) : IR N f g e a0 a1 (a2 + l.length) (S.append e l) :=
  ⟨h.size, h.pres, by rw [len_app f g e h1 h2 h3, if_neg h2, h.l0], by rw [len_app f g e h1 h2 h3, if_neg h3, h.l1], by rw [len_app f g e h1 h2 h3, if_pos rfl, h.l2]⟩
end
end Go.Proofs.Yteelmgmigfeabaa
