/-
  Contracts of the laws' helpers over strings: SameTexts; All of package bucketlinelaw05.
-/
import Derived.Test.YtopcnlophmplgaaFail
import Derived.Test.YtopcnlophmplgaaStr
namespace Go.Proofs.Ytopcnlophmplgaa
open Go.RowKit Go.Maps Go.Sort
set_option maxRecDepth 100000
set_option linter.unusedVariables false

abbrev sv (x : List UInt8) : Value := encStr x
theorem Lies.text {w : World} {B n k : Nat} {A : Option Addr} {l : List (List UInt8)} (h : Lies w B 1 A n (l.map sv)) (hk : k < n) :
    ∃ b o x, A = some ⟨b, o, none⟩ ∧ b < B ∧ l[k]? = some x ∧ w.cell? ⟨b, o + k, none⟩ = some (.string ⟨x.toArray⟩) := by
  obtain ⟨b, o, u, e, hb, hu, hc⟩ := h.at_ hk
  rw [List.getElem?_map] at hu
  cases hx : l[k]? with
  | none => rw [hx] at hu; cases hu
  | some x =>
    rw [hx] at hu
    injection hu with hu
    subst hu
    exact ⟨b, o, x, e, hb, rfl, hc⟩
theorem Lies.tlen {w : World} {B n : Nat} {A : Option Addr} {l : List (List UInt8)} (h : Lies w B 1 A n (l.map sv)) : l.length = n := by have := h.len; simp at this; exact this
/-- are two lists of bytes the same? -/
def sameT (a b : List (List UInt8)) : Bool := decide (a = b)
theorem sameT_self (a : List (List UInt8)) : sameT a a = true := by simp [sameT]

theorem str_eq {s : ByteArray} : (⟨s.data.toList.toArray⟩ : ByteArray) = s := by simp
end Go.Proofs.Ytopcnlophmplgaa
