/-
  What a crash leaves of a directory; Fail.
-/
import Derived.Test.YtopcnlophmplgaaFailA
namespace Go.Proofs.Ytopcnlophmplgaa
open Go.RowKit Go.Maps Go.Sort
set_option maxRecDepth 100000
set_option linter.unusedVariables false
set_option linter.unusedSectionVars false

/-- of each name of D that has come, what is left of its file -/
def CutOf (S : St) (D : Dir) (keep : Nat) (left : Lit → Bool) (Dout : Dir) (file : Nat → FileC) : Prop :=
  ∀ k, (look D k = none ∨ left (.string k) = true → look Dout k = none) ∧ ∀ f, look D k = some f → left (.string k) = false → ∃ b, look Dout k = some b ∧ file b = cutC keep (S.file f)
/-- the memory of the new directory -/
def gath (w wr : World) (i : Nat) : Prop := w.heap.size ≤ i ∧ i < wr.heap.size ∧ i ≠ w.heap.size + 1

def DRel (w : World) (S : St) (D : Dir) (m keep : Nat) (wr : World) : Prop :=
  ∃ left cnt Dout file val, wr.ranges Try.prog 9 pE m (w.heap.size + 1) 64 D left cnt ∧ DirAt wr (gath w wr) w.heap.size Dout file val ∧ Below w.heap.size w wr ∧ CutOf S D keep left Dout file ∧ cnt + Maps.size Dout ≤ 64

theorem cut_start (S : St) (D : Dir) (keep : Nat) (file : Nat → FileC) : CutOf S D keep (Maps.has D) (.map []) file := fun k => ⟨fun _ => rfl, fun f hf hl => by rw [has_look hf] at hl; cases hl⟩
theorem cut_step {S : St} {D : Dir} {keep : Nat} {left : Lit → Bool} {Dout : Dir} {file : Nat → FileC} (h : CutOf S D keep left Dout file) (hM : IsMap Dout) {k : List UInt8} {f b : Nat} (hk : look D k = some f) (hnew : ∀ x g, look Dout x = some g → g ≠ b) :
    CutOf S D keep (fun x => left x && !x.sameKey (.string k)) (Dout.put (.string k) (.lit (.int .u64 (b : Int)))) (upd file b (cutC keep (S.file f))) := by
  intro x
  rw [look_put Dout hM]
  by_cases e : x = k
  · subst e
    rw [if_pos rfl]
    have hs : (Lit.string x).sameKey (.string x) = true := WideAt.sameKey_self (isKey x)
    refine ⟨fun hh => ?_, fun g hg _ => ⟨b, rfl, ?_⟩⟩
    · rcases hh with hh | hh
      · rw [hk] at hh; cases hh
      · simp [hs] at hh
    · rw [hk] at hg; injection hg with hg; rw [← hg, upd_same]
  · rw [if_neg e]
    have hs : (Lit.string x).sameKey (.string k) = false := sameKey_ne (fun hh => e (by injection hh))
    refine ⟨fun hh => (h x).1 ?_, fun g hg hl => ?_⟩
    · rcases hh with hh | hh
      · exact .inl hh
      · simp [hs] at hh; exact .inr hh
    · simp [hs] at hl
      obtain ⟨c, hc, hfc⟩ := (h x).2 g hg hl
      exact ⟨c, hc, by rw [upd_other _ _ (hnew x c hc)]; exact hfc⟩

end Go.Proofs.Ytopcnlophmplgaa
