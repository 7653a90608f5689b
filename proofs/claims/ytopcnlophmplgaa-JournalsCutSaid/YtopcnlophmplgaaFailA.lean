/-
  What a crash leaves of a file; a directory that is being filled with what is left.
-/
import Derived.Test.YtopcnlophmplgaaOpsC
namespace Go.Proofs.Ytopcnlophmplgaa
open Go.RowKit Go.Maps Go.Sort
open Go.WideShapes (insert_perm)
set_option maxRecDepth 100000
set_option linter.unusedVariables false
set_option linter.unusedSectionVars false

/-- what a crash leaves of a file -/
def cutC (keep : Nat) (c : FileC) : FileC := ⟨c.bytes.take (c.sure + min keep (c.bytes.length - c.sure)), c.sure + min keep (c.bytes.length - c.sure)⟩

structure DirAt (w : World) (F : Nat → Prop) (m : Nat) (D : Dir) (file : Nat → FileC) (val : Nat → Value) : Prop where
  own : OwnD w m 64 D
  fm : F m
  ok : DirOK D
  files : ∀ k f, look D k = some f → FileAt w F f (file f) (val f)
  apart : ∀ k k' f g, look D k = some f → look D k' = some g → f ≠ g → ∀ r, (val f).ownBlock = some r → (val g).ownBlock ≠ some r
  inj : ∀ k k' f, look D k = some f → look D k' = some f → k = k'
  lt : ∀ i, F i → i < w.heap.size

theorem FileAt.mono {w : World} {F F' : Nat → Prop} {f : Nat} {c : FileC} {v : Value} (h : FileAt w F f c v) (hF : ∀ i, F i → F' i) : FileAt w F' f c v := ⟨hF _ h.mem, h.cells, h.own, fun r hr => hF r (h.row r hr), h.sure, h.max⟩
theorem DirAt.keep {w w' : World} {F F' : Nat → Prop} {m : Nat} {D : Dir} {file : Nat → FileC} {val : Nat → Value} (h : DirAt w F m D file val) (hF : ∀ i, F i → F' i) (hlt : ∀ i, F' i → i < w'.heap.size) (hs : ∀ i, F i → w'.heap[i]? = w.heap[i]?) : DirAt w' F' m D file val :=
  ⟨h.own.at_ (hs m h.fm), hF _ h.fm, h.ok, fun k f hk => ((h.files k f hk).keep hs).mono hF, h.apart, h.inj, hlt⟩
theorem dir_new {w : World} {F : Nat → Prop} {m : Nat} (h : OwnD w m 64 (.map [])) (hm : F m) (hlt : ∀ i, F i → i < w.heap.size) (file : Nat → FileC) (val : Nat → Value) : DirAt w F m (.map []) file val :=
  ⟨h, hm, fun e he => (by cases he), fun k f hk => (by cases hk), fun k k' f g hk => (by cases hk), fun k k' f hk => (by cases hk), hlt⟩
theorem dir_put {w w' : World} {F F' : Nat → Prop} {m : Nat} {D : Dir} {file : Nat → FileC} {val : Nat → Value} (h : DirAt w F m D file val) (hF : ∀ i, F i → F' i) (hlt : ∀ i, F' i → i < w'.heap.size) (hs : ∀ i, F i → i ≠ m → w'.heap[i]? = w.heap[i]?)
    {k : List UInt8} {b : Nat} {c : FileC} {v : Value} (ho : OwnD w' m 65 (D.put (.string k) (.lit (.int .u64 (b : Int))))) (hA : FileAt w' F' b c v) (hb : w.heap.size ≤ b) (hr : ∀ r, v.ownBlock = some r → w.heap.size ≤ r) (hk : look D k = none) (hz : Maps.size D < 64) :
    DirAt w' F' m (D.put (.string k) (.lit (.int .u64 (b : Int)))) (upd file b c) (upd val b v) := by
  have hM : IsMap D := World.ownsMap.isMap h.own
  have hT : Tidy D := World.ownsMap.tidy h.own keyLaw
  have hlk : ∀ x g, look (D.put (.string k) (.lit (.int .u64 (b : Int)))) x = some g → (x = k ∧ g = b) ∨ (x ≠ k ∧ g ≠ b ∧ look D x = some g) := fun x g hh => by
    rw [look_put D hM] at hh
    by_cases e : x = k
    · rw [if_pos e] at hh; injection hh with hh; exact .inl ⟨e, hh.symm⟩
    · rw [if_neg e] at hh
      exact .inr ⟨e, fun e2 => by have := h.lt g (h.files x g hh).mem; omega, hh⟩
  have nm : ∀ x f, look D x = some f → f ≠ m ∧ ∀ r, (val f).ownBlock = some r → r ≠ m := fun x f hf => by
    have H := h.files x f hf
    obtain ⟨es, clock, hb, _⟩ := h.own
    refine ⟨fun e => ?_, fun r hr e => ?_⟩
    · subst e; rw [H.cells] at hb; cases hb
    · subst e
      rcases H.own.2 with ⟨hv, _⟩ | ⟨g, cap, cur, hv, _, hh, _⟩
      · rw [hv] at hr; cases hr
      · rw [hv] at hr; injection hr with hr
        have hr : g = r := hr
        subst hr; rw [hh] at hb; cases hb
  refine ⟨OwnD.less ho (by have := size_put_le hT k b; omega), hF _ h.fm, dirOK_put h.ok k b, ?_, ?_, ?_, hlt⟩
  · intro x f hf
    rcases hlk x f hf with ⟨_, rfl⟩ | ⟨_, hne, hf⟩
    · rw [upd_same, upd_same]; exact hA
    · rw [upd_other _ _ hne, upd_other _ _ hne]
      have H := h.files x f hf
      refine ⟨hF _ H.mem, (hs f H.mem (nm x f hf).1).trans H.cells, ?_, fun r hr => hF r (H.row r hr), H.sure, H.max⟩
      obtain ⟨a1, a2⟩ := H.own
      refine ⟨a1, ?_⟩
      rcases a2 with a2 | ⟨g, cap, cur, hv, hg, hh, r⟩
      · exact .inl a2
      · have hr : (val f).ownBlock = some g := by rw [hv]; rfl
        exact .inr ⟨g, cap, cur, hv, hg, (hs g (H.row g hr) ((nm x f hf).2 g hr)).trans hh, r⟩
  · intro x y f g hf hg hfg r hrf hrg
    rcases hlk x f hf with ⟨_, ef⟩ | ⟨_, hne, hf2⟩ <;> rcases hlk y g hg with ⟨_, eg⟩ | ⟨_, hne2, hg2⟩
    · exact hfg (ef.trans eg.symm)
    · rw [ef, upd_same] at hrf; rw [upd_other _ _ hne2] at hrg
      have := h.lt r ((h.files y g hg2).row r hrg)
      have := hr r hrf
      omega
    · rw [eg, upd_same] at hrg; rw [upd_other _ _ hne] at hrf
      have := h.lt r ((h.files x f hf2).row r hrf)
      have := hr r hrg
      omega
    · rw [upd_other _ _ hne] at hrf; rw [upd_other _ _ hne2] at hrg
      exact h.apart x y f g hf2 hg2 hfg r hrf hrg
  · intro x y f hf hg
    rcases hlk x f hf with ⟨ex, ef⟩ | ⟨_, hne, hf2⟩ <;> rcases hlk y f hg with ⟨ey, eg⟩ | ⟨_, hne2, hg2⟩
    · exact ex.trans ey.symm
    · exact absurd ef hne2
    · exact absurd eg hne
    · exact h.inj x y f hf2 hg2

end Go.Proofs.Ytopcnlophmplgaa
