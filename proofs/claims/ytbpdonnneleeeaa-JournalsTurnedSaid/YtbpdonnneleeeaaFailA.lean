/-
  What a crash leaves of a file; a directory that is being filled with what is left.
-/
import Derived.Test.YtbpdonnneleeeaaOpsC
namespace Go.Proofs.Ytbpdonnneleeeaa
open Go.RowKit Go.Maps Go.Sort
open Go.WideShapes (insert_perm)
set_option maxRecDepth 100000
set_option linter.unusedVariables false
set_option linter.unusedSectionVars false

/-- what a crash leaves of a file -/
def cutC (keep : Nat) (c : FileC) : FileC := ⟨c.bytes.take (c.sure + min keep (c.bytes.length - c.sure)), c.sure + min keep (c.bytes.length - c.sure)⟩

structure DirAt (w : World) (F : Nat → Prop) (m : Nat) (D : Dir) (file : Nat → FileC) (val : Nat → Value) : Prop where
  own : OwnD w m 64 D
  fm : F m
  ok : DirOK D
  files : ∀ k f, look D k = some f → FileAt w F f (file f) (val f)
  apart : ∀ k k' f g, look D k = some f → look D k' = some g → f ≠ g → ∀ r, (val f).ownBlock = some r → (val g).ownBlock ≠ some r
  inj : ∀ k k' f, look D k = some f → look D k' = some f → k = k'
  lt : ∀ i, F i → i < w.heap.size

theorem FileAt.mono {w : World} {F F' : Nat → Prop} {f : Nat} {c : FileC} {v : Value} (h : FileAt w F f c v) (hF : ∀ i, F i → F' i) : FileAt w F' f c v := ⟨hF _ h.mem, h.cells, h.own, fun r hr => hF r (h.row r hr), h.sure, h.max⟩
theorem DirAt.keep {w w' : World} {F F' : Nat → Prop} {m : Nat} {D : Dir} {file : Nat → FileC} {val : Nat → Value} (h : DirAt w F m D file val) (hF : ∀ i, F i → F' i) (hlt : ∀ i, F' i → i < w'.heap.size) (hs : ∀ i, F i → w'.heap[i]? = w.heap[i]?) : DirAt w' F' m D file val :=
  ⟨h.own.at_ (hs m h.fm), hF _ h.fm, h.ok, fun k f hk => ((h.files k f hk).keep hs).mono hF, h.apart, h.inj, hlt⟩
theorem dir_new {w : World} {F : Nat → Prop} {m : Nat} (h : OwnD w m 64 (.map [])) (hm : F m) (hlt : ∀ i, F i → i < w.heap.size) (file : Nat → FileC) (val : Nat → Value) : DirAt w F m (.map []) file val :=
  ⟨h, hm, fun e he => (by cases he), fun k f hk => (by cases hk), fun k k' f g hk => (by cases hk), fun k k' f hk => (by cases hk), hlt⟩
theorem dir_put {w w' : World} {F F' : Nat → Prop} {m : Nat} {D : Dir} {file : Nat → FileC} {val : Nat → Value} (h : DirAt w F m D file val) (hF : ∀ i, F i → F' i) (hlt : ∀ i, F' i → i < w'.heap.size) (hs : ∀ i, F i → i ≠ m → w'.heap[i]? = w.heap[i]?)
    {k : List UInt8} {b : Nat} {c : FileC} {v : Value} (ho : OwnD w' m 65 (D.put (.string k) (.lit (.int .u64 (b : Int))))) (hA : FileAt w' F' b c v) (hb : w.heap.size ≤ b) (hr : ∀ r, v.ownBlock = some r → w.heap.size ≤ r) (hk : look D k = none) (hz : Maps.size D < 64) :
    DirAt w' F' m (D.put (.string k) (.lit (.int .u64 (b : Int)))) (upd file b c) (upd val b v) := by
  have hM : IsMap D := World.ownsMap.isMap h.own
  have hT : Tidy D := World.ownsMap.tidy h.own keyLaw
  have hlk : ∀ x g, look (D.put (.string k) (.lit (.int .u64 (b : Int)))) x = some g → (x = k ∧ g = b) ∨ (x ≠ k ∧ g ≠ b ∧ look D x = some g) := fun x g hh => by
    rw [look_put D hM] at hh
    by_cases e : x = k
    · rw [if_pos e] at hh; injection hh with hh; exact .inl ⟨e, hh.symm⟩
    · rw [if_neg e] at hh
      exact .inr ⟨e, fun e2 => by have := h.lt g (h.files x g hh).mem; omega, hh⟩
  have nm : ∀ x f, look D x = some f → f ≠ m ∧ ∀ r, (val f).ownBlock = some r → r ≠ m := fun x f hf => by
    have H := h.files x f hf
    obtain ⟨es, clock, hb, _⟩ := h.own
    refine ⟨fun e => ?_, fun r hr e => ?_⟩
    · subst e; rw [H.cells] at hb; cases hb
    · subst e
      rcases H.own.2 with ⟨hv, _⟩ | ⟨g, cap, cur, hv, _, hh, _⟩
      · rw [hv] at hr; cases hr
      · rw [hv] at hr; injection hr with hr
        have hr : g = r := hr
        subst hr; rw [hh] at hb; cases hb
  refine ⟨OwnD.less ho (by have := size_put_le hT k b; omega), hF _ h.fm, dirOK_put h.ok k b, ?_, ?_, ?_, hlt⟩
  · intro x f hf
    rcases hlk x f hf with ⟨_, rfl⟩ | ⟨_, hne, hf⟩
    · rw [upd_same, upd_same]; exact hA
    · rw [upd_other _ _ hne, upd_other _ _ hne]
      have H := h.files x f hf
      refine ⟨hF _ H.mem, (hs f H.mem (nm x f hf).1).trans H.cells, ?_, fun r hr => hF r (H.row r hr), H.sure, H.max⟩
      obtain ⟨a1, a2⟩ := H.own
      refine ⟨a1, ?_⟩
      rcases a2 with a2 | ⟨g, cap, cur, hv, hg, hh, r⟩
      · exact .inl a2
      · have hr : (val f).ownBlock = some g := by rw [hv]; rfl
        exact .inr ⟨g, cap, cur, hv, hg, (hs g (H.row g hr) ((nm x f hf).2 g hr)).trans hh, r⟩
  · intro x y f g hf hg hfg r hrf hrg
    rcases hlk x f hf with ⟨_, ef⟩ | ⟨_, hne, hf2⟩ <;> rcases hlk y g hg with ⟨_, eg⟩ | ⟨_, hne2, hg2⟩
    · exact hfg (ef.trans eg.symm)
    · rw [ef, upd_same] at hrf; rw [upd_other _ _ hne2] at hrg
      have := h.lt r ((h.files y g hg2).row r hrg)
      have := hr r hrf
      omega
    · rw [eg, upd_same] at hrg; rw [upd_other _ _ hne] at hrf
      have := h.lt r ((h.files x f hf2).row r hrf)
      have := hr r hrg
      omega
    · rw [upd_other _ _ hne] at hrf; rw [upd_other _ _ hne2] at hrg
      exact h.apart x y f g hf2 hg2 hfg r hrf hrg
  · intro x y f hf hg
    rcases hlk x f hf with ⟨ex, ef⟩ | ⟨_, hne, hf2⟩ <;> rcases hlk y f hg with ⟨ey, eg⟩ | ⟨_, hne2, hg2⟩
    · exact ex.trans ey.symm
    · exact absurd ef hne2
    · exact absurd eg hne
    · exact h.inj x y f hf2 hg2

set_option maxHeartbeats 2000000 in
theorem fileFailed_ok {w : World} {F : Nat → Prop} {f : Nat} {c : FileC} {v : Value} (h : FileAt w F f c v) (keep : Nat) (hk : keep ≤ 9223372036854775807) :
    Calls Try.prog 58 #[.pointer (some ⟨f, 0, none⟩), .int .i64 (keep : Int)] w fun x w' => ∃ b u, x = .returned (.pointer (some ⟨b, 0, none⟩)) ∧ w.heap.size ≤ b ∧ FileAt w' (since w w') b (cutC keep c) u ∧ Below w.heap.size w w' := by
  have f0 := h.f0
  have f1 := h.f1
  obtain ⟨A0, cp, hv0, hnc, hcm, _⟩ := own_shape h.own
  rw [hv0] at f1
  have hmx := h.max
  have hsu := h.sure
  have hown := h.own
  rw [hv0] at hown
  have HL := Lies.of_own hown
  obtain ⟨lb, su⟩ := c
  dsimp only at f0 f1 hnc hmx hsu HL
  obtain ⟨n, hn⟩ : ∃ n, lb.length = n := ⟨_, rfl⟩
  rw [hn] at f1 hnc hmx hsu HL
  obtain ⟨mm, hmm⟩ : ∃ mm, su + min keep (n - su) = mm := ⟨_, rfl⟩
  have hle : mm ≤ n := by omega
  have HCl := Lib.hid fun W hW => clone_lies A0 mm n cp w.heap.size lb W (HL.below hW) hle (by omega)
  have hI : (su : Int) + min (keep : Int) ((n : Int) - (su : Int)) = (mm : Int) := by omega
  have HI := Lib.hid hI
  have HC : Hid (cutC keep ⟨lb, su⟩ = ⟨lb.take mm, mm⟩) := by unfold Hid cutC; dsimp only; rw [hn, hmm]
  have hlt : (lb.take mm).length = mm := by rw [List.length_take]; omega
  have HLT := Lib.hid hlt
  clear h hv0 hown HL hcm hmm hI hlt
  go_enter Try.func58, Try.ntmps58
  go_wp2
  go_quiet (fail)
  go_wp2_with fail
  simp only [HI.out, Int.toNat_natCast]
  refine (HCl.out _ (by exact below_any rfl rfl rfl rfl)).mono ?_
  rintro x w5 ⟨u, rfl, ho, hb⟩
  obtain ⟨A1, c1, hu, _⟩ := own_shape ho
  have hbw : Below w.heap.size w w5 := (below_q w nq).trans hb
  have HR : Hid (∃ b u', Ending.returned (.pointer (some ⟨w5.heap.size, 0, none⟩)) = .returned (.pointer (some ⟨b, 0, none⟩)) ∧ w.heap.size ≤ b ∧ FileAt (w5.alloc (.cells #[.int .i64 (mm : Int), .slice A1 mm c1] 82)) (since w (w5.alloc (.cells #[.int .i64 (mm : Int), .slice A1 mm c1] 82))) b (cutC keep ⟨lb, su⟩) u' ∧ Below w.heap.size w (w5.alloc (.cells #[.int .i64 (mm : Int), .slice A1 mm c1] 82))) := by
    have hs := alloc_size w5 (.cells #[.int .i64 (mm : Int), .slice A1 mm c1] 82)
    have hsz := hbw.size
    refine ⟨_, .slice A1 mm c1, rfl, hsz, ?_, below_a hbw _⟩
    rw [HC.out]
    have ho2 : w5.ownsRow w.heap.size 5 1 (.slice A1 mm c1) mm ((lb.take mm).map bv) := by rw [← hu]; exact ho
    refine ⟨⟨hsz, by omega⟩, heap_alloc_new w5 _, ?_, ?_, by show mm ≤ (lb.take mm).length; rw [HLT.out]; exact Nat.le_refl _, by show (lb.take mm).length ≤ 1048576; rw [HLT.out]; omega⟩
    · show World.ownsRow _ 0 5 1 (.slice A1 mm c1) (lb.take mm).length ((lb.take mm).map bv)
      rw [HLT.out]; exact own_base (World.ownsRow.alloc ho2 _) (Nat.zero_le _)
    · intro r hr
      have := ho2.lt r hr
      exact ⟨this.1, by omega⟩
  clear ho hb hbw
  subst hu
  go_wp2
  go_ret
  exact HR.out
end Go.Proofs.Ytbpdonnneleeeaa
