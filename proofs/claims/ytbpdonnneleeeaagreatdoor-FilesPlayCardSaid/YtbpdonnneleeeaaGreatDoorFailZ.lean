/-
  What a crash leaves of a file; a directory that is being filled with what is left.
  What a crash leaves of a directory; Fail.
  Fail of package files.
-/
import Derived.Test.YtbpdonnneleeeaaGreatDoorOpsZ
import Derived.Deep.RegionHeld3
namespace Go.Proofs.YtbpdonnneleeeaaGreatDoor
open Go.RowKit Go.Maps Go.Sort
open Go.WideShapes (insert_perm)
set_option maxRecDepth 100000
set_option linter.unusedVariables false
set_option linter.unusedSectionVars false

/-- what a crash leaves of a file -/
def cutC (keep : Nat) (c : FileC) : FileC := ⟨c.bytes.take (c.sure + min keep (c.bytes.length - c.sure)), c.sure + min keep (c.bytes.length - c.sure)⟩

structure DirAt (w : World) (F : Nat → Prop) (m : Nat) (D : Dir) (file : Nat → FileC) (val : Nat → Value) : Prop where
  own : OwnD w m 64 D
  fm : F m
  ok : DirOK D
  files : ∀ k f, look D k = some f → FileAt w F f (file f) (val f)
  apart : ∀ k k' f g, look D k = some f → look D k' = some g → f ≠ g → ∀ r, (val f).ownBlock = some r → (val g).ownBlock ≠ some r
  inj : ∀ k k' f, look D k = some f → look D k' = some f → k = k'
  lt : ∀ i, F i → i < w.heap.size

theorem FileAt.mono {w : World} {F F' : Nat → Prop} {f : Nat} {c : FileC} {v : Value} (h : FileAt w F f c v) (hF : ∀ i, F i → F' i) : FileAt w F' f c v := ⟨hF _ h.mem, h.cells, h.own, fun r hr => hF r (h.row r hr), h.sure, h.max⟩
theorem DirAt.keep {w w' : World} {F F' : Nat → Prop} {m : Nat} {D : Dir} {file : Nat → FileC} {val : Nat → Value} (h : DirAt w F m D file val) (hF : ∀ i, F i → F' i) (hlt : ∀ i, F' i → i < w'.heap.size) (hs : ∀ i, F i → w'.heap[i]? = w.heap[i]?) : DirAt w' F' m D file val :=
  ⟨h.own.at_ (hs m h.fm), hF _ h.fm, h.ok, fun k f hk => ((h.files k f hk).keep hs).mono hF, h.apart, h.inj, hlt⟩
theorem dir_new {w : World} {F : Nat → Prop} {m : Nat} (h : OwnD w m 64 (.map [])) (hm : F m) (hlt : ∀ i, F i → i < w.heap.size) (file : Nat → FileC) (val : Nat → Value) : DirAt w F m (.map []) file val :=
  ⟨h, hm, fun e he => (by cases he), fun k f hk => (by cases hk), fun k k' f g hk => (by cases hk), fun k k' f hk => (by cases hk), hlt⟩
theorem dir_put {w w' : World} {F F' : Nat → Prop} {m : Nat} {D : Dir} {file : Nat → FileC} {val : Nat → Value} (h : DirAt w F m D file val) (hF : ∀ i, F i → F' i) (hlt : ∀ i, F' i → i < w'.heap.size) (hs : ∀ i, F i → i ≠ m → w'.heap[i]? = w.heap[i]?)
    {k : List UInt8} {b : Nat} {c : FileC} {v : Value} (ho : OwnD w' m 65 (D.put (.string k) (.lit (.int .u64 (b : Int))))) (hA : FileAt w' F' b c v) (hb : w.heap.size ≤ b) (hr : ∀ r, v.ownBlock = some r → w.heap.size ≤ r) (hk : look D k = none) (hz : Maps.size D < 64) :
    DirAt w' F' m (D.put (.string k) (.lit (.int .u64 (b : Int)))) (upd file b c) (upd val b v) := by
  have hM : IsMap D := World.ownsMap.isMap h.own
  have hT : Tidy D := World.ownsMap.tidy h.own keyLaw
  have hlk : ∀ x g, look (D.put (.string k) (.lit (.int .u64 (b : Int)))) x = some g → (x = k ∧ g = b) ∨ (x ≠ k ∧ g ≠ b ∧ look D x = some g) := fun x g hh => by
    rw [look_put D hM] at hh
    by_cases e : x = k
    · rw [if_pos e] at hh; injection hh with hh; exact .inl ⟨e, hh.symm⟩
    · rw [if_neg e] at hh
      exact .inr ⟨e, fun e2 => by have := h.lt g (h.files x g hh).mem; omega, hh⟩
  have nm : ∀ x f, look D x = some f → f ≠ m ∧ ∀ r, (val f).ownBlock = some r → r ≠ m := fun x f hf => by
    have H := h.files x f hf
    obtain ⟨es, clock, hb, _⟩ := h.own
    refine ⟨fun e => ?_, fun r hr e => ?_⟩
    · subst e; rw [H.cells] at hb; cases hb
    · subst e
      rcases H.own.2 with ⟨hv, _⟩ | ⟨g, cap, cur, hv, _, hh, _⟩
      · rw [hv] at hr; cases hr
      · rw [hv] at hr; injection hr with hr
        have hr : g = r := hr
        subst hr; rw [hh] at hb; cases hb
  refine ⟨OwnD.less ho (by have := size_put_le hT k b; omega), hF _ h.fm, dirOK_put h.ok k b, ?_, ?_, ?_, hlt⟩
  · intro x f hf
    rcases hlk x f hf with ⟨_, rfl⟩ | ⟨_, hne, hf⟩
    · rw [upd_same, upd_same]; exact hA
    · rw [upd_other _ _ hne, upd_other _ _ hne]
      have H := h.files x f hf
      refine ⟨hF _ H.mem, (hs f H.mem (nm x f hf).1).trans H.cells, ?_, fun r hr => hF r (H.row r hr), H.sure, H.max⟩
      obtain ⟨a1, a2⟩ := H.own
      refine ⟨a1, ?_⟩
      rcases a2 with a2 | ⟨g, cap, cur, hv, hg, hh, r⟩
      · exact .inl a2
      · have hr : (val f).ownBlock = some g := by rw [hv]; rfl
        exact .inr ⟨g, cap, cur, hv, hg, (hs g (H.row g hr) ((nm x f hf).2 g hr)).trans hh, r⟩
  · intro x y f g hf hg hfg r hrf hrg
    rcases hlk x f hf with ⟨_, ef⟩ | ⟨_, hne, hf2⟩ <;> rcases hlk y g hg with ⟨_, eg⟩ | ⟨_, hne2, hg2⟩
    · exact hfg (ef.trans eg.symm)
    · rw [ef, upd_same] at hrf; rw [upd_other _ _ hne2] at hrg
      have := h.lt r ((h.files y g hg2).row r hrg)
      have := hr r hrf
      omega
    · rw [eg, upd_same] at hrg; rw [upd_other _ _ hne] at hrf
      have := h.lt r ((h.files x f hf2).row r hrf)
      have := hr r hrg
      omega
    · rw [upd_other _ _ hne] at hrf; rw [upd_other _ _ hne2] at hrg
      exact h.apart x y f g hf2 hg2 hfg r hrf hrg
  · intro x y f hf hg
    rcases hlk x f hf with ⟨ex, ef⟩ | ⟨_, hne, hf2⟩ <;> rcases hlk y f hg with ⟨ey, eg⟩ | ⟨_, hne2, hg2⟩
    · exact ex.trans ey.symm
    · exact absurd ef hne2
    · exact absurd eg hne
    · exact h.inj x y f hf2 hg2

set_option maxHeartbeats 2000000 in
theorem fileFailed_ok {w : World} {F : Nat → Prop} {f : Nat} {c : FileC} {v : Value} (h : FileAt w F f c v) (keep : Nat) (hk : keep ≤ 9223372036854775807) :
    Calls Tryz.prog 116 #[.pointer (some ⟨f, 0, none⟩), .int .i64 (keep : Int)] w fun x w' => ∃ b u, x = .returned (.pointer (some ⟨b, 0, none⟩)) ∧ w.heap.size ≤ b ∧ FileAt w' (since w w') b (cutC keep c) u ∧ Below w.heap.size w w' := by
  have f0 := h.f0
  have f1 := h.f1
  obtain ⟨A0, cp, hv0, hnc, hcm, _⟩ := own_shape h.own
  rw [hv0] at f1
  have hmx := h.max
  have hsu := h.sure
  have hown := h.own
  rw [hv0] at hown
  have HL := Lies.of_own hown
  obtain ⟨lb, su⟩ := c
  dsimp only at f0 f1 hnc hmx hsu HL
  obtain ⟨n, hn⟩ : ∃ n, lb.length = n := ⟨_, rfl⟩
  rw [hn] at f1 hnc hmx hsu HL
  obtain ⟨mm, hmm⟩ : ∃ mm, su + min keep (n - su) = mm := ⟨_, rfl⟩
  have hle : mm ≤ n := by omega
  have HCl := Lib.hid fun W hW => clone_lies A0 mm n cp w.heap.size lb W (HL.below hW) hle (by omega)
  have hI : (su : Int) + min (keep : Int) ((n : Int) - (su : Int)) = (mm : Int) := by omega
  have HI := Lib.hid hI
  have HC : Hid (cutC keep ⟨lb, su⟩ = ⟨lb.take mm, mm⟩) := by unfold Hid cutC; dsimp only; rw [hn, hmm]
  have hlt : (lb.take mm).length = mm := by rw [List.length_take]; omega
  have HLT := Lib.hid hlt
  clear h hv0 hown HL hcm hmm hI hlt
  go_enter Tryz.func116, Tryz.ntmps116
  go_wp2
  go_quiet (fail)
  go_wp2_with fail
  simp only [HI.out, Int.toNat_natCast]
  refine (HCl.out _ (by exact below_any rfl rfl rfl rfl)).mono ?_
  rintro x w5 ⟨u, rfl, ho, hb⟩
  obtain ⟨A1, c1, hu, _⟩ := own_shape ho
  have hbw : Below w.heap.size w w5 := (below_q w nq).trans hb
  have HR : Hid (∃ b u', Ending.returned (.pointer (some ⟨w5.heap.size, 0, none⟩)) = .returned (.pointer (some ⟨b, 0, none⟩)) ∧ w.heap.size ≤ b ∧ FileAt (w5.alloc (.cells #[.int .i64 (mm : Int), .slice A1 mm c1] 98)) (since w (w5.alloc (.cells #[.int .i64 (mm : Int), .slice A1 mm c1] 98))) b (cutC keep ⟨lb, su⟩) u' ∧ Below w.heap.size w (w5.alloc (.cells #[.int .i64 (mm : Int), .slice A1 mm c1] 98))) := by
    have hs := alloc_size w5 (.cells #[.int .i64 (mm : Int), .slice A1 mm c1] 98)
    have hsz := hbw.size
    refine ⟨_, .slice A1 mm c1, rfl, hsz, ?_, below_a hbw _⟩
    rw [HC.out]
    have ho2 : w5.ownsRow w.heap.size 5 1 (.slice A1 mm c1) mm ((lb.take mm).map bv) := by rw [← hu]; exact ho
    refine ⟨⟨hsz, by omega⟩, heap_alloc_new w5 _, ?_, ?_, by show mm ≤ (lb.take mm).length; rw [HLT.out]; exact Nat.le_refl _, by show (lb.take mm).length ≤ 1048576; rw [HLT.out]; omega⟩
    · show World.ownsRow _ 0 5 1 (.slice A1 mm c1) (lb.take mm).length ((lb.take mm).map bv)
      rw [HLT.out]; exact own_base (World.ownsRow.alloc ho2 _) (Nat.zero_le _)
    · intro r hr
      have := ho2.lt r hr
      exact ⟨this.1, by omega⟩
  clear ho hb hbw
  subst hu
  go_wp2
  go_ret
  exact HR.out
end Go.Proofs.YtbpdonnneleeeaaGreatDoor

namespace Go.Proofs.YtbpdonnneleeeaaGreatDoor
open Go.RowKit Go.Maps Go.Sort
set_option maxRecDepth 100000
set_option linter.unusedVariables false
set_option linter.unusedSectionVars false

/-- of each name of D that has come, what is left of its file -/
def CutOf (S : St) (D : Dir) (keep : Nat) (left : Lit → Bool) (Dout : Dir) (file : Nat → FileC) : Prop :=
  ∀ k, (look D k = none ∨ left (.string k) = true → look Dout k = none) ∧ ∀ f, look D k = some f → left (.string k) = false → ∃ b, look Dout k = some b ∧ file b = cutC keep (S.file f)
/-- the memory of the new directory -/
def gath (w wr : World) (i : Nat) : Prop := w.heap.size ≤ i ∧ i < wr.heap.size ∧ i ≠ w.heap.size + 1

def DRel (w : World) (S : St) (D : Dir) (m keep : Nat) (wr : World) : Prop :=
  ∃ left cnt Dout file val, wr.ranges Tryz.prog 9 pE m (w.heap.size + 1) 64 D left cnt ∧ DirAt wr (gath w wr) w.heap.size Dout file val ∧ Below w.heap.size w wr ∧ CutOf S D keep left Dout file ∧ cnt + Maps.size Dout ≤ 64

theorem cut_start (S : St) (D : Dir) (keep : Nat) (file : Nat → FileC) : CutOf S D keep (Maps.has D) (.map []) file := fun k => ⟨fun _ => rfl, fun f hf hl => by rw [has_look hf] at hl; cases hl⟩
theorem cut_step {S : St} {D : Dir} {keep : Nat} {left : Lit → Bool} {Dout : Dir} {file : Nat → FileC} (h : CutOf S D keep left Dout file) (hM : IsMap Dout) {k : List UInt8} {f b : Nat} (hk : look D k = some f) (hnew : ∀ x g, look Dout x = some g → g ≠ b) :
    CutOf S D keep (fun x => left x && !x.sameKey (.string k)) (Dout.put (.string k) (.lit (.int .u64 (b : Int)))) (upd file b (cutC keep (S.file f))) := by
  intro x
  rw [look_put Dout hM]
  by_cases e : x = k
  · subst e
    rw [if_pos rfl]
    have hs : (Lit.string x).sameKey (.string x) = true := WideAt.sameKey_self (isKey x)
    refine ⟨fun hh => ?_, fun g hg _ => ⟨b, rfl, ?_⟩⟩
    · rcases hh with hh | hh
      · rw [hk] at hh; cases hh
      · simp [hs] at hh
    · rw [hk] at hg; injection hg with hg; rw [← hg, upd_same]
  · rw [if_neg e]
    have hs : (Lit.string x).sameKey (.string k) = false := sameKey_ne (fun hh => e (by injection hh))
    refine ⟨fun hh => (h x).1 ?_, fun g hg hl => ?_⟩
    · rcases hh with hh | hh
      · exact .inl hh
      · simp [hs] at hh; exact .inr hh
    · simp [hs] at hl
      obtain ⟨c, hc, hfc⟩ := (h x).2 g hg hl
      exact ⟨c, hc, by rw [upd_other _ _ (hnew x c hc)]; exact hfc⟩

set_option maxHeartbeats 4000000 in
theorem dirFailed_ok {w : World} {F : Nat → Prop} {d pm dm : Nat} {S : St} {val : Nat → Value} (h : DiskAt w F d pm dm S val) (D : Dir) (m keep : Nat) (hm : OwnD w m 64 D) (hOK : DirOK D) (hl : ∀ k f, look D k = some f → S.live f) (hFm : F m) (hk : keep ≤ 9223372036854775807) :
    Calls Tryz.prog 59 #[.map (some m), .int .i64 (keep : Int)] w fun x w' => ∃ Dout file val', x = .returned (.map (some w.heap.size)) ∧ DirAt w' (gath w w') w.heap.size Dout file val' ∧ Below w.heap.size w w' ∧ CutOf S D keep (fun _ => false) Dout file := by
  have hmm := @run_makeMap Tryz.prog
  have HD := Lib.hid h; have HOK := Lib.hid hOK; have HLv := Lib.hid hl; have HM := Lib.hid hm
  have hmlt := h.lt m hFm
  have HFm := Lib.hid hFm
  have hs1 := alloc_size w (.map #[] 0)
  have O1 : OwnD (w.alloc (.map #[] 0)) m 64 D := World.ownsMap.alloc hm _
  have HO1 := Lib.hid O1
  clear h hOK hl hm hFm O1
  go_enter Tryz.func59, Tryz.ntmps59
  go_wp2_with (at_range; refine wpList_range_own _ rfl _ 83 rfl 9 94 keyLaw Tryz.underlying83 pE m 64 D rfl HO1.out ?_; intro w0 hrg0 hg0 hs0)
  go_frame
  have R1 : DRel w S D m keep w0 := by
    have e1 : (w.alloc (.map #[] 0)).heap.size = w.heap.size + 1 := hs1.symm
    rw [e1] at hrg0
    have hB0 : Below w.heap.size w w0 := (below_a (Below.refl _ w) (.map #[] 0)).trans ⟨hg0.os, hg0.tape, hg0.output, hg0.size, fun i hi => hg0.block i (by omega) (by simp)⟩
    have ho : OwnD w0 w.heap.size 64 (.map []) := ((World.ownsMap_made w Tryz.prog 9 pE).kept hg0 (by simp)).mono (by omega)
    refine ⟨_, _, .map [], fun _ => ⟨[], 0⟩, fun _ => .slice none 0 0, hrg0, dir_new ho ⟨Nat.le_refl _, by omega, by omega⟩ (fun i hi => hi.2.1) _ _, hB0, cut_start S D keep _, ?_⟩
    have := OwnD.size_le HM.out
    show Maps.size D + 0 ≤ 64
    omega
  have R0 := Lib.hid R1
  have HK := Lib.hid hk
  clear R1 hrg0 hg0 hs0 hk
  rw [← hs1]
  clear hs1
  go_loopw [6, 7] (fun _ _ wr => DRel w S D m keep wr) (fun _ _ wr => wr.rangeLeft m (w.heap.size + 1))
  case atStart => exact R0.out
  case round =>
    clear R0
    obtain ⟨left, cnt, Dout, file, val', hrg, hdir, hb, hcut, hcs⟩ := hrel
    have HB := Lib.hid hb; have HDir := Lib.hid hdir; have HCut := Lib.hid hcut; have HCs := Lib.hid hcs
    clear hb hdir hcut hcs
    go_wp2_with (at_next; refine wpList_next_ranges _ rfl _ rfl 9 keyLaw pE (Value.string) ptrOf (fun key kl hk => by obtain ⟨x, hx, _⟩ := Maps.keyOf_str Tryz.underlying9 hk; exact ⟨_, hx⟩) (fun v y hv => ⟨blk y.1, pE_blk hv⟩) m (w.heap.size + 1) 64 _ _ _ rfl hrg ?_ ?_)
    · intro hc0 hl0
      have hl0 := Lib.hid hl0
      clear hrg hc0
      go_wp2
      go_ret
      exact ⟨Dout, file, val', rfl, HDir.out, HB.out, by have : left = fun _ => false := funext hl0.out; rw [← this]; exact HCut.out⟩
    · intro x c kl yd yp w1 cnt1 hkey hlx hvy hat hrg1 hlt hg1 hs1' hen
      obtain ⟨k, f, rfl, hy, hlk⟩ := ent_of_at HOK.out hat
      have hcb : c = some f := by
        have := pE_blk hvy
        rw [hy] at this
        exact ptrOf_inj this
      subst hcb
      have hB1 : Below w.heap.size w w1 := HB.out.grown hg1 HB.out.size (fun r e => by injection e with e; omega)
      have hFA := (HD.out.files f (HLv.out k f hlk)).keep (fun i hi => hB1.block i (HD.out.lt i hi))
      have hD1 : DirAt w1 (gath w w1) w.heap.size Dout file val' := HDir.out.keep (fun i hi => ⟨hi.1, by have := hi.2.1; omega, hi.2.2⟩) (fun i hi => hi.2.1) (fun i hi => hg1.block i hi.2.1 (fun e => hi.2.2 (by injection e)))
      have hnew : ∀ x g, look Dout x = some g → g < w1.heap.size := fun x g hg => hD1.lt g (hD1.files x g hg).mem
      have hno : look Dout k = none := (HCut.out k).1 (.inr hlx)
      have HFA := Lib.hid hFA; have HD1 := Lib.hid hD1; have HN := Lib.hid hnew; have HNo := Lib.hid hno; have HB1 := Lib.hid hB1; have HKey := Lib.hid hkey; have HLk := Lib.hid hlk
      have HRg := Lib.hid hrg1; have HLe := Lib.hid hrg.left_eq; have HLt := Lib.hid hlt
      clear hFA hD1 hnew hno hB1 hkey hlk hat hvy hlx hy hg1 hs1' hrg hrg1 hlt
      have HML := Lib.hid hmlt
      clear hmm hmlt
      simp only [ptrOf] at hen ⊢
      go_wp2_with fail
      refine (fileFailed_ok HFA.out keep HK.out).mono ?_
      rintro e w2 ⟨b, u, rfl, hbs, hfa, hb2⟩
      have HO2 : Hid (OwnD w2 w.heap.size 64 Dout) := HD1.out.own.at_ (hb2.block _ (HD1.out.lt _ HD1.out.fm))
      have HBS := Lib.hid hbs; have HF2 := Lib.hid hfa; have HB2 := Lib.hid hb2
      clear hbs hfa hb2 hen
      go_wp2_with (at_mapUpdate; refine wpList_mapUpdate_own _ rfl _ _ _ 83 rfl 9 94 keyLaw Tryz.underlying83 pE w.heap.size 64 Dout rfl HO2.out (by decide) _ _ (.string k) rfl rfl HKey.out (.lit (.int .u64 (b : Int))) [] rfl ?_; intro w3 hown3 hg3)
      have HX : Hid (DRel w S D m keep w3 ∧ w3.rangeLeft m (w.heap.size + 1) < wr.rangeLeft m (w.heap.size + 1)) := by
        have hmlt := HML.out
        have hs2 := HB2.out.size
        have hs3 := hg3.size
        have h1 := HB1.out.size
        have hr1 := HRg.out.lt
        have hmm1 : m ≠ w.heap.size := by omega
        have hg2 : w1.grownBy w2 none := ⟨HB2.out.os, HB2.out.tape, HB2.out.output, hs2, fun i hi _ => HB2.out.block i hi⟩
        have hrg3 := (HRg.out.kept hg2 (by simp) (by simp)).kept hg3 (fun e => hmm1 (by injection e)) (fun e => by injection e with e; omega)
        have hbs := HBS.out
        have hz := HCs.out
        have hle := HLt.out
        have hA : FileAt w3 (gath w w3) b (cutC keep (S.file f)) u :=
          (HF2.out.keep (w' := w3) (fun i hi => hg3.block i hi.2 (fun e => by injection e with e; have := hi.1; omega))).mono (fun i hi => ⟨by have := hi.1; omega, by have := hi.2; omega, by have := hi.1; omega⟩)
        have hdir3 := dir_put HD1.out (w' := w3) (F' := gath w w3) (fun i hi => ⟨hi.1, by have := hi.2.1; omega, hi.2.2⟩) (fun i hi => hi.2.1)
          (fun i hi hne => (hg3.block i (by have := hi.2.1; omega) (fun e => hne (by injection e))).trans (HB2.out.block i hi.2.1)) hown3 hA hbs (fun r hr => (HF2.out.row r hr).1) HNo.out (by omega)
        have hT : Tidy Dout := World.ownsMap.tidy HD1.out.own keyLaw
        have hps := size_put_le hT k b
        refine ⟨⟨_, cnt1, _, _, _, hrg3, hdir3, (HB1.out.trans (HB2.out.mono h1)).grown hg3 (by omega) (fun r e => by injection e with e; omega), cut_step HCut.out hT.isMap HLk.out (fun x g hg => by have := HN.out x g hg; omega), by omega⟩, ?_⟩
        rw [hrg3.left_eq, HLe.out]; exact hle
      clear hown3 hg3
      go_frame
      exact ⟨⟨_, _, _, _, _, _, _, _, _, _, _, _, HX.out.1, rfl⟩, HX.out.2⟩
end Go.Proofs.YtbpdonnneleeeaaGreatDoor

namespace Go.Proofs.YtbpdonnneleeeaaGreatDoor
open Go.RowKit Go.Maps Go.Sort
set_option maxRecDepth 100000
set_option linter.unusedVariables false
set_option linter.unusedSectionVars false

/-- S' is what a crash leaves of the disk S, with the names of D -/
def FailSpec (S : St) (D : Dir) (keep : Nat) (S' : St) : Prop :=
  S'.size = S.size ∧ S'.dur = S'.pres ∧ ∀ k, (look D k = none → look S'.pres k = none) ∧ ∀ f, look D k = some f → ∃ b, look S'.pres k = some b ∧ S'.file b = cutC keep (S.file f)

/-- a disk of two directories that are one, over the files of a directory -/
theorem disk_of_dir {w : World} {F : Nat → Prop} {m m' d : Nat} {D : Dir} {file : Nat → FileC} {val : Nat → Value} {n : Nat} (h : DirAt w F m D file val) (hne : m ≠ m') (hm : OwnD w m' 64 D) (hF : F m') (hd : F d)
    (hbox : w.heap[d]? = some (.cells #[.int .i64 (n : Int), .map (some m), .map (some m')] 85 (0, 0))) (h1 : 1 ≤ n) (h2 : n ≤ 8388608) : DiskAt w F d m m' ⟨n, D, D, file⟩ val := by
  have hlive : ∀ f, St.live ⟨n, D, D, file⟩ f → ∃ k, look D k = some f := by
    rintro f (⟨k, hk⟩ | ⟨k, hk⟩) <;> exact ⟨k, hk⟩
  refine ⟨hbox, hd, h.fm, hF, hne, h.own, hm, h.ok, h.ok, fun f hf => ?_, fun f g hf hg => ?_, h.inj, h1, h2, h.lt⟩
  · obtain ⟨k, hk⟩ := hlive f hf; exact h.files k f hk
  · obtain ⟨k, hk⟩ := hlive f hf; obtain ⟨k', hk'⟩ := hlive g hg; exact h.apart k k' f g hk hk'

theorem fail_done {w w9 w10 w11 : World} {S : St} {D : Dir} {keep : Nat} {Dout : Dir} {file : Nat → FileC} {val' : Nat → Value} (h1 : 1 ≤ S.size) (h2 : S.size ≤ 8388608) (hB9 : Below w.heap.size w w9) (hdir : DirAt w10 (gath w9 w10) w9.heap.size Dout file val') (hB10 : Below w9.heap.size w9 w10)
    (hcut : CutOf S D keep (fun _ => false) Dout file) (ho : OwnD w11 w10.heap.size 64 Dout) (hB11 : Below w10.heap.size w10 w11) :
    ∃ d' S', Ending.returned (.tuple #[.pointer (some ⟨w11.heap.size, 0, none⟩), er 0]) = .returned (.tuple #[.pointer (some ⟨d', 0, none⟩), er 0]) ∧
      Below w.heap.size w (w11.alloc (.cells #[.int .i64 (S.size : Int), .map (some w9.heap.size), .map (some w10.heap.size)] 85)) ∧
      Disk (w11.alloc (.cells #[.int .i64 (S.size : Int), .map (some w9.heap.size), .map (some w10.heap.size)] 85)) (since w (w11.alloc (.cells #[.int .i64 (S.size : Int), .map (some w9.heap.size), .map (some w10.heap.size)] 85))) d' S' ∧ FailSpec S D keep S' := by
  have s9 := hB9.size
  have s10 := hB10.size
  have s11 := hB11.size
  have hlt11 := World.ownsMap.lt ho
  have hs := alloc_size w11 (.cells #[.int .i64 (S.size : Int), .map (some w9.heap.size), .map (some w10.heap.size)] 85)
  have hbox := heap_alloc_new w11 (.cells #[.int .i64 (S.size : Int), .map (some w9.heap.size), .map (some w10.heap.size)] 85)
  have hB : Below w.heap.size w w11 := (hB9.trans (hB10.mono s9)).trans (hB11.mono (by omega))
  have ho2 := World.ownsMap.alloc ho (.cells #[.int .i64 (S.size : Int), .map (some w9.heap.size), .map (some w10.heap.size)] 85)
  have hBf := below_a hB (.cells #[.int .i64 (S.size : Int), .map (some w9.heap.size), .map (some w10.heap.size)] 85)
  have hB12 := below_a hB11 (.cells #[.int .i64 (S.size : Int), .map (some w9.heap.size), .map (some w10.heap.size)] 85)
  generalize w11.alloc (.cells #[.int .i64 (S.size : Int), .map (some w9.heap.size), .map (some w10.heap.size)] 85) = W at *
  have hd2 : DirAt W (since w W) w9.heap.size Dout file val' := hdir.keep (fun i hi => ⟨by have := hi.1; omega, by have := hi.2.1; omega⟩) (fun i hi => hi.2) (fun i hi => hB12.block i hi.2.1)
  exact ⟨_, ⟨S.size, Dout, Dout, file⟩, rfl, hBf, ⟨_, _, _, disk_of_dir hd2 (by have := hdir.lt _ hdir.fm; omega) ho2 ⟨by omega, by omega⟩ ⟨by omega, by omega⟩ hbox h1 h2⟩, rfl, rfl, fun k => ⟨fun hk => (hcut k).1 (.inl hk), fun f hf => (hcut k).2 f hf rfl⟩⟩

set_option maxHeartbeats 4000000 in
theorem fail_ok_true {w : World} {F : Nat → Prop} {d pm dm : Nat} {S : St} {val : Nat → Value} (h : DiskAt w F d pm dm S val) (keep : Nat) (hk : keep ≤ 9223372036854775807) :
    Calls Tryz.prog 25 #[.pointer (some ⟨d, 0, none⟩), .int .i64 (keep : Int), .bool true] w fun x w' => ∃ d' S', x = .returned (.tuple #[.pointer (some ⟨d', 0, none⟩), er 0]) ∧ Below w.heap.size w w' ∧ Disk w' (since w w') d' S' ∧ FailSpec S S.pres keep S' := by
  have hmf := hmk
  have hn : argErr [decide ((0 : Int) ≤ (keep : Int))] = 0 := argErr_ok (by simp)
  have hf : firstErr [0, argErr [decide ((0 : Int) ≤ (keep : Int))]] = 0 := by rw [hn]; rfl
  have hD := h
  have HhD := Lib.hid hD; have Hhf := Lib.hid hf; have Hhk := Lib.hid hk
  clear hD hf hk
  clear h hn
  go_enter Tryz.func25, Tryz.ntmps25
  go_wp2_with fail
  refine (args_lits (w := w) rfl 1 _ _ [decide ((0 : Int) ≤ (keep : Int))] rfl (by decide)).mono ?_
  rintro x w3 ⟨q1, rfl, hb3, g1⟩
  have HB3 := Lib.hid hb3; have HG1 := Lib.hid g1
  clear hb3 g1
  go_wp2_with fail
  refine (first2 rfl _ _ (HhD.out.gives.below HB3.out) (fun _ => HG1.out)).mono ?_
  rintro x w9 ⟨rfl, hb9⟩
  rw [Hhf.out]
  have HB9 := Lib.hid (HB3.out.trans (hb9.mono HB3.out.size))
  clear hb9
  have D9 := HhD.out.below HB9.out
  have c0 := D9.c0
  have c1 := D9.c1
  have c2 := D9.c2
  have HFd := Lib.hid (dirFailed_ok D9 S.pres pm keep D9.pres D9.presOK (fun k f hh => .inl ⟨k, hh⟩) D9.fp Hhk.out)
  have HD9 := Lib.hid D9
  clear D9
  go_wp2_with fail
  refine HFd.out.mono ?_
  rintro x w10 ⟨Dout, file, val', rfl, hdir, hb10, hcut⟩
  have D10 := HD9.out.below hb10
  have e0 : w10.cell? ⟨d, 0, none⟩ = some (.int .i64 (S.size : Int)) := D10.c0
  have HDir := Lib.hid hdir; have HB10 := Lib.hid hb10; have HCut := Lib.hid hcut
  have HC := Lib.hid (mapsClone_owns 9 pE w9.heap.size 64 Dout w10.drew hdir.own.drew)
  have HE : Hid (∀ W, Below w10.heap.size w10 W → W.cell? ⟨d, 0, none⟩ = some (.int .i64 (S.size : Int))) := fun W hW => (D10.below hW).c0
  clear hdir hb10 hcut D10 c0 c1 c2 HFd
  go_wp2_with fail
  go_region_held3 (fun W => W.cell? ⟨d, 0, none⟩ = some (.int .i64 (S.size : Int))) (first | exact HE.out _ (by exact below_any rfl rfl rfl rfl) | exact HE.out _ hb11 | exact HE.out _ (below_a hb11 _))
    (first
     | (go_at_call 58; refine HC.out.mono ?_; rintro x w11 ⟨rfl, ho11, hm11, hb11'⟩; have hb11 : Below w10.heap.size w10 w11 := (below_q w10 1).trans hb11'))
  have HX := Lib.hid (fail_done HD9.out.lo HD9.out.hi HB9.out HDir.out HB10.out HCut.out ho11 hb11)
  clear ho11 hm11 hb11 hb11' HC HE e0
  go_wp2
  go_ret2
  exact HX.out
set_option maxHeartbeats 4000000 in
theorem fail_ok_false {w : World} {F : Nat → Prop} {d pm dm : Nat} {S : St} {val : Nat → Value} (h : DiskAt w F d pm dm S val) (keep : Nat) (hk : keep ≤ 9223372036854775807) :
    Calls Tryz.prog 25 #[.pointer (some ⟨d, 0, none⟩), .int .i64 (keep : Int), .bool false] w fun x w' => ∃ d' S', x = .returned (.tuple #[.pointer (some ⟨d', 0, none⟩), er 0]) ∧ Below w.heap.size w w' ∧ Disk w' (since w w') d' S' ∧ FailSpec S S.dur keep S' := by
  have hmf := hmk
  have hn : argErr [decide ((0 : Int) ≤ (keep : Int))] = 0 := argErr_ok (by simp)
  have hf : firstErr [0, argErr [decide ((0 : Int) ≤ (keep : Int))]] = 0 := by rw [hn]; rfl
  have hD := h
  have HhD := Lib.hid hD; have Hhf := Lib.hid hf; have Hhk := Lib.hid hk
  clear hD hf hk
  clear h hn
  go_enter Tryz.func25, Tryz.ntmps25
  go_wp2_with fail
  refine (args_lits (w := w) rfl 1 _ _ [decide ((0 : Int) ≤ (keep : Int))] rfl (by decide)).mono ?_
  rintro x w3 ⟨q1, rfl, hb3, g1⟩
  have HB3 := Lib.hid hb3; have HG1 := Lib.hid g1
  clear hb3 g1
  go_wp2_with fail
  refine (first2 rfl _ _ (HhD.out.gives.below HB3.out) (fun _ => HG1.out)).mono ?_
  rintro x w9 ⟨rfl, hb9⟩
  rw [Hhf.out]
  have HB9 := Lib.hid (HB3.out.trans (hb9.mono HB3.out.size))
  clear hb9
  have D9 := HhD.out.below HB9.out
  have c0 := D9.c0
  have c1 := D9.c1
  have c2 := D9.c2
  have HFd := Lib.hid (dirFailed_ok D9 S.dur dm keep D9.dur D9.durOK (fun k f hh => .inr ⟨k, hh⟩) D9.fm Hhk.out)
  have HD9 := Lib.hid D9
  clear D9
  go_wp2_with fail
  refine HFd.out.mono ?_
  rintro x w10 ⟨Dout, file, val', rfl, hdir, hb10, hcut⟩
  have D10 := HD9.out.below hb10
  have e0 : w10.cell? ⟨d, 0, none⟩ = some (.int .i64 (S.size : Int)) := D10.c0
  have HDir := Lib.hid hdir; have HB10 := Lib.hid hb10; have HCut := Lib.hid hcut
  have HC := Lib.hid (mapsClone_owns 9 pE w9.heap.size 64 Dout w10.drew hdir.own.drew)
  have HE : Hid (∀ W, Below w10.heap.size w10 W → W.cell? ⟨d, 0, none⟩ = some (.int .i64 (S.size : Int))) := fun W hW => (D10.below hW).c0
  clear hdir hb10 hcut D10 c0 c1 c2 HFd
  go_wp2_with fail
  go_region_held3 (fun W => W.cell? ⟨d, 0, none⟩ = some (.int .i64 (S.size : Int))) (first | exact HE.out _ (by exact below_any rfl rfl rfl rfl) | exact HE.out _ hb11 | exact HE.out _ (below_a hb11 _))
    (first
     | (go_at_call 58; refine HC.out.mono ?_; rintro x w11 ⟨rfl, ho11, hm11, hb11'⟩; have hb11 : Below w10.heap.size w10 w11 := (below_q w10 1).trans hb11'))
  have HX := Lib.hid (fail_done HD9.out.lo HD9.out.hi HB9.out HDir.out HB10.out HCut.out ho11 hb11)
  clear ho11 hm11 hb11 hb11' HC HE e0
  go_wp2
  go_ret2
  exact HX.out
end Go.Proofs.YtbpdonnneleeeaaGreatDoor

