/-
  What a crash leaves of a directory; Fail.
-/
import Derived.Test.YtbpdonnneleeeaaFailA
namespace Go.Proofs.Ytbpdonnneleeeaa
open Go.RowKit Go.Maps Go.Sort
set_option maxRecDepth 100000
set_option linter.unusedVariables false
set_option linter.unusedSectionVars false

/-- of each name of D that has come, what is left of its file -/
def CutOf (S : St) (D : Dir) (keep : Nat) (left : Lit → Bool) (Dout : Dir) (file : Nat → FileC) : Prop :=
  ∀ k, (look D k = none ∨ left (.string k) = true → look Dout k = none) ∧ ∀ f, look D k = some f → left (.string k) = false → ∃ b, look Dout k = some b ∧ file b = cutC keep (S.file f)
/-- the memory of the new directory -/
def gath (w wr : World) (i : Nat) : Prop := w.heap.size ≤ i ∧ i < wr.heap.size ∧ i ≠ w.heap.size + 1

def DRel (w : World) (S : St) (D : Dir) (m keep : Nat) (wr : World) : Prop :=
  ∃ left cnt Dout file val, wr.ranges Try.prog 9 pE m (w.heap.size + 1) 64 D left cnt ∧ DirAt wr (gath w wr) w.heap.size Dout file val ∧ Below w.heap.size w wr ∧ CutOf S D keep left Dout file ∧ cnt + Maps.size Dout ≤ 64

theorem cut_start (S : St) (D : Dir) (keep : Nat) (file : Nat → FileC) : CutOf S D keep (Maps.has D) (.map []) file := fun k => ⟨fun _ => rfl, fun f hf hl => by rw [has_look hf] at hl; cases hl⟩
theorem cut_step {S : St} {D : Dir} {keep : Nat} {left : Lit → Bool} {Dout : Dir} {file : Nat → FileC} (h : CutOf S D keep left Dout file) (hM : IsMap Dout) {k : List UInt8} {f b : Nat} (hk : look D k = some f) (hnew : ∀ x g, look Dout x = some g → g ≠ b) :
    CutOf S D keep (fun x => left x && !x.sameKey (.string k)) (Dout.put (.string k) (.lit (.int .u64 (b : Int)))) (upd file b (cutC keep (S.file f))) := by
  intro x
  rw [look_put Dout hM]
  by_cases e : x = k
  · subst e
    rw [if_pos rfl]
    have hs : (Lit.string x).sameKey (.string x) = true := WideAt.sameKey_self (isKey x)
    refine ⟨fun hh => ?_, fun g hg _ => ⟨b, rfl, ?_⟩⟩
    · rcases hh with hh | hh
      · rw [hk] at hh; cases hh
      · simp [hs] at hh
    · rw [hk] at hg; injection hg with hg; rw [← hg, upd_same]
  · rw [if_neg e]
    have hs : (Lit.string x).sameKey (.string k) = false := sameKey_ne (fun hh => e (by injection hh))
    refine ⟨fun hh => (h x).1 ?_, fun g hg hl => ?_⟩
    · rcases hh with hh | hh
      · exact .inl hh
      · simp [hs] at hh; exact .inr hh
    · simp [hs] at hl
      obtain ⟨c, hc, hfc⟩ := (h x).2 g hg hl
      exact ⟨c, hc, by rw [upd_other _ _ (hnew x c hc)]; exact hfc⟩

set_option maxHeartbeats 4000000 in
theorem dirFailed_ok {w : World} {F : Nat → Prop} {d pm dm : Nat} {S : St} {val : Nat → Value} (h : DiskAt w F d pm dm S val) (D : Dir) (m keep : Nat) (hm : OwnD w m 64 D) (hOK : DirOK D) (hl : ∀ k f, look D k = some f → S.live f) (hFm : F m) (hk : keep ≤ 9223372036854775807) :
    Calls Try.prog 40 #[.map (some m), .int .i64 (keep : Int)] w fun x w' => ∃ Dout file val', x = .returned (.map (some w.heap.size)) ∧ DirAt w' (gath w w') w.heap.size Dout file val' ∧ Below w.heap.size w w' ∧ CutOf S D keep (fun _ => false) Dout file := by
  have hmm := @run_makeMap Try.prog
  have HD := Lib.hid h; have HOK := Lib.hid hOK; have HLv := Lib.hid hl; have HM := Lib.hid hm
  have hmlt := h.lt m hFm
  have HFm := Lib.hid hFm
  have hs1 := alloc_size w (.map #[] 0)
  have O1 : OwnD (w.alloc (.map #[] 0)) m 64 D := World.ownsMap.alloc hm _
  have HO1 := Lib.hid O1
  clear h hOK hl hm hFm O1
  go_enter Try.func40, Try.ntmps40
  go_wp2_with (at_range; refine wpList_range_own _ rfl _ 35 rfl 9 83 keyLaw Try.underlying35 pE m 64 D rfl HO1.out ?_; intro w0 hrg0 hg0 hs0)
  go_frame
  have R1 : DRel w S D m keep w0 := by
    have e1 : (w.alloc (.map #[] 0)).heap.size = w.heap.size + 1 := hs1.symm
    rw [e1] at hrg0
    have hB0 : Below w.heap.size w w0 := (below_a (Below.refl _ w) (.map #[] 0)).trans ⟨hg0.os, hg0.tape, hg0.output, hg0.size, fun i hi => hg0.block i (by omega) (by simp)⟩
    have ho : OwnD w0 w.heap.size 64 (.map []) := ((World.ownsMap_made w Try.prog 9 pE).kept hg0 (by simp)).mono (by omega)
    refine ⟨_, _, .map [], fun _ => ⟨[], 0⟩, fun _ => .slice none 0 0, hrg0, dir_new ho ⟨Nat.le_refl _, by omega, by omega⟩ (fun i hi => hi.2.1) _ _, hB0, cut_start S D keep _, ?_⟩
    have := OwnD.size_le HM.out
    show Maps.size D + 0 ≤ 64
    omega
  have R0 := Lib.hid R1
  have HK := Lib.hid hk
  clear R1 hrg0 hg0 hs0 hk
  rw [← hs1]
  clear hs1
  go_loopw [6, 7] (fun _ _ wr => DRel w S D m keep wr) (fun _ _ wr => wr.rangeLeft m (w.heap.size + 1))
  case atStart => exact R0.out
  case round =>
    clear R0
    obtain ⟨left, cnt, Dout, file, val', hrg, hdir, hb, hcut, hcs⟩ := hrel
    have HB := Lib.hid hb; have HDir := Lib.hid hdir; have HCut := Lib.hid hcut; have HCs := Lib.hid hcs
    clear hb hdir hcut hcs
    go_wp2_with (at_next; refine wpList_next_ranges _ rfl _ rfl 9 keyLaw pE (Value.string) ptrOf (fun key kl hk => by obtain ⟨x, hx, _⟩ := Maps.keyOf_str Try.underlying9 hk; exact ⟨_, hx⟩) (fun v y hv => ⟨blk y.1, pE_blk hv⟩) m (w.heap.size + 1) 64 _ _ _ rfl hrg ?_ ?_)
    · intro hc0 hl0
      have hl0 := Lib.hid hl0
      clear hrg hc0
      go_wp2
      go_ret
      exact ⟨Dout, file, val', rfl, HDir.out, HB.out, by have : left = fun _ => false := funext hl0.out; rw [← this]; exact HCut.out⟩
    · intro x c kl yd yp w1 cnt1 hkey hlx hvy hat hrg1 hlt hg1 hs1' hen
      obtain ⟨k, f, rfl, hy, hlk⟩ := ent_of_at HOK.out hat
      have hcb : c = some f := by
        have := pE_blk hvy
        rw [hy] at this
        exact ptrOf_inj this
      subst hcb
      have hB1 : Below w.heap.size w w1 := HB.out.grown hg1 HB.out.size (fun r e => by injection e with e; omega)
      have hFA := (HD.out.files f (HLv.out k f hlk)).keep (fun i hi => hB1.block i (HD.out.lt i hi))
      have hD1 : DirAt w1 (gath w w1) w.heap.size Dout file val' := HDir.out.keep (fun i hi => ⟨hi.1, by have := hi.2.1; omega, hi.2.2⟩) (fun i hi => hi.2.1) (fun i hi => hg1.block i hi.2.1 (fun e => hi.2.2 (by injection e)))
      have hnew : ∀ x g, look Dout x = some g → g < w1.heap.size := fun x g hg => hD1.lt g (hD1.files x g hg).mem
      have hno : look Dout k = none := (HCut.out k).1 (.inr hlx)
      have HFA := Lib.hid hFA; have HD1 := Lib.hid hD1; have HN := Lib.hid hnew; have HNo := Lib.hid hno; have HB1 := Lib.hid hB1; have HKey := Lib.hid hkey; have HLk := Lib.hid hlk
      have HRg := Lib.hid hrg1; have HLe := Lib.hid hrg.left_eq; have HLt := Lib.hid hlt
      clear hFA hD1 hnew hno hB1 hkey hlk hat hvy hlx hy hg1 hs1' hrg hrg1 hlt
      have HML := Lib.hid hmlt
      clear hmm hmlt
      simp only [ptrOf] at hen ⊢
      go_wp2_with fail
      refine (fileFailed_ok HFA.out keep HK.out).mono ?_
      rintro e w2 ⟨b, u, rfl, hbs, hfa, hb2⟩
      have HO2 : Hid (OwnD w2 w.heap.size 64 Dout) := HD1.out.own.at_ (hb2.block _ (HD1.out.lt _ HD1.out.fm))
      have HBS := Lib.hid hbs; have HF2 := Lib.hid hfa; have HB2 := Lib.hid hb2
      clear hbs hfa hb2 hen
      go_wp2_with (at_mapUpdate; refine wpList_mapUpdate_own _ rfl _ _ _ 35 rfl 9 83 keyLaw Try.underlying35 pE w.heap.size 64 Dout rfl HO2.out (by decide) _ _ (.string k) rfl rfl HKey.out (.lit (.int .u64 (b : Int))) [] rfl ?_; intro w3 hown3 hg3)
      have HX : Hid (DRel w S D m keep w3 ∧ w3.rangeLeft m (w.heap.size + 1) < wr.rangeLeft m (w.heap.size + 1)) := by
        have hmlt := HML.out
        have hs2 := HB2.out.size
        have hs3 := hg3.size
        have h1 := HB1.out.size
        have hr1 := HRg.out.lt
        have hmm1 : m ≠ w.heap.size := by omega
        have hg2 : w1.grownBy w2 none := ⟨HB2.out.os, HB2.out.tape, HB2.out.output, hs2, fun i hi _ => HB2.out.block i hi⟩
        have hrg3 := (HRg.out.kept hg2 (by simp) (by simp)).kept hg3 (fun e => hmm1 (by injection e)) (fun e => by injection e with e; omega)
        have hbs := HBS.out
        have hz := HCs.out
        have hle := HLt.out
        have hA : FileAt w3 (gath w w3) b (cutC keep (S.file f)) u :=
          (HF2.out.keep (w' := w3) (fun i hi => hg3.block i hi.2 (fun e => by injection e with e; have := hi.1; omega))).mono (fun i hi => ⟨by have := hi.1; omega, by have := hi.2; omega, by have := hi.1; omega⟩)
        have hdir3 := dir_put HD1.out (w' := w3) (F' := gath w w3) (fun i hi => ⟨hi.1, by have := hi.2.1; omega, hi.2.2⟩) (fun i hi => hi.2.1)
          (fun i hi hne => (hg3.block i (by have := hi.2.1; omega) (fun e => hne (by injection e))).trans (HB2.out.block i hi.2.1)) hown3 hA hbs (fun r hr => (HF2.out.row r hr).1) HNo.out (by omega)
        have hT : Tidy Dout := World.ownsMap.tidy HD1.out.own keyLaw
        have hps := size_put_le hT k b
        refine ⟨⟨_, cnt1, _, _, _, hrg3, hdir3, (HB1.out.trans (HB2.out.mono h1)).grown hg3 (by omega) (fun r e => by injection e with e; omega), cut_step HCut.out hT.isMap HLk.out (fun x g hg => by have := HN.out x g hg; omega), by omega⟩, ?_⟩
        rw [hrg3.left_eq, HLe.out]; exact hle
      clear hown3 hg3
      go_frame
      exact ⟨⟨_, _, _, _, _, _, _, _, _, _, _, _, HX.out.1, rfl⟩, HX.out.2⟩
end Go.Proofs.Ytbpdonnneleeeaa
