/-
  Rename of package files, where every check passes.
-/
import Derived.Test.YteelmgmigfeabaaTexts
namespace Go.Proofs.Yteelmgmigfeabaa
open Go.RowKit Go.Maps Go.Sort
set_option linter.unusedVariables false

theorem txt_same {a b : ByteArray} (h : a.data.toList = b.data.toList) : a = b := by
  cases a; cases b; simp_all [Array.toList_inj]

set_option maxHeartbeats 4000000 in
theorem rename_same {w : World} {F : Nat → Prop} {d pm dm : Nat} {S : St} {val : Nat → Value} (h : DiskAt w F d pm dm S val) (s t : ByteArray) (hs_s : s.size ≤ 140737488355328) (hs_t : t.size ≤ 140737488355328) (hn : argErr [okName s.data.toList, okName t.data.toList] = 0) {f : Nat} (hk : look S.pres s.data.toList = some f) (he : s = t) :
    Calls Try.prog 19 #[.pointer (some ⟨d, 0, none⟩), .string s, .string t] w fun x w' => x = .returned (er 0) ∧ Below w.heap.size w w' := by
  have hmf := hmk
  have G2 := h.leads hs_s
  have hf : firstErr [0, argErr [okName s.data.toList, okName t.data.toList], noneErr (look S.pres s.data.toList)] = 0 := errs3 rfl hn (by rw [hk]; rfl)
  have hD := h
  have hq : (s.toList == t.toList) = true := by rw [Lib.toList_data, Lib.toList_data]; rw [he]; exact beq_self_eq_true _
  have HhD := Lib.hid hD; have HG2 := Lib.hid G2; have Hhf := Lib.hid hf; have Hhs_s := Lib.hid hs_s; have Hhs_t := Lib.hid hs_t; have Hhk := Lib.hid hk; have Hhe := Lib.hid he; have Hhq := Lib.hid hq
  clear hD G2 hf hs_s hs_t hk he hq
  clear h hn
  go_enter Try.func19, Try.ntmps19
  go_wp2_with fail
  refine (isName_any s _ Hhs_s.out).mono ?_
  rintro x w2 ⟨rfl, hw2⟩
  obtain rfl := hw2.symm
  go_wp2_with fail
  refine (isName_any t _ Hhs_t.out).mono ?_
  rintro x w2 ⟨rfl, hw2⟩
  obtain rfl := hw2.symm
  go_wp2_with fail
  refine (args_lits (w := w) rfl 2 _ _ [okName s.data.toList, okName t.data.toList] rfl (by decide)).mono ?_
  rintro x w3 ⟨q1, rfl, hb3, g1⟩
  have HB3 := Lib.hid hb3; have HG1 := Lib.hid g1
  clear hb3 g1
  go_wp2_with (go_at_call 34; refine (leads_makes _ _ _).mono ?_; rintro x w4 ⟨a0, b0, rfl, ka0, kb0, hb4⟩)
  have HC4 := Lib.hid (HB3.out.trans (hb4.mono HB3.out.size))
  have HG1 := Lib.hid (HG1.out.below hb4)
  have Ka0 := Lib.hid ka0; have Kb0 := Lib.hid kb0
  clear hb4 ka0 kb0
  go_wp2_with fail
  refine (first3 rfl _ _ (HhD.out.gives.below HC4.out) (fun _ => HG1.out) (fun _ _ => HG2.out w4 a0 b0 HC4.out Ka0.out Kb0.out)).mono ?_
  rintro x w9 ⟨rfl, hb9⟩
  rw [Hhf.out]
  have HB9 := Lib.hid (HC4.out.trans (hb9.mono HC4.out.size))
  clear hb9
  have hq := Hhq.out
  go_wp2
  go_ret
  exact ⟨rfl, HB9.out⟩

set_option maxHeartbeats 4000000 in
theorem rename_ok {w : World} {F : Nat → Prop} {d pm dm : Nat} {S : St} {val : Nat → Value} (h : DiskAt w F d pm dm S val) (s t : ByteArray) (hs_s : s.size ≤ 140737488355328) (hs_t : t.size ≤ 140737488355328) (hn : argErr [okName s.data.toList, okName t.data.toList] = 0) {f : Nat} (hk : look S.pres s.data.toList = some f) (he : s ≠ t) :
    Calls Try.prog 19 #[.pointer (some ⟨d, 0, none⟩), .string s, .string t] w fun x w' => x = .returned (er 0) ∧ Left5 F d w w' (S.rename s.data.toList t.data.toList f) := by
  have hmf := hmk
  have G2 := h.leads hs_s
  have hf : firstErr [0, argErr [okName s.data.toList, okName t.data.toList], noneErr (look S.pres s.data.toList)] = 0 := errs3 rfl hn (by rw [hk]; rfl)
  have hD := h
  have hq : (s.toList == t.toList) = false := by rw [Lib.toList_data, Lib.toList_data]; exact beq_eq_false_iff_ne.2 (fun h => he (txt_same h))
  have HhD := Lib.hid hD; have HG2 := Lib.hid G2; have Hhf := Lib.hid hf; have Hhs_s := Lib.hid hs_s; have Hhs_t := Lib.hid hs_t; have Hhk := Lib.hid hk; have Hhe := Lib.hid he; have Hhq := Lib.hid hq
  clear hD G2 hf hs_s hs_t hk he hq
  clear h hn
  go_enter Try.func19, Try.ntmps19
  go_wp2_with fail
  refine (isName_any s _ Hhs_s.out).mono ?_
  rintro x w2 ⟨rfl, hw2⟩
  obtain rfl := hw2.symm
  go_wp2_with fail
  refine (isName_any t _ Hhs_t.out).mono ?_
  rintro x w2 ⟨rfl, hw2⟩
  obtain rfl := hw2.symm
  go_wp2_with fail
  refine (args_lits (w := w) rfl 2 _ _ [okName s.data.toList, okName t.data.toList] rfl (by decide)).mono ?_
  rintro x w3 ⟨q1, rfl, hb3, g1⟩
  have HB3 := Lib.hid hb3; have HG1 := Lib.hid g1
  clear hb3 g1
  go_wp2_with (go_at_call 34; refine (leads_makes _ _ _).mono ?_; rintro x w4 ⟨a0, b0, rfl, ka0, kb0, hb4⟩)
  have HC4 := Lib.hid (HB3.out.trans (hb4.mono HB3.out.size))
  have HG1 := Lib.hid (HG1.out.below hb4)
  have Ka0 := Lib.hid ka0; have Kb0 := Lib.hid kb0
  clear hb4 ka0 kb0
  go_wp2_with fail
  refine (first3 rfl _ _ (HhD.out.gives.below HC4.out) (fun _ => HG1.out) (fun _ _ => HG2.out w4 a0 b0 HC4.out Ka0.out Kb0.out)).mono ?_
  rintro x w9 ⟨rfl, hb9⟩
  rw [Hhf.out]
  have HB9 := Lib.hid (HC4.out.trans (hb9.mono HC4.out.size))
  clear hb9
  have hq := Hhq.out
  have D9 := HhD.out.below HB9.out
  have c1 := D9.c1
  have hlk : (Instr.lookup 25 (.map (some pm)) (.string s) false).run Try.prog w9.drew = .ok (.pointer (some ⟨f, 0, none⟩)) w9.drew := by
    have := OwnD.lookup1 (w := w9.drew) D9.pres.drew Hhs_s.out
    rw [Hhk.out] at this
    exact this
  obtain ⟨w10, hmu, hown10, hg10⟩ := World.ownsMap.update (t := 25) (w := w9.drew) D9.pres.drew keyLaw Try.underlying25 (by decide) (keyOf_s Hhs_t.out) (pE_some f)
  have hne : d ≠ pm := box_ne D9 (F' := F) (w' := w9) (fun _ h => h) D9.lt D9.pres
  have c10 : w10.cell? ⟨d, 1, none⟩ = some (.map (some pm)) := by
    have hb := hg10.block d (D9.lt d D9.fd) (fun e => hne (by injection e))
    rw [cell_of_row w10 d 1 _ _ (0, 0) (hb.trans D9.box)]; rfl
  have HG := Lib.hid hg10; have HO := Lib.hid hown10
  clear D9 hown10 hg10 hne
  go_wp2
  go_region
  go_wp2_with (at_delete; refine wpList_delete_own _ rfl _ _ 25 9 rfl 78 keyLaw Try.underlying25 pE pm 65 (S.pres.put (.string t.data.toList) (.lit (.int .u64 (f : Int)))) rfl HO.out _ (.string s.data.toList) rfl (keyOf_s Hhs_s.out) ?_; intro w11 hown11 hg11)
  go_ret
  have hgg := hg11.grown
  refine ⟨rfl, rename_done HhD.out HB9.out (w4 := w11) (Nat.le_trans HG.out.size hgg.size) (hgg.os.trans HG.out.os) (hgg.tape.trans HG.out.tape) (hgg.output.trans HG.out.output) (fun i hi hne => ?_) hown11 Hhk.out (fun e => Hhe.out (txt_same e))⟩
  exact (hgg.block i (Nat.lt_of_lt_of_le hi HG.out.size) (fun e => hne (by injection e))).trans (HG.out.block i hi (fun e => hne (by injection e)))

end Go.Proofs.Yteelmgmigfeabaa
