/-
  The methods of package files on a disk, where every check passes.
-/
import Derived.Test.YtopcnlophmplgaaOpsA
import Derived.Test.YtopcnlophmplgaaShelf
import Derived.Lib.AppendZeros
namespace Go.Proofs.Ytopcnlophmplgaa
open Go.RowKit Go.Maps
set_option maxRecDepth 100000
set_option linter.unusedVariables false

theorem errs3 {a b c : Int} (h1 : a = 0) (h2 : b = 0) (h3 : c = 0) : firstErr [a, b, c] = 0 := by subst h1 h2 h3; rfl
theorem run_cut2 (w : World) (A : Option Addr) (n c l m : Nat) (h : l + m ≤ c) :
    (Instr.slice 33 (.slice A n c) (some (.int .i64 (l : Int))) (some (.int .i64 ((l : Int) + (m : Int)))) none).run Try.prog w = .ok (.slice (cutA A c l) m (c - l)) w := by
  obtain ⟨i0, hi, hz0, hz1, hz2⟩ := info_parts byte_info
  unfold Instr.slice cutA
  have e1 : ((l : Int) + (m : Int)) = ((l + m : Nat) : Int) := by omega
  rw [e1]
  simp [run_underlying Try.underlying33, Instr.sliceBounds, Instr.sliceBound, asIntOf, sizeOf, typeInfo, hi, hz1]
  rw [if_pos (by omega), if_pos (by omega), show ((l : Int) + (m : Int)).toNat - l = m by omega]
/-- the first n bytes that lie there, cloned -/
theorem clone_lies (A : Option Addr) (n m c B : Nat) (l : List UInt8) (w : World) (h : Lies w B 1 A m (l.map bv)) (hn : n ≤ m) (hb : m ≤ 140737488355328) :
    Calls Try.prog 45 #[.slice A n c] w fun x w' => ∃ v, x = .returned v ∧ w'.ownsRow w.heap.size 5 1 v n ((l.take n).map bv) ∧ Below w.heap.size w w' := by
  have hm := h.blen
  cases A with
  | none =>
    have hn0 : n = 0 := by
      cases n with
      | zero => rfl
      | succ n => obtain ⟨b, o, x, e, _⟩ := h.byte (k := 0) (by omega); cases e
    subst hn0
    refine (bytesClone_nil 0 c w).mono fun x w' hx => ?_
    obtain ⟨rfl, rfl⟩ := hx
    exact ⟨_, rfl, ⟨by simp, .inl ⟨rfl, rfl⟩⟩, Below.refl _ _⟩
  | some a =>
    refine (bytesClone_at a n c ((l.take n).map fun x => (x.toNat : Int)) w (by simp; omega) (by omega) (fun i hi => ?_)).mono fun x w' hx => ?_
    · obtain ⟨b, o, y, e, _, hy, hc⟩ := h.byte (k := i) (by omega)
      injection e with e
      subst e
      rw [add_lit, hc]
      have : ((l.take n).map fun x => (x.toNat : Int)).getD i 0 = (y.toNat : Int) := by
        rw [List.getD_eq_getElem?_getD, List.getElem?_map, List.getElem?_take_of_lt hi, hy]; rfl
      rw [this]
    · obtain ⟨v, rfl, ho, _, hB⟩ := hx
      refine ⟨v, rfl, ?_, hB⟩
      rw [List.map_map] at ho
      exact ho
theorem errs4 {a b c d : Int} (h1 : a = 0) (h2 : b = 0) (h3 : c = 0) (h4 : d = 0) : firstErr [a, b, c, d] = 0 := by subst h1 h2 h3 h4; rfl
set_option maxHeartbeats 2000000 in
theorem create_ok {w : World} {F : Nat → Prop} {d pm dm : Nat} {S : St} {val : Nat → Value} (h : DiskAt w F d pm dm S val) (s : ByteArray) (hs_s : s.size ≤ 140737488355328) (hn : argErr [okName s.data.toList] = 0) (hk : look S.pres s.data.toList = none) (hz : Maps.size S.pres < 64) :
    Calls Try.prog 17 #[.pointer (some ⟨d, 0, none⟩), .string s] w fun x w' => x = .returned (er 0) ∧ ∃ b, w.heap.size ≤ b ∧ Left5 F d w w' (S.create s.data.toList b) := by
  have hmf := hmk
  have G2 := h.free hs_s
  have G9 := h.freeName
  have hf : firstErr [0, argErr [okName s.data.toList], thereErr (look S.pres s.data.toList), fullErr S.pres] = 0 := errs4 rfl hn (by rw [hk]; rfl) (if_pos hz)
  have hD := h
  have HhD := Lib.hid hD; have HG2 := Lib.hid G2; have HG9 := Lib.hid G9; have Hhf := Lib.hid hf; have Hhs_s := Lib.hid hs_s; have Hhk := Lib.hid hk; have Hhz := Lib.hid hz
  clear hD G2 G9 hf hs_s hk hz
  clear h hn
  go_enter Try.func17, Try.ntmps17
  go_wp2_with fail
  refine (isName_any s _ Hhs_s.out).mono ?_
  rintro x w2 ⟨rfl, hw2⟩
  obtain rfl := hw2.symm
  go_wp2_with fail
  refine (args_lits (w := w) rfl 1 _ _ [okName s.data.toList] rfl (by decide)).mono ?_
  rintro x w3 ⟨q1, rfl, hb3, g1⟩
  have HB3 := Lib.hid hb3; have HG1 := Lib.hid g1
  clear hb3 g1
  go_wp2_with (go_at_call 46; refine (isFree_makes _ _ _).mono ?_; rintro x w4 ⟨a0, b0, rfl, ka0, kb0, hb4⟩)
  have HC4 := Lib.hid (HB3.out.trans (hb4.mono HB3.out.size))
  have HG1 := Lib.hid (HG1.out.below hb4)
  have Ka0 := Lib.hid ka0; have Kb0 := Lib.hid kb0
  clear hb4 ka0 kb0
  go_wp2_with fail
  refine (first4 rfl _ _ (HhD.out.gives.below HC4.out) (fun _ => HG1.out) (fun _ _ => HG2.out w4 a0 b0 HC4.out Ka0.out Kb0.out) (fun _ _ _ => HG9.out.below HC4.out)).mono ?_
  rintro x w9 ⟨rfl, hb9⟩
  rw [Hhf.out]
  have HB9 := Lib.hid (HC4.out.trans (hb9.mono HC4.out.size))
  clear hb9
  have D9 := HhD.out.below HB9.out
  have c1 := D9.c1
  have O := World.ownsMap.alloc D9.pres (.cells #[.int .i64 0, .slice none 0 0] 90)
  have HO := Lib.hid O; clear O D9
  go_wp2_with (at_mapUpdate; refine wpList_mapUpdate_own _ rfl _ _ _ 93 rfl 9 91 keyLaw Try.underlying93 pE pm 64 S.pres rfl HO.out (by decide) _ _ (.string s.data.toList) rfl rfl (keyOf_s Hhs_s.out) (.lit (.int .u64 (w9.heap.size : Int))) [] rfl ?_; intro w10 hown10 hg10)
  go_ret
  exact ⟨rfl, _, HB9.out.size, create_done HhD.out HB9.out hg10 hown10 Hhk.out Hhz.out⟩

set_option maxHeartbeats 2000000 in
theorem size_ok {w : World} {F : Nat → Prop} {d pm dm : Nat} {S : St} {val : Nat → Value} (h : DiskAt w F d pm dm S val) (s : ByteArray) (hs_s : s.size ≤ 140737488355328) (hn : argErr [okName s.data.toList] = 0) {f : Nat} (hk : look S.pres s.data.toList = some f) :
    Calls Try.prog 15 #[.pointer (some ⟨d, 0, none⟩), .string s] w fun x w' => x = .returned (.tuple #[.int .i64 (S.len f : Int), er 0]) ∧ Below w.heap.size w w' := by
  have hmf := hmk
  have G2 := h.leads hs_s
  have hf : firstErr [0, argErr [okName s.data.toList], noneErr (look S.pres s.data.toList)] = 0 := errs3 rfl hn (by rw [hk]; rfl)
  have hD := h
  have HhD := Lib.hid hD; have HG2 := Lib.hid G2; have Hhf := Lib.hid hf; have Hhs_s := Lib.hid hs_s; have Hhk := Lib.hid hk
  clear hD G2 hf hs_s hk
  clear h hn
  go_enter Try.func15, Try.ntmps15
  go_wp2_with fail
  refine (isName_any s _ Hhs_s.out).mono ?_
  rintro x w2 ⟨rfl, hw2⟩
  obtain rfl := hw2.symm
  go_wp2_with fail
  refine (args_lits (w := w) rfl 1 _ _ [okName s.data.toList] rfl (by decide)).mono ?_
  rintro x w3 ⟨q1, rfl, hb3, g1⟩
  have HB3 := Lib.hid hb3; have HG1 := Lib.hid g1
  clear hb3 g1
  go_wp2_with (go_at_call 43; refine (leads_makes _ _ _).mono ?_; rintro x w4 ⟨a0, b0, rfl, ka0, kb0, hb4⟩)
  have HC4 := Lib.hid (HB3.out.trans (hb4.mono HB3.out.size))
  have HG1 := Lib.hid (HG1.out.below hb4)
  have Ka0 := Lib.hid ka0; have Kb0 := Lib.hid kb0
  clear hb4 ka0 kb0
  go_wp2_with fail
  refine (first3 rfl _ _ (HhD.out.gives.below HC4.out) (fun _ => HG1.out) (fun _ _ => HG2.out w4 a0 b0 HC4.out Ka0.out Kb0.out)).mono ?_
  rintro x w9 ⟨rfl, hb9⟩
  rw [Hhf.out]
  have HB9 := Lib.hid (HC4.out.trans (hb9.mono HC4.out.size))
  clear hb9
  have D9 := HhD.out.below HB9.out
  have H9 := D9.files f (.inl ⟨_, Hhk.out⟩)
  have c1 := D9.c1
  have hlk := OwnD.lookup1 D9.pres Hhs_s.out
  rw [Hhk.out] at hlk
  simp only [ptrOf] at hlk
  have f1 := H9.f1
  obtain ⟨A0, cp, hv0, hnc, hcm, _⟩ := own_shape H9.own
  rw [hv0] at f1
  have hlen : (S.file f).bytes.length = S.len f := rfl
  rw [hlen] at f1 hnc
  clear hcm
  clear D9 H9 hv0 hlen hnc
  go_wp2
  go_ret2
  exact ⟨rfl, HB9.out⟩

set_option maxHeartbeats 2000000 in
theorem sync_ok {w : World} {F : Nat → Prop} {d pm dm : Nat} {S : St} {val : Nat → Value} (h : DiskAt w F d pm dm S val) (s : ByteArray) (hs_s : s.size ≤ 140737488355328) (hn : argErr [okName s.data.toList] = 0) {f : Nat} (hk : look S.pres s.data.toList = some f) :
    Calls Try.prog 65 #[.pointer (some ⟨d, 0, none⟩), .string s] w fun x w' => x = .returned (er 0) ∧ Left5 F d w w' (S.sync f) := by
  have hmf := hmk
  have G2 := h.leads hs_s
  have hf : firstErr [0, argErr [okName s.data.toList], noneErr (look S.pres s.data.toList)] = 0 := errs3 rfl hn (by rw [hk]; rfl)
  have hD := h
  have HhD := Lib.hid hD; have HG2 := Lib.hid G2; have Hhf := Lib.hid hf; have Hhs_s := Lib.hid hs_s; have Hhk := Lib.hid hk
  clear hD G2 hf hs_s hk
  clear h hn
  go_enter Try.func65, Try.ntmps65
  go_wp2_with fail
  refine (isName_any s _ Hhs_s.out).mono ?_
  rintro x w2 ⟨rfl, hw2⟩
  obtain rfl := hw2.symm
  go_wp2_with fail
  refine (args_lits (w := w) rfl 1 _ _ [okName s.data.toList] rfl (by decide)).mono ?_
  rintro x w3 ⟨q1, rfl, hb3, g1⟩
  have HB3 := Lib.hid hb3; have HG1 := Lib.hid g1
  clear hb3 g1
  go_wp2_with (go_at_call 43; refine (leads_makes _ _ _).mono ?_; rintro x w4 ⟨a0, b0, rfl, ka0, kb0, hb4⟩)
  have HC4 := Lib.hid (HB3.out.trans (hb4.mono HB3.out.size))
  have HG1 := Lib.hid (HG1.out.below hb4)
  have Ka0 := Lib.hid ka0; have Kb0 := Lib.hid kb0
  clear hb4 ka0 kb0
  go_wp2_with fail
  refine (first3 rfl _ _ (HhD.out.gives.below HC4.out) (fun _ => HG1.out) (fun _ _ => HG2.out w4 a0 b0 HC4.out Ka0.out Kb0.out)).mono ?_
  rintro x w9 ⟨rfl, hb9⟩
  rw [Hhf.out]
  have HB9 := Lib.hid (HC4.out.trans (hb9.mono HC4.out.size))
  clear hb9
  have D9 := HhD.out.below HB9.out
  have H9 := D9.files f (.inl ⟨_, Hhk.out⟩)
  have c1 := D9.c1
  have hlk := OwnD.lookup1 D9.pres Hhs_s.out
  rw [Hhk.out] at hlk
  simp only [ptrOf] at hlk
  have f1 := H9.f1
  obtain ⟨A0, cp, hv0, hnc, hcm, _⟩ := own_shape H9.own
  rw [hv0] at f1
  have hlen : (S.file f).bytes.length = S.len f := rfl
  rw [hlen] at f1 hnc
  clear hcm
  have f0 := H9.f0
  have fz : w9.frozen? ⟨f, 0, none⟩ = false := by simp [World.frozen?, H9.cells]
  clear D9 H9 hv0 hlen hnc
  go_wp2
  go_ret
  exact ⟨rfl, sync_done HhD.out HB9.out Hhk.out rfl⟩

set_option maxHeartbeats 2000000 in
theorem append_ok {w : World} {F : Nat → Prop} {d pm dm : Nat} {S : St} {val : Nat → Value} (h : DiskAt w F d pm dm S val) (s : ByteArray) (hs_s : s.size ≤ 140737488355328) (A : Option Addr) (n c : Nat) (l : List UInt8) (hl : Lies w w.heap.size 1 A n (l.map bv)) (hn47 : n ≤ 140737488355328) (hn : argErr [okName s.data.toList] = 0) {f : Nat} (hk : look S.pres s.data.toList = some f) (hsp : n ≤ S.left ∧ n + S.len f ≤ 1048576) :
    Calls Try.prog 18 #[.pointer (some ⟨d, 0, none⟩), .string s, .slice A n c] w fun x w' => x = .returned (er 0) ∧ Left5 F d w w' (S.append f l) := by
  have hmf := hmk
  have G2 := h.leads hs_s
  have G3 := h.space hs_s hk n hn47
  have hf : firstErr [0, argErr [okName s.data.toList], noneErr (look S.pres s.data.toList), spaceErr S (S.len f) n] = 0 := errs4 rfl hn (by rw [hk]; rfl) (spaceErr_ok hsp)
  have hD := h
  have HhD := Lib.hid hD; have HG2 := Lib.hid G2; have HG3 := Lib.hid G3; have Hhf := Lib.hid hf; have Hhs_s := Lib.hid hs_s; have Hhk := Lib.hid hk; have Hhl := Lib.hid hl; have Hhsp := Lib.hid hsp
  clear hD G2 G3 hf hs_s hk hl hsp
  clear h hn
  go_enter Try.func18, Try.ntmps18
  go_wp2_with fail
  refine (isName_any s _ Hhs_s.out).mono ?_
  rintro x w2 ⟨rfl, hw2⟩
  obtain rfl := hw2.symm
  go_wp2_with fail
  refine (args_lits (w := w) rfl 1 _ _ [okName s.data.toList] rfl (by decide)).mono ?_
  rintro x w3 ⟨q1, rfl, hb3, g1⟩
  have HB3 := Lib.hid hb3; have HG1 := Lib.hid g1
  clear hb3 g1
  go_wp2_with (go_at_call 43; refine (leads_makes _ _ _).mono ?_; rintro x w4 ⟨a0, b0, rfl, ka0, kb0, hb4⟩)
  have HC4 := Lib.hid (HB3.out.trans (hb4.mono HB3.out.size))
  have HG1 := Lib.hid (HG1.out.below hb4)
  have Ka0 := Lib.hid ka0; have Kb0 := Lib.hid kb0
  clear hb4
  go_wp2_with (go_at_call 48; refine (hasSpace_makes _ _ _ _).mono ?_; rintro x w5 ⟨a1, b1, c1, rfl, ka1, kb1, kc1, hb5⟩)
  have HC5 := Lib.hid (HC4.out.trans (hb5.mono HC4.out.size))
  have HG1 := Lib.hid (HG1.out.below hb5)
  have ka0 := ka0.below hb5
  have kb0 := kb0.below hb5
  have Ka0 := Lib.hid ka0; have Kb0 := Lib.hid kb0; have Ka1 := Lib.hid ka1; have Kb1 := Lib.hid kb1; have Kc1 := Lib.hid kc1
  clear hb5 ka0 kb0 ka1 kb1 kc1
  go_wp2_with fail
  refine (first4 rfl _ _ (HhD.out.gives.below HC5.out) (fun _ => HG1.out) (fun _ _ => HG2.out w5 a0 b0 HC5.out Ka0.out Kb0.out) (fun _ _ _ => HG3.out w5 a1 b1 c1 HC5.out Ka1.out Kb1.out Kc1.out)).mono ?_
  rintro x w9 ⟨rfl, hb9⟩
  rw [Hhf.out]
  have HB9 := Lib.hid (HC5.out.trans (hb9.mono HC5.out.size))
  clear hb9
  have D9 := HhD.out.below HB9.out
  have H9 := D9.files f (.inl ⟨_, Hhk.out⟩)
  have c1 := D9.c1
  have hlk := OwnD.lookup1 D9.pres Hhs_s.out
  rw [Hhk.out] at hlk
  simp only [ptrOf] at hlk
  have f1 := H9.f1
  obtain ⟨A0, cp, hv0, hnc, hcm, _⟩ := own_shape H9.own
  rw [hv0] at f1
  have hlen : (S.file f).bytes.length = S.len f := rfl
  rw [hlen] at f1 hnc
  clear hcm
  obtain ⟨i0, hi, hz0, hz1, hz2⟩ := info_parts byte_info
  have hln := Hhl.out.blen
  have hmx := Hhsp.out.2
  have hs9 := HB9.out.size
  obtain ⟨v', w5, hrun, ho5, hg5, hv5⟩ := run_app (P := Try.prog) w9 0 33 33 5 i0 _ 1 1 Try.underlying33 hi hz0 hz1 hz2 rfl (by decide) (val f) (S.len f) ((S.file f).bytes.map bv) H9.own w.heap.size A n c (l.map bv) (Hhl.out.below HB9.out) (bv_one _) (by unfold maxLen; omega) (by omega) (Nat.zero_le _)
  rw [hv0] at hrun
  rw [hlen] at hrun
  have hfr : (val f).ownBlock ≠ some f := fun e => by
    rcases H9.own.2 with ⟨e1, _⟩ | ⟨g, cap, cur, e1, _, hh, _⟩
    · rw [e1] at e; cases e
    · rw [e1] at e; injection e with e; have e : g = f := e
      rw [e, H9.cells] at hh; injection hh with hh; injection hh with h1 h2; exact absurd h2 (by decide)
  have hc5 : w5.heap[f]? = _ := (hg5.block f (heap_len H9.cells) (fun e => hfr e.symm)).trans H9.cells
  have f5 : w5.cell? ⟨f, 1, none⟩ = some (.slice A0 (S.len f) cp) := by rw [cell_of_row w5 f 1 _ _ (0, 0) hc5, hv0, hlen]; rfl
  have fz : w5.frozen? ⟨f, 1, none⟩ = false := by simp [World.frozen?, hc5]
  have hvs : v' = v' := rfl
  obtain ⟨A5, c5, hv', _⟩ := own_shape ho5
  have HR : Hid (Left5 F d w (w5.setCell ⟨f, 1, none⟩ v') (S.append f l)) := append_done HhD.out HB9.out (by rw [hln]) Hhk.out ho5 hg5 hv5 rfl (by rw [hln]; omega)
  have HRun := Lib.hid hrun
  clear D9 H9 hv0 hlen hrun ho5 hg5 hv5 hfr hc5 hln hmx hs9 hnc hvs
  subst hv'
  go_wp2_with (at_builtin; refine Lib.wpList_append_run _ rfl _ _ _ _ rfl _ _ rfl rfl _ _ HRun.out ?_)
  go_ret
  exact ⟨rfl, HR.out⟩

set_option maxHeartbeats 2000000 in
theorem read_ok {w : World} {F : Nat → Prop} {d pm dm : Nat} {S : St} {val : Nat → Value} (h : DiskAt w F d pm dm S val) (s : ByteArray) (hs_s : s.size ≤ 140737488355328) (at_ n : Nat) (hat : at_ ≤ 9223372036854775807) (hn : argErr [okName s.data.toList, decide ((0 : Int) ≤ (at_ : Int)), decide ((0 : Int) ≤ (n : Int))] = 0) {f : Nat} (hk : look S.pres s.data.toList = some f) (hr : at_ + n ≤ S.len f) :
    Calls Try.prog 16 #[.pointer (some ⟨d, 0, none⟩), .string s, .int .i64 (at_ : Int), .int .i64 (n : Int)] w fun x w' => ∃ v, x = .returned (.tuple #[v, er 0]) ∧ w'.ownsRow w.heap.size 5 1 v n ((((S.file f).bytes.drop at_).take n).map bv) ∧ Below w.heap.size w w' := by
  have hmf := hmk
  have G2 := h.leads hs_s
  have G3 := h.reach hs_s hk (at_ : Int) (n : Int) (by omega) (by omega)
  have hf : firstErr [0, argErr [okName s.data.toList, decide ((0 : Int) ≤ (at_ : Int)), decide ((0 : Int) ≤ (n : Int))], noneErr (look S.pres s.data.toList), shortErr (S.len f) (at_ : Int) (n : Int)] = 0 := errs4 rfl hn (by rw [hk]; rfl) (shortErr_ok (by omega))
  have hD := h
  have HhD := Lib.hid hD; have HG2 := Lib.hid G2; have HG3 := Lib.hid G3; have Hhf := Lib.hid hf; have Hhs_s := Lib.hid hs_s; have Hhk := Lib.hid hk
  clear hD G2 G3 hf hs_s hk
  clear h hn
  go_enter Try.func16, Try.ntmps16
  go_wp2_with fail
  refine (isName_any s _ Hhs_s.out).mono ?_
  rintro x w2 ⟨rfl, hw2⟩
  obtain rfl := hw2.symm
  go_wp2_with fail
  refine (args_lits (w := w) rfl 3 _ _ [okName s.data.toList, decide ((0 : Int) ≤ (at_ : Int)), decide ((0 : Int) ≤ (n : Int))] rfl (by decide)).mono ?_
  rintro x w3 ⟨q1, rfl, hb3, g1⟩
  have HB3 := Lib.hid hb3; have HG1 := Lib.hid g1
  clear hb3 g1
  go_wp2_with (go_at_call 43; refine (leads_makes _ _ _).mono ?_; rintro x w4 ⟨a0, b0, rfl, ka0, kb0, hb4⟩)
  have HC4 := Lib.hid (HB3.out.trans (hb4.mono HB3.out.size))
  have HG1 := Lib.hid (HG1.out.below hb4)
  have Ka0 := Lib.hid ka0; have Kb0 := Lib.hid kb0
  clear hb4
  go_wp2_with (go_at_call 44; refine (reaches_makes _ _ _ _ _).mono ?_; rintro x w5 ⟨a1, b1, c1, d1, rfl, ka1, kb1, kc1, kd1, hb5⟩)
  have HC5 := Lib.hid (HC4.out.trans (hb5.mono HC4.out.size))
  have HG1 := Lib.hid (HG1.out.below hb5)
  have ka0 := ka0.below hb5
  have kb0 := kb0.below hb5
  have Ka0 := Lib.hid ka0; have Kb0 := Lib.hid kb0; have Ka1 := Lib.hid ka1; have Kb1 := Lib.hid kb1; have Kc1 := Lib.hid kc1; have Kd1 := Lib.hid kd1
  clear hb5 ka0 kb0 ka1 kb1 kc1 kd1
  go_wp2_with fail
  refine (first4 rfl _ _ (HhD.out.gives.below HC5.out) (fun _ => HG1.out) (fun _ _ => HG2.out w5 a0 b0 HC5.out Ka0.out Kb0.out) (fun _ _ _ => HG3.out w5 a1 b1 c1 d1 HC5.out Ka1.out Kb1.out Kc1.out Kd1.out)).mono ?_
  rintro x w9 ⟨rfl, hb9⟩
  rw [Hhf.out]
  have HB9 := Lib.hid (HC5.out.trans (hb9.mono HC5.out.size))
  clear hb9
  have D9 := HhD.out.below HB9.out
  have H9 := D9.files f (.inl ⟨_, Hhk.out⟩)
  have c1 := D9.c1
  have hlk := OwnD.lookup1 D9.pres Hhs_s.out
  rw [Hhk.out] at hlk
  simp only [ptrOf] at hlk
  have f1 := H9.f1
  obtain ⟨A0, cp, hv0, hnc, hcm, _⟩ := own_shape H9.own
  rw [hv0] at f1
  have hlen : (S.file f).bytes.length = S.len f := rfl
  rw [hlen] at f1 hnc
  clear hcm
  have HL : Lies w9 w9.heap.size 1 A0 (S.len f) ((S.file f).bytes.map bv) := by have h7 := H9.own; rw [hv0] at h7; exact Lies.of_own h7
  have hmx : S.len f ≤ 1048576 := H9.max
  have hcut := fun w => run_cut2 w A0 (S.len f) cp at_ n (by omega)
  have HC := clone_lies _ n (S.len f - at_) (cp - at_) w9.heap.size ((S.file f).bytes.drop at_) w9 (HL.cutA (m := at_) (c := cp) (by omega) hnc) (by omega) (by omega)
  have HCC := Lib.hid HC
  clear D9 H9 hv0 hlen HL HC hnc
  go_wp2_with (go_at_call 45; refine HCC.out.mono ?_; rintro x w10 ⟨v, rfl, ho, hb10⟩)
  go_ret2
  exact ⟨v, rfl, own_base ho HB9.out.size, HB9.out.trans (hb10.mono HB9.out.size)⟩

end Go.Proofs.Ytopcnlophmplgaa
