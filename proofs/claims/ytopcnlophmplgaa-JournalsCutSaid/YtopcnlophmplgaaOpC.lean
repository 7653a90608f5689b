/-
  Create, Remove, Rename, Append, Read, Size, Sync of package files, where a check fails: the first error that applies is answered, and nothing that was there is written.
-/
import Derived.Test.YtopcnlophmplgaaChkB
import Derived.Test.YtopcnlophmplgaaMem
namespace Go.Proofs.Ytopcnlophmplgaa
open Go.RowKit
set_option maxRecDepth 100000
set_option linter.unusedVariables false

theorem hmk : ∀ (fn : Fn) (first cap : Array Value) (w : World), (Instr.makeFunc fn first cap).run Try.prog w = .ok (.func fn first cap) w := fun _ _ _ _ => rfl

abbrev fv (f : FuncId) (d : Value) : Value := .func (.func f) #[d] #[]
abbrev cl2 (f : FuncId) (a b : Nat) : Value := .func (.func f) #[] #[.pointer (some ⟨a, 0, none⟩), .pointer (some ⟨b, 0, none⟩)]
abbrev cl3 (f : FuncId) (a b c : Nat) : Value := .func (.func f) #[] #[.pointer (some ⟨a, 0, none⟩), .pointer (some ⟨b, 0, none⟩), .pointer (some ⟨c, 0, none⟩)]
abbrev cl4 (f : FuncId) (a b c d : Nat) : Value := .func (.func f) #[] #[.pointer (some ⟨a, 0, none⟩), .pointer (some ⟨b, 0, none⟩), .pointer (some ⟨c, 0, none⟩), .pointer (some ⟨d, 0, none⟩)]
/-- the check that two captured values make answers e -/
def Chk2 (w : World) (f : FuncId) (x y : Value) (e : Int) : Prop := ∀ w1 a b, Below w.heap.size w w1 → Kept1 w1 a x → Kept1 w1 b y → Gives w1 (cl2 f a b) e
def Chk3 (w : World) (f : FuncId) (x y z : Value) (e : Int) : Prop := ∀ w1 a b c, Below w.heap.size w w1 → Kept1 w1 a x → Kept1 w1 b y → Kept1 w1 c z → Gives w1 (cl3 f a b c) e
def Chk4 (w : World) (f : FuncId) (x y z u : Value) (e : Int) : Prop := ∀ w1 a b c d, Below w.heap.size w w1 → Kept1 w1 a x → Kept1 w1 b y → Kept1 w1 c z → Kept1 w1 d u → Gives w1 (cl4 f a b c d) e

theorem fam {w : World} (vs : List Value) (es : List Int) (h : vs.length = es.length)
    (hg : ∀ (i : Nat) (hi : i < vs.length) (hi2 : i < es.length), (∀ j : Nat, j < i → ∀ e', es[j]? = some e' → e' = 0) → Gives w vs[i] es[i]) :
    ∀ (i : Nat) v e, vs[i]? = some v → es[i]? = some e → (∀ j : Nat, j < i → ∀ e', es[j]? = some e' → e' = 0) → Gives w v e := by
  intro i v e hv he hz
  obtain ⟨h1, rfl⟩ := List.getElem?_eq_some_iff.1 hv
  obtain ⟨h2, rfl⟩ := List.getElem?_eq_some_iff.1 he
  exact hg i h1 h2 hz
theorem first2 {w : World} {g : Nat} (hgs : g = w.heap.size) (c : Nat) (t : TypeId) {v0 v1 : Value} {e0 e1 : Int} (h0 : Gives w v0 e0) (h1 : e0 = 0 → Gives w v1 e1) :
    Calls Try.prog 39 #[.slice (some ⟨g, 0, none⟩) 2 c] (w.alloc (.cells #[v0, v1] t)) fun x w' => x = .returned (er (firstErr [e0, e1])) ∧ Below w.heap.size w w' := by
  have hb := below_a (Below.refl w.heap.size w) (.cells #[v0, v1] t)
  have hs := alloc_size w (.cells #[v0, v1] t)
  have hl : Lies (w.alloc (.cells #[v0, v1] t)) (w.alloc (.cells #[v0, v1] t)).heap.size 1 (some ⟨g, 0, none⟩) 2 [v0, v1] := by rw [← hs]; have := lits_lie hgs [v0, v1] t; rw [hgs] at this ⊢; exact this
  refine (firstError_any _ 2 c [v0, v1] [e0, e1] _ hl rfl (by decide) (fam _ _ rfl ?_)).mono fun x w' h => ⟨h.1, hb.trans (h.2.mono (by omega))⟩
  intro i hi hi2 hz
  match i, hi with
  | 0, _ => exact h0.below hb
  | 1, _ => exact (h1 (hz 0 (by omega) _ rfl)).below hb
theorem first3 {w : World} {g : Nat} (hgs : g = w.heap.size) (c : Nat) (t : TypeId) {v0 v1 v2 : Value} {e0 e1 e2 : Int} (h0 : Gives w v0 e0) (h1 : e0 = 0 → Gives w v1 e1) (h2 : e0 = 0 → e1 = 0 → Gives w v2 e2) :
    Calls Try.prog 39 #[.slice (some ⟨g, 0, none⟩) 3 c] (w.alloc (.cells #[v0, v1, v2] t)) fun x w' => x = .returned (er (firstErr [e0, e1, e2])) ∧ Below w.heap.size w w' := by
  have hb := below_a (Below.refl w.heap.size w) (.cells #[v0, v1, v2] t)
  have hs := alloc_size w (.cells #[v0, v1, v2] t)
  have hl : Lies (w.alloc (.cells #[v0, v1, v2] t)) (w.alloc (.cells #[v0, v1, v2] t)).heap.size 1 (some ⟨g, 0, none⟩) 3 [v0, v1, v2] := by rw [← hs]; have := lits_lie hgs [v0, v1, v2] t; rw [hgs] at this ⊢; exact this
  refine (firstError_any _ 3 c [v0, v1, v2] [e0, e1, e2] _ hl rfl (by decide) (fam _ _ rfl ?_)).mono fun x w' h => ⟨h.1, hb.trans (h.2.mono (by omega))⟩
  intro i hi hi2 hz
  match i, hi with
  | 0, _ => exact h0.below hb
  | 1, _ => exact (h1 (hz 0 (by omega) _ rfl)).below hb
  | 2, _ => exact (h2 (hz 0 (by omega) _ rfl) (hz 1 (by omega) _ rfl)).below hb
theorem first4 {w : World} {g : Nat} (hgs : g = w.heap.size) (c : Nat) (t : TypeId) {v0 v1 v2 v3 : Value} {e0 e1 e2 e3 : Int} (h0 : Gives w v0 e0) (h1 : e0 = 0 → Gives w v1 e1) (h2 : e0 = 0 → e1 = 0 → Gives w v2 e2) (h3 : e0 = 0 → e1 = 0 → e2 = 0 → Gives w v3 e3) :
    Calls Try.prog 39 #[.slice (some ⟨g, 0, none⟩) 4 c] (w.alloc (.cells #[v0, v1, v2, v3] t)) fun x w' => x = .returned (er (firstErr [e0, e1, e2, e3])) ∧ Below w.heap.size w w' := by
  have hb := below_a (Below.refl w.heap.size w) (.cells #[v0, v1, v2, v3] t)
  have hs := alloc_size w (.cells #[v0, v1, v2, v3] t)
  have hl : Lies (w.alloc (.cells #[v0, v1, v2, v3] t)) (w.alloc (.cells #[v0, v1, v2, v3] t)).heap.size 1 (some ⟨g, 0, none⟩) 4 [v0, v1, v2, v3] := by rw [← hs]; have := lits_lie hgs [v0, v1, v2, v3] t; rw [hgs] at this ⊢; exact this
  refine (firstError_any _ 4 c [v0, v1, v2, v3] [e0, e1, e2, e3] _ hl rfl (by decide) (fam _ _ rfl ?_)).mono fun x w' h => ⟨h.1, hb.trans (h.2.mono (by omega))⟩
  intro i hi hi2 hz
  match i, hi with
  | 0, _ => exact h0.below hb
  | 1, _ => exact (h1 (hz 0 (by omega) _ rfl)).below hb
  | 2, _ => exact (h2 (hz 0 (by omega) _ rfl) (hz 1 (by omega) _ rfl)).below hb
  | 3, _ => exact (h3 (hz 0 (by omega) _ rfl) (hz 1 (by omega) _ rfl) (hz 2 (by omega) _ rfl)).below hb
/-- 'arguments' at values that were just laid -/
theorem args_lits {w : World} {g : Nat} (hgs : g = w.heap.size) (n c : Nat) (t : TypeId) (bs : List Bool) (hn : bs.length = n) (h1 : n ≤ 1000) :
    Calls Try.prog 41 #[.slice (some ⟨g, 0, none⟩) n c] (w.alloc (.cells (bs.map Value.bool).toArray t)) fun x w' => ∃ q, x = .returned (.func (.func 70) #[] #[.pointer (some q)]) ∧ Below w.heap.size w w' ∧ Gives w' (.func (.func 70) #[] #[.pointer (some q)]) (argErr bs) := by
  have hb := below_a (Below.refl w.heap.size w) (.cells (bs.map Value.bool).toArray t)
  have hs := alloc_size w (.cells (bs.map Value.bool).toArray t)
  have hl : Lies (w.alloc (.cells (bs.map Value.bool).toArray t)) (w.alloc (.cells (bs.map Value.bool).toArray t)).heap.size 1 (some ⟨g, 0, none⟩) n (bs.map Value.bool) := by
    rw [← hs]; have := lits_lie hgs (bs.map Value.bool) t; rw [List.length_map, hn] at this; rw [hgs] at this ⊢; exact this
  refine (arguments_any _ n c bs _ h1 hl).mono fun x w' h => ?_
  obtain ⟨v, rfl, h2, h3⟩ := h
  exact ⟨v, rfl, hb.trans (h2.mono (by omega)), h3⟩

theorem argOk {b : Bool} (h : argErr [b] = 0) : b = true := by cases b <;> simp [argErr] at h ⊢

set_option maxHeartbeats 1000000 in
theorem create_fails (p : Option Addr) (s : ByteArray) (w : World) (hs : s.size ≤ 140737488355328) (e0 e2 e3 fe : Int) (G0 : Gives w (fv 40 (.pointer p)) e0)
    (G2 : e0 = 0 → argErr [okName s.data.toList] = 0 → Chk2 w 74 (.pointer p) (.string s) e2)
    (G3 : e0 = 0 → argErr [okName s.data.toList] = 0 → e2 = 0 → Gives w (fv 47 (.pointer p)) e3)
    (hf : firstErr [e0, argErr [okName s.data.toList], e2, e3] = fe) (hfe : fe ≠ 0) :
    Calls Try.prog 17 #[.pointer p, .string s] w fun x w' => x = .returned (er fe) ∧ Below w.heap.size w w' := by
  have hmf := hmk
  have h1 : (fe == 0) = false := by simp [hfe]
  have HS := Lib.hid hs; have H2 := Lib.hid G2; have H3 := Lib.hid G3; have HF := Lib.hid hf; have H0 := Lib.hid G0
  clear hs G2 G3 hf G0 hfe
  go_enter Try.func17, Try.ntmps17
  go_wp2_with (go_at_call 42; refine (isName_any _ _ HS.out).mono ?_; rintro x w' ⟨rfl, rfl⟩)
  refine (args_lits (w := w') rfl 1 _ _ [okName s.data.toList] rfl (by decide)).mono ?_
  rintro x w1 ⟨q1, rfl, hb1, g1⟩
  have HB1 := Lib.hid hb1; have HG1 := Lib.hid g1
  clear hb1 g1
  go_wp2_with (go_at_call 46; refine (isFree_makes _ _ _).mono ?_; rintro x w2 ⟨a, b, rfl, ka, kb, hb2⟩)
  have hb02 := HB1.out.trans (hb2.mono HB1.out.size)
  refine (first4 rfl _ _ (H0.out.below hb02) (fun _ => HG1.out.below hb2) (fun z0 z1 => H2.out z0 z1 w2 a b hb02 ka kb) (fun z0 z1 z2 => (H3.out z0 z1 z2).below hb02)).mono ?_
  rintro x w3 ⟨rfl, hb3⟩
  rw [HF.out]
  have HB3 := Lib.hid (hb02.trans (hb3.mono hb02.size))
  clear HB1 hb2 hb02 hb3
  go_wp2
  go_ret
  exact ⟨rfl, HB3.out⟩
-- the others
set_option maxHeartbeats 1000000 in
theorem append_fails (p : Option Addr) (s : ByteArray) (A : Option Addr) (n c : Nat) (w : World) (hs_s : s.size ≤ 140737488355328) (e0 e2 e3 fe : Int) (G0 : Gives w (fv 40 (.pointer p)) e0)
    (G2 : e0 = 0 → argErr [okName s.data.toList] = 0 → Chk2 w 72 (.pointer p) (.string s) e2)
    (G3 : e0 = 0 → argErr [okName s.data.toList] = 0 → e2 = 0 → Chk3 w 75 (.pointer p) (.string s) (.int .i64 (n : Int)) e3)
    (hf : firstErr [e0, argErr [okName s.data.toList], e2, e3] = fe) (hfe : fe ≠ 0) :
    Calls Try.prog 18 #[.pointer p, .string s, .slice A n c] w fun x w' => x = .returned (er fe) ∧ Below w.heap.size w w' := by
  have hmf := hmk
  have h1 : (fe == 0) = false := by simp [hfe]
  have HG2 := Lib.hid G2; have HG3 := Lib.hid G3; have HG0 := Lib.hid G0; have Hhf := Lib.hid hf; have Hhs_s := Lib.hid hs_s
  clear G2 G3 G0 hf hs_s hfe
  go_enter Try.func18, Try.ntmps18
  go_wp2_with fail
  refine (isName_any s _ Hhs_s.out).mono ?_
  rintro x w2 ⟨rfl, rfl⟩
  go_wp2_with fail
  refine (args_lits (w := w2) rfl 1 _ _ [okName s.data.toList] rfl (by decide)).mono ?_
  rintro x w3 ⟨q1, rfl, hb3, g1⟩
  have HB3 := Lib.hid hb3; have HG1 := Lib.hid g1
  clear hb3 g1
  go_wp2_with (go_at_call 43; refine (leads_makes _ _ _).mono ?_; rintro x w4 ⟨a0, b0, rfl, ka0, kb0, hb4⟩)
  have HC4 := Lib.hid (HB3.out.trans (hb4.mono HB3.out.size))
  have HG1 := Lib.hid (HG1.out.below hb4)
  have Ka0 := Lib.hid ka0; have Kb0 := Lib.hid kb0
  clear hb4
  go_wp2_with (go_at_call 48; refine (hasSpace_makes _ _ _ _).mono ?_; rintro x w5 ⟨a1, b1, c1, rfl, ka1, kb1, kc1, hb5⟩)
  have HC5 := Lib.hid (HC4.out.trans (hb5.mono HC4.out.size))
  have HG1 := Lib.hid (HG1.out.below hb5)
  have ka0 := ka0.below hb5
  have kb0 := kb0.below hb5
  have Ka0 := Lib.hid ka0; have Kb0 := Lib.hid kb0; have Ka1 := Lib.hid ka1; have Kb1 := Lib.hid kb1; have Kc1 := Lib.hid kc1
  clear hb5 ka0 kb0 ka1 kb1 kc1
  go_wp2_with fail
  refine (first4 rfl _ _ (HG0.out.below HC5.out) (fun _ => HG1.out) (fun z0 z1 => HG2.out z0 z1 w5 a0 b0 HC5.out Ka0.out Kb0.out) (fun z0 z1 z2 => HG3.out z0 z1 z2 w5 a1 b1 c1 HC5.out Ka1.out Kb1.out Kc1.out)).mono ?_
  rintro x w9 ⟨rfl, hb9⟩
  rw [Hhf.out]
  have HB9 := Lib.hid (HC5.out.trans (hb9.mono HC5.out.size))
  clear hb9
  go_wp2
  go_ret
  exact ⟨rfl, HB9.out⟩

set_option maxHeartbeats 1000000 in
theorem read_fails (p : Option Addr) (s : ByteArray) (at_ n : Int) (w : World) (hs_s : s.size ≤ 140737488355328) (e0 e2 e3 fe : Int) (G0 : Gives w (fv 40 (.pointer p)) e0)
    (G2 : e0 = 0 → argErr [okName s.data.toList, decide (0 ≤ at_), decide (0 ≤ n)] = 0 → Chk2 w 72 (.pointer p) (.string s) e2)
    (G3 : e0 = 0 → argErr [okName s.data.toList, decide (0 ≤ at_), decide (0 ≤ n)] = 0 → e2 = 0 → Chk4 w 73 (.pointer p) (.string s) (.int .i64 n) (.int .i64 at_) e3)
    (hf : firstErr [e0, argErr [okName s.data.toList, decide (0 ≤ at_), decide (0 ≤ n)], e2, e3] = fe) (hfe : fe ≠ 0) :
    Calls Try.prog 16 #[.pointer p, .string s, .int .i64 at_, .int .i64 n] w fun x w' => x = .returned (.tuple #[.slice none 0 0, er fe]) ∧ Below w.heap.size w w' := by
  have hmf := hmk
  have h1 : (fe != 0) = true := by simp [hfe]
  have HG2 := Lib.hid G2; have HG3 := Lib.hid G3; have HG0 := Lib.hid G0; have Hhf := Lib.hid hf; have Hhs_s := Lib.hid hs_s
  clear G2 G3 G0 hf hs_s hfe
  go_enter Try.func16, Try.ntmps16
  go_wp2_with fail
  refine (isName_any s _ Hhs_s.out).mono ?_
  rintro x w2 ⟨rfl, rfl⟩
  go_wp2_with fail
  refine (args_lits (w := w2) rfl 3 _ _ [okName s.data.toList, decide (0 ≤ at_), decide (0 ≤ n)] rfl (by decide)).mono ?_
  rintro x w3 ⟨q1, rfl, hb3, g1⟩
  have HB3 := Lib.hid hb3; have HG1 := Lib.hid g1
  clear hb3 g1
  go_wp2_with (go_at_call 43; refine (leads_makes _ _ _).mono ?_; rintro x w4 ⟨a0, b0, rfl, ka0, kb0, hb4⟩)
  have HC4 := Lib.hid (HB3.out.trans (hb4.mono HB3.out.size))
  have HG1 := Lib.hid (HG1.out.below hb4)
  have Ka0 := Lib.hid ka0; have Kb0 := Lib.hid kb0
  clear hb4
  go_wp2_with (go_at_call 44; refine (reaches_makes _ _ _ _ _).mono ?_; rintro x w5 ⟨a1, b1, c1, d1, rfl, ka1, kb1, kc1, kd1, hb5⟩)
  have HC5 := Lib.hid (HC4.out.trans (hb5.mono HC4.out.size))
  have HG1 := Lib.hid (HG1.out.below hb5)
  have ka0 := ka0.below hb5
  have kb0 := kb0.below hb5
  have Ka0 := Lib.hid ka0; have Kb0 := Lib.hid kb0; have Ka1 := Lib.hid ka1; have Kb1 := Lib.hid kb1; have Kc1 := Lib.hid kc1; have Kd1 := Lib.hid kd1
  clear hb5 ka0 kb0 ka1 kb1 kc1 kd1
  go_wp2_with fail
  refine (first4 rfl _ _ (HG0.out.below HC5.out) (fun _ => HG1.out) (fun z0 z1 => HG2.out z0 z1 w5 a0 b0 HC5.out Ka0.out Kb0.out) (fun z0 z1 z2 => HG3.out z0 z1 z2 w5 a1 b1 c1 d1 HC5.out Ka1.out Kb1.out Kc1.out Kd1.out)).mono ?_
  rintro x w9 ⟨rfl, hb9⟩
  rw [Hhf.out]
  have HB9 := Lib.hid (HC5.out.trans (hb9.mono HC5.out.size))
  clear hb9
  go_wp2
  go_ret2
  exact ⟨rfl, HB9.out⟩

set_option maxHeartbeats 1000000 in
theorem size_fails (p : Option Addr) (s : ByteArray) (w : World) (hs_s : s.size ≤ 140737488355328) (e0 e2 fe : Int) (G0 : Gives w (fv 40 (.pointer p)) e0)
    (G2 : e0 = 0 → argErr [okName s.data.toList] = 0 → Chk2 w 72 (.pointer p) (.string s) e2)
    (hf : firstErr [e0, argErr [okName s.data.toList], e2] = fe) (hfe : fe ≠ 0) :
    Calls Try.prog 15 #[.pointer p, .string s] w fun x w' => x = .returned (.tuple #[.int .i64 0, er fe]) ∧ Below w.heap.size w w' := by
  have hmf := hmk
  have h1 : (fe != 0) = true := by simp [hfe]
  have HG2 := Lib.hid G2; have HG0 := Lib.hid G0; have Hhf := Lib.hid hf; have Hhs_s := Lib.hid hs_s
  clear G2 G0 hf hs_s hfe
  go_enter Try.func15, Try.ntmps15
  go_wp2_with fail
  refine (isName_any s _ Hhs_s.out).mono ?_
  rintro x w2 ⟨rfl, rfl⟩
  go_wp2_with fail
  refine (args_lits (w := w2) rfl 1 _ _ [okName s.data.toList] rfl (by decide)).mono ?_
  rintro x w3 ⟨q1, rfl, hb3, g1⟩
  have HB3 := Lib.hid hb3; have HG1 := Lib.hid g1
  clear hb3 g1
  go_wp2_with (go_at_call 43; refine (leads_makes _ _ _).mono ?_; rintro x w4 ⟨a0, b0, rfl, ka0, kb0, hb4⟩)
  have HC4 := Lib.hid (HB3.out.trans (hb4.mono HB3.out.size))
  have HG1 := Lib.hid (HG1.out.below hb4)
  have Ka0 := Lib.hid ka0; have Kb0 := Lib.hid kb0
  clear hb4 ka0 kb0
  go_wp2_with fail
  refine (first3 rfl _ _ (HG0.out.below HC4.out) (fun _ => HG1.out) (fun z0 z1 => HG2.out z0 z1 w4 a0 b0 HC4.out Ka0.out Kb0.out)).mono ?_
  rintro x w9 ⟨rfl, hb9⟩
  rw [Hhf.out]
  have HB9 := Lib.hid (HC4.out.trans (hb9.mono HC4.out.size))
  clear hb9
  go_wp2
  go_ret2
  exact ⟨rfl, HB9.out⟩

set_option maxHeartbeats 1000000 in
theorem sync_fails (p : Option Addr) (s : ByteArray) (w : World) (hs_s : s.size ≤ 140737488355328) (e0 e2 fe : Int) (G0 : Gives w (fv 40 (.pointer p)) e0)
    (G2 : e0 = 0 → argErr [okName s.data.toList] = 0 → Chk2 w 72 (.pointer p) (.string s) e2)
    (hf : firstErr [e0, argErr [okName s.data.toList], e2] = fe) (hfe : fe ≠ 0) :
    Calls Try.prog 65 #[.pointer p, .string s] w fun x w' => x = .returned (er fe) ∧ Below w.heap.size w w' := by
  have hmf := hmk
  have h1 : (fe == 0) = false := by simp [hfe]
  have HG2 := Lib.hid G2; have HG0 := Lib.hid G0; have Hhf := Lib.hid hf; have Hhs_s := Lib.hid hs_s
  clear G2 G0 hf hs_s hfe
  go_enter Try.func65, Try.ntmps65
  go_wp2_with fail
  refine (isName_any s _ Hhs_s.out).mono ?_
  rintro x w2 ⟨rfl, rfl⟩
  go_wp2_with fail
  refine (args_lits (w := w2) rfl 1 _ _ [okName s.data.toList] rfl (by decide)).mono ?_
  rintro x w3 ⟨q1, rfl, hb3, g1⟩
  have HB3 := Lib.hid hb3; have HG1 := Lib.hid g1
  clear hb3 g1
  go_wp2_with (go_at_call 43; refine (leads_makes _ _ _).mono ?_; rintro x w4 ⟨a0, b0, rfl, ka0, kb0, hb4⟩)
  have HC4 := Lib.hid (HB3.out.trans (hb4.mono HB3.out.size))
  have HG1 := Lib.hid (HG1.out.below hb4)
  have Ka0 := Lib.hid ka0; have Kb0 := Lib.hid kb0
  clear hb4 ka0 kb0
  go_wp2_with fail
  refine (first3 rfl _ _ (HG0.out.below HC4.out) (fun _ => HG1.out) (fun z0 z1 => HG2.out z0 z1 w4 a0 b0 HC4.out Ka0.out Kb0.out)).mono ?_
  rintro x w9 ⟨rfl, hb9⟩
  rw [Hhf.out]
  have HB9 := Lib.hid (HC4.out.trans (hb9.mono HC4.out.size))
  clear hb9
  go_wp2
  go_ret
  exact ⟨rfl, HB9.out⟩

end Go.Proofs.Ytopcnlophmplgaa
