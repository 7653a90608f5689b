/-
  Package merges: manyOfFirst, visibleAt.
  Package merges: manyOfFirst, visibleAt.
  A loop over an iterator that hands each round only what may come next ('G'): without jumps out of its body.
  Package merges: byKey's iterator.
-/
import Derived.Test.YtoljldokehfokaaMgAB
import Derived.Deep.QuietTactic
import Derived.BigQuiet
import Derived.Test.YtoljldokehfokaaMgLX
import Derived.Test.YtoljldokehfokaaBase
import Derived.RangeFuncNested
import Derived.RangeFuncBound
import Derived.RangeFuncCalls
import Derived.RangeFuncLeaves
import Derived.OwnWalkIn
import Derived.TacticsInMore
import Derived.LoopNIn
import Derived.LoopIn
import Derived.Deep.RegionWith
import Derived.Shelf.RegionOpen
import Derived.Deep.Cut
namespace Go.Proofs.Ytoljldokehfokaa
open Go.RowKit
set_option linter.unusedVariables false
set_option maxRecDepth 100000

/-- what is told of the first one for which it holds -/
def IdxR (w : World) (S : List En) (p : En → Bool) (e : Ending) (w' : World) : Prop :=
  ∃ z : Int, e = .returned (.int .i64 z) ∧ ((∃ (i : Nat) (x : En), z = (i : Int) ∧ S[i]? = some x ∧ p x = true ∧ ∀ y ∈ S.take i, p y = false) ∨ (z = -1 ∧ ∀ y ∈ S, p y = false)) ∧ Below w.heap.size w w'
def IxL (w : World) (n : Nat) (S : List En) (p : En → Bool) (i : Value) (wr : World) : Prop := ∃ k : Nat, k ≤ n ∧ i = .int .i64 (k : Int) ∧ (∀ y ∈ S.take k, p y = false) ∧ Below w.heap.size w wr

set_option maxHeartbeats 4000000 in
theorem idx1_any {w : World} {B n c g : Nat} {A : Option Addr} {S : List En} (p : En → Bool) (hE : EL w B A n c S) (hn : n ≤ 1000000)
    (hp : ∀ x ∈ S, ∀ W, Below w.heap.size w W → Calls Try.prog 43 #[x.v, .pointer (some ⟨g, 0, none⟩)] W fun e W' => e = .returned (.bool (p x)) ∧ Below W.heap.size W W') :
    Calls Try.prog 34 #[.slice A n c, .func (.func 43) #[] #[.pointer (some ⟨g, 0, none⟩)]] w fun e w' => IdxR w S p e w' := by
  have hln := hE.lies.elen
  have HE := Lib.hid hE; have HLn := Lib.hid hln; have HP := Lib.hid hp
  have HS : Hid (IxL w n S p (.int .i64 0) w) := ⟨0, Nat.zero_le _, rfl, (fun y hy => by simp at hy), Below.refl _ _⟩
  clear hE hln hp
  go_enter Try.func34, Try.ntmps34
  go_wp2
  go_loopw [8] (fun i wr => IxL w n S p i wr) (fun i _ => n - (intOf i).toNat)
  case atStart => exact HS.out
  case round =>
    clear HS
    obtain ⟨k, hk, rfl, hno, hb⟩ := hrel
    by_cases hlt : k < n
    · have hEr : EL wr B A n c S := HE.out.below (hb.mono (Nat.le_refl _))
      obtain ⟨b, o, x, rfl, hbB, hx, x0, x1, x2, x3⟩ := hEr.lies.entry hlt
      have HC := Lib.hid (HP.out x (List.mem_of_getElem? hx) wr hb)
      unfold En.v at HC
      have HB := Lib.hid hb; have HX := Lib.hid hx; have HNo := Lib.hid hno
      have i0 : (0 : Int) ≤ (k : Int) := by omega
      have i1 : (k : Int) < (n : Int) := by omega
      have HM : Hid (n - (k + 1) < n - k) := by unfold Hid; omega
      clear hb hx hno hEr HE
      cases hpx : p x with
      | true =>
        have HPX := Lib.hid hpx
        rw [hpx] at HC
        clear hpx
        go_wp2_with fail
        refine HC.out.mono ?_
        rintro e w2 ⟨rfl, hb2⟩
        have HR : Hid (IdxR w S p (.returned (.int .i64 (k : Int))) w2) := ⟨k, rfl, .inl ⟨k, x, rfl, HX.out, HPX.out, HNo.out⟩, HB.out.trans (hb2.mono HB.out.size)⟩
        clear hb2 HC
        go_wp2
        go_ret
        exact HR.out
      | false =>
        have HPX := Lib.hid hpx
        rw [hpx] at HC
        clear hpx
        go_wp2_with fail
        refine HC.out.mono ?_
        rintro e w2 ⟨rfl, hb2⟩
        have HR : Hid (IxL w n S p (.int .i64 ((k : Int) + 1)) w2) := ⟨k + 1, hlt, by simp, fun y hy => by
          rw [List.take_add_one, HX.out] at hy
          rcases List.mem_append.1 hy with h | h
          · exact HNo.out y h
          · obtain rfl := List.mem_singleton.1 h
            exact HPX.out, HB.out.trans (hb2.mono HB.out.size)⟩
        clear hb2 HC
        go_wp2
        go_roundw
        case rel => exact HR.out
        case measure => simp [intOf]; have := HM.out; omega
    · obtain rfl : k = n := by omega
      have HR : Hid (IdxR w S p (.returned (.int .i64 (-1))) wr) := ⟨-1, rfl, .inr ⟨rfl, fun y hy => hno y (by rw [List.take_of_length_le (by rw [HLn.out]; exact Nat.le_refl _)]; exact hy)⟩, hb⟩
      clear hno hb HE
      go_wp2
      go_ret
      exact HR.out

set_option maxHeartbeats 4000000 in
theorem idx2_any {w : World} {B n c g : Nat} {A : Option Addr} {S : List En} (p : En → Bool) (hE : EL w B A n c S) (hn : n ≤ 1000000)
    (hp : ∀ x ∈ S, ∀ W, Below w.heap.size w W → Calls Try.prog 35 #[x.v, .pointer (some ⟨g, 0, none⟩)] W fun e W' => e = .returned (.bool (p x)) ∧ Below W.heap.size W W') :
    Calls Try.prog 34 #[.slice A n c, .func (.func 35) #[] #[.pointer (some ⟨g, 0, none⟩)]] w fun e w' => IdxR w S p e w' := by
  have hln := hE.lies.elen
  have HE := Lib.hid hE; have HLn := Lib.hid hln; have HP := Lib.hid hp
  have HS : Hid (IxL w n S p (.int .i64 0) w) := ⟨0, Nat.zero_le _, rfl, (fun y hy => by simp at hy), Below.refl _ _⟩
  clear hE hln hp
  go_enter Try.func34, Try.ntmps34
  go_wp2
  go_loopw [8] (fun i wr => IxL w n S p i wr) (fun i _ => n - (intOf i).toNat)
  case atStart => exact HS.out
  case round =>
    clear HS
    obtain ⟨k, hk, rfl, hno, hb⟩ := hrel
    by_cases hlt : k < n
    · have hEr : EL wr B A n c S := HE.out.below (hb.mono (Nat.le_refl _))
      obtain ⟨b, o, x, rfl, hbB, hx, x0, x1, x2, x3⟩ := hEr.lies.entry hlt
      have HC := Lib.hid (HP.out x (List.mem_of_getElem? hx) wr hb)
      unfold En.v at HC
      have HB := Lib.hid hb; have HX := Lib.hid hx; have HNo := Lib.hid hno
      have i0 : (0 : Int) ≤ (k : Int) := by omega
      have i1 : (k : Int) < (n : Int) := by omega
      have HM : Hid (n - (k + 1) < n - k) := by unfold Hid; omega
      clear hb hx hno hEr HE
      cases hpx : p x with
      | true =>
        have HPX := Lib.hid hpx
        rw [hpx] at HC
        clear hpx
        go_wp2_with fail
        refine HC.out.mono ?_
        rintro e w2 ⟨rfl, hb2⟩
        have HR : Hid (IdxR w S p (.returned (.int .i64 (k : Int))) w2) := ⟨k, rfl, .inl ⟨k, x, rfl, HX.out, HPX.out, HNo.out⟩, HB.out.trans (hb2.mono HB.out.size)⟩
        clear hb2 HC
        go_wp2
        go_ret
        exact HR.out
      | false =>
        have HPX := Lib.hid hpx
        rw [hpx] at HC
        clear hpx
        go_wp2_with fail
        refine HC.out.mono ?_
        rintro e w2 ⟨rfl, hb2⟩
        have HR : Hid (IxL w n S p (.int .i64 ((k : Int) + 1)) w2) := ⟨k + 1, hlt, by simp, fun y hy => by
          rw [List.take_add_one, HX.out] at hy
          rcases List.mem_append.1 hy with h | h
          · exact HNo.out y h
          · obtain rfl := List.mem_singleton.1 h
            exact HPX.out, HB.out.trans (hb2.mono HB.out.size)⟩
        clear hb2 HC
        go_wp2
        go_roundw
        case rel => exact HR.out
        case measure => simp [intOf]; have := HM.out; omega
    · obtain rfl : k = n := by omega
      have HR : Hid (IdxR w S p (.returned (.int .i64 (-1))) wr) := ⟨-1, rfl, .inr ⟨rfl, fun y hy => hno y (by rw [List.take_of_length_le (by rw [HLn.out]; exact Nat.le_refl _)]; exact hy)⟩, hb⟩
      clear hno hb HE
      go_wp2
      go_ret
      exact HR.out

set_option maxHeartbeats 4000000 in
theorem many1_any {w : World} {B n c g : Nat} {A : Option Addr} {y : En} {S : List En} (hE : EL w B A n c (y :: S)) (hg : w.cell? ⟨g, 0, none⟩ = some (.slice A n c)) (x : En) :
    Calls Try.prog 43 #[x.v, .pointer (some ⟨g, 0, none⟩)] w fun e w' => e = .returned (.bool (!decide (x.m.k = y.m.k))) ∧ Below w.heap.size w w' := by
  have hn : 0 < n := by rw [← hE.lies.elen]; simp
  obtain ⟨b, o, y', rfl, hbB, hy, y0, _⟩ := hE.lies.entry hn
  obtain rfl : y = y' := by simpa using hy
  rw [Nat.zero_mul, Nat.add_zero] at y0
  have hbw : b < w.heap.size := Nat.lt_of_lt_of_le hbB hE.B
  obtain ⟨b0, b1, b2, b3, hB, hz⟩ := enW_facts w x
  have e1 : (enW w x).cell? ⟨b, o, none⟩ = some (.string y.m.k) := (hB.cell hbw).trans y0
  have e2 : (enW w x).cell? ⟨g, 0, none⟩ = some (.slice (some ⟨b, o, none⟩) n c) := (hB.cell (World.block_lt_of_cell? w _ hg)).trans hg
  have HW : Hid (w.alloc (.cells #[.string x.m.k, .int .u64 (x.m.s : Int), .bool x.m.g, .string x.x] 31) = enW w x) := rfl
  obtain ⟨W, hW⟩ : ∃ W, enW w x = W := ⟨_, rfl⟩
  rw [hW] at b0 b1 b2 b3 hB e1 e2 HW
  have HB := Lib.hid hB
  have i0 : (0 : Int) < (n : Int) := by omega
  obtain ⟨q, hq⟩ : ∃ q, decide (x.m.k = y.m.k) = q := ⟨_, rfl⟩
  have heq := txt_eqB x.m.k y.m.k
  rw [hq] at heq
  have HQ := Lib.hid hq
  unfold En.v
  clear hE hg hy y0 hB hW hz hq
  go_enter Try.func43, Try.ntmps43
  go_wp2_with fail
  rw [HW.out]
  go_quiet (fail)
  have HF : Hid (Below w.heap.size w (W.drewN nq)) := below_drewN HB.out nq
  go_wp2
  go_ret
  exact ⟨congrArg (fun b => Ending.returned (.bool (!b))) HQ.out.symm, HF.out⟩

set_option maxHeartbeats 4000000 in
theorem vis1_any {w : World} {g : Nat} (s : Nat) (hg : w.cell? ⟨g, 0, none⟩ = some (.int .u64 (s : Int))) (x : En) :
    Calls Try.prog 35 #[x.v, .pointer (some ⟨g, 0, none⟩)] w fun e w' => e = .returned (.bool (decide (x.m.s ≤ s))) ∧ Below w.heap.size w w' := by
  have e2 : (w.alloc (.cells #[.string x.m.k, .int .u64 (x.m.s : Int), .bool x.m.g, .string x.x] 31)).cell? ⟨g, 0, none⟩ = some (.int .u64 (s : Int)) := ((enW_facts w x).2.2.2.2.1.cell (World.block_lt_of_cell? w _ hg)).trans hg
  have HB := Lib.hid (enW_facts w x).2.2.2.2.1
  unfold enW at HB
  unfold En.v
  clear hg
  by_cases h : x.m.s ≤ s
  · rw [decide_eq_true h]
    go_enter Try.func35, Try.ntmps35
    go_wp2
    go_ret
    exact ⟨by simp, HB.out⟩
  · rw [decide_eq_false h]
    go_enter Try.func35, Try.ntmps35
    go_wp2
    go_ret
    exact ⟨by simp, HB.out⟩
end Go.Proofs.Ytoljldokehfokaa

namespace Go.Proofs.Ytoljldokehfokaa
open Go.RowKit
set_option linter.unusedVariables false
set_option maxRecDepth 100000

/-- how many have the first one's key -/
def runN : List En → Nat
  | [] => 0
  | y :: t => ((y :: t).takeWhile fun z => decide (z.m.k = y.m.k)).length
theorem runN_cons (y : En) (t : List En) : runN (y :: t) = ((y :: t).takeWhile fun z => decide (z.m.k = y.m.k)).length := rfl
theorem takeW_len {p : En → Bool} : ∀ (S : List En) (i : Nat), (∀ y ∈ S.take i, p y = true) → (∀ x, S[i]? = some x → p x = false) → i ≤ S.length → (S.takeWhile p).length = i
  | [], i, _, _, h => by simp at h; subst h; rfl
  | y :: t, 0, _, h2, _ => by rw [List.takeWhile_cons, if_neg (by rw [h2 y rfl]; simp)]; rfl
  | y :: t, i + 1, h1, h2, h3 => by
    rw [List.takeWhile_cons, if_pos (h1 y (by simp)), List.length_cons, takeW_len t i (fun z hz => h1 z (by rw [List.take_succ_cons]; exact List.mem_cons_of_mem _ hz)) (fun x hx => h2 x hx) (by simpa using h3)]
theorem run_of {w w' : World} {y : En} {t : List En} {z : Int} {n : Nat} (hn : (y :: t).length = n) (h : (∃ (i : Nat) (x : En), z = (i : Int) ∧ (y :: t)[i]? = some x ∧ (!decide (x.m.k = y.m.k)) = true ∧ ∀ u ∈ (y :: t).take i, (!decide (u.m.k = y.m.k)) = false) ∨ (z = -1 ∧ ∀ u ∈ y :: t, (!decide (u.m.k = y.m.k)) = false)) :
    (0 ≤ z ∧ z = (runN (y :: t) : Int)) ∨ (z = -1 ∧ runN (y :: t) = n) := by
  rcases h with ⟨i, x, rfl, h1, h2, h3⟩ | ⟨rfl, h3⟩
  · refine .inl ⟨by omega, ?_⟩
    rw [runN_cons, takeW_len (p := fun z => decide (z.m.k = y.m.k)) _ i (fun u hu => by have := h3 u hu; simpa using this) (fun u hu => by rw [h1] at hu; injection hu with hu; subst hu; simpa using h2) (Nat.le_of_lt (List.getElem?_eq_some_iff.1 h1).1)]
  · refine .inr ⟨rfl, ?_⟩
    rw [runN_cons, takeW_len (p := fun z => decide (z.m.k = y.m.k)) _ n (fun u hu => by have := h3 u (List.mem_of_mem_take hu); simpa using this) (fun u hu => by rw [List.getElem?_eq_none (by omega)] at hu; cases hu) (by omega)]

set_option maxHeartbeats 4000000 in
theorem many_any {w : World} {B n c : Nat} {A : Option Addr} {S : List En} (hE : EL w B A n c S) (hn : n ≤ 1000000) :
    Calls Try.prog 33 #[.slice A n c] w fun e w' => e = .returned (.int .i64 (runN S : Int)) ∧ Below w.heap.size w w' := by
  have hmf : ∀ (fn : Fn) (first cap : Array Value) (w : World), (Instr.makeFunc fn first cap).run Try.prog w = .ok (.func fn first cap) w := fun _ _ _ _ => rfl
  have hb1 := al_belowM w (.cells #[.slice A n c] 22)
  have hE1 := hE.below hb1
  have hg1 : (w.alloc (.cells #[.slice A n c] 22)).cell? ⟨w.heap.size, 0, none⟩ = some (.slice A n c) := cell_of_row _ _ 0 _ _ (0, 0) (heap_alloc_new w _)
  have hl := hE.lies.elen
  have HI : Hid (Calls Try.prog 34 #[.slice A n c, .func (.func 43) #[] #[.pointer (some ⟨w.heap.size, 0, none⟩)]] (w.alloc (.cells #[.slice A n c] 22)) fun e w' => ∃ z : Int, e = .returned (.int .i64 z) ∧ ((0 ≤ z ∧ z = (runN S : Int)) ∨ (z < 0 ∧ runN S = n)) ∧ Below w.heap.size w w' ∧ w'.cell? ⟨w.heap.size, 0, none⟩ = some (.slice A n c)) := by
    cases S with
    | nil =>
      refine (idx1_any (fun _ => false) hE1 hn (fun x hx => by cases hx)).mono ?_
      rintro e w' ⟨z, rfl, h, hb⟩
      refine ⟨z, rfl, ?_, hb1.trans (hb.mono hb1.size), (hb.cell (World.block_lt_of_cell? _ _ hg1)).trans hg1⟩
      rcases h with ⟨i, x, _, h, _⟩ | ⟨rfl, _⟩
      · simp at h
      · exact .inr ⟨by omega, by rw [← hl]; rfl⟩
    | cons y t =>
      refine (idx1_any (fun x => !decide (x.m.k = y.m.k)) hE1 hn (fun x hx W hb => many1_any (hE1.below hb) ((hb.cell (World.block_lt_of_cell? _ _ hg1)).trans hg1) x)).mono ?_
      rintro e w' ⟨z, rfl, h, hb⟩
      refine ⟨z, rfl, ?_, hb1.trans (hb.mono hb1.size), (hb.cell (World.block_lt_of_cell? _ _ hg1)).trans hg1⟩
      rcases run_of (w := w) (w' := w') hl h with h5 | ⟨h4, h5⟩
      · exact .inl h5
      · exact .inr ⟨by omega, h5⟩
  clear hE hE1 hl hb1
  go_enter Try.func33, Try.ntmps33
  go_wp2_with fail
  refine HI.out.mono ?_
  rintro e w2 ⟨z, rfl, hz, hb, hc⟩
  have HB := Lib.hid hb
  clear hb HI hg1
  rcases hz with ⟨h0, h1⟩ | ⟨h0, h1⟩
  · have hzn : ¬ z < 0 := by omega
    have H1 := Lib.hid h1
    clear h1
    go_wp2
    go_ret
    exact ⟨congrArg (fun q => Ending.returned (.int .i64 q)) H1.out, HB.out⟩
  · have H1 := Lib.hid h1
    clear h1
    go_wp2
    go_ret
    exact ⟨congrArg (fun q : Nat => Ending.returned (.int .i64 (q : Int))) H1.out.symm, HB.out⟩

/-- the first one that is not above a number -/
def visF (S : List En) (s : Nat) : Option En := S.find? fun x => decide (x.m.s ≤ s)
theorem visF_of {S : List En} {s : Nat} {z : Int} (h : (∃ (i : Nat) (x : En), z = (i : Int) ∧ S[i]? = some x ∧ decide (x.m.s ≤ s) = true ∧ ∀ y ∈ S.take i, decide (y.m.s ≤ s) = false) ∨ (z = -1 ∧ ∀ y ∈ S, decide (y.m.s ≤ s) = false)) :
    (∃ (i : Nat) (x : En), z = (i : Int) ∧ S[i]? = some x ∧ visF S s = some x) ∨ (z = -1 ∧ visF S s = none) := by
  rcases h with ⟨i, x, rfl, h1, h2, h3⟩ | ⟨rfl, h3⟩
  · refine .inl ⟨i, x, rfl, h1, ?_⟩
    unfold visF
    rw [List.find?_eq_some_iff_getElem]
    obtain ⟨hi, rfl⟩ := List.getElem?_eq_some_iff.1 h1
    refine ⟨h2, i, hi, rfl, fun j hj => ?_⟩
    have := h3 S[j] (List.mem_take_iff_getElem.2 ⟨j, by omega, rfl⟩)
    rw [this]; rfl
  · refine .inr ⟨rfl, ?_⟩
    unfold visF
    rw [List.find?_eq_none]
    intro x hx
    rw [h3 x hx]; simp

abbrev noEn : En := ⟨⟨⟨#[]⟩, 0, false⟩, ⟨#[]⟩⟩
/-- what visibleAt answers -/
def VisA (w : World) (S : List En) (s : Nat) (e : Ending) (w' : World) : Prop :=
  ∃ (x : En) (b : Bool), e = .returned (.tuple #[.agg #[.string x.m.k, .int .u64 (x.m.s : Int), .bool x.m.g, .string x.x], .bool b]) ∧ ((b = true ∧ visF S s = some x) ∨ (b = false ∧ visF S s = none)) ∧ Below w.heap.size w w'

set_option maxHeartbeats 4000000 in
theorem visible_any {w : World} {B n c : Nat} {A : Option Addr} {S : List En} (s : Nat) (hE : EL w B A n c S) (hn : n ≤ 1000000) :
    Calls Try.prog 22 #[.slice A n c, .int .u64 (s : Int)] w fun e w' => VisA w S s e w' := by
  have hmf : ∀ (fn : Fn) (first cap : Array Value) (w : World), (Instr.makeFunc fn first cap).run Try.prog w = .ok (.func fn first cap) w := fun _ _ _ _ => rfl
  obtain ⟨W1, hW1⟩ : ∃ W1, w.alloc (.cells #[.int .u64 (s : Int)] 27) = W1 := ⟨_, rfl⟩
  have hb1 : Below w.heap.size w W1 := by rw [← hW1]; exact al_belowM w _
  have hs1 : W1.heap.size = w.heap.size + 1 := by rw [← hW1]; simp
  have hg1 : W1.cell? ⟨w.heap.size, 0, none⟩ = some (.int .u64 (s : Int)) := by rw [← hW1]; exact cell_of_row _ _ 0 _ _ (0, 0) (heap_alloc_new w _)
  obtain ⟨W2, hW2⟩ : ∃ W2, W1.alloc (.cells #[.string ⟨#[]⟩, .int .u64 0, .bool false, .string ⟨#[]⟩] 31) = W2 := ⟨_, rfl⟩
  have hb2 : Below W1.heap.size W1 W2 := by rw [← hW2]; exact al_belowM W1 _
  have hP2 : W2.heap[w.heap.size + 1]? = some (.cells #[.string ⟨#[]⟩, .int .u64 0, .bool false, .string ⟨#[]⟩] 31 (0, 0)) := by rw [← hW2, ← hs1]; exact heap_alloc_new W1 _
  have hg2 : W2.cell? ⟨w.heap.size, 0, none⟩ = some (.int .u64 (s : Int)) := (hb2.cell (by show w.heap.size < _; omega)).trans hg1
  have hB2 : Below w.heap.size w W2 := hb1.trans (hb2.mono hb1.size)
  have hE2 := hE.below hB2
  have HI := Lib.hid (idx2_any (fun x => decide (x.m.s ≤ s)) hE2 hn (fun x hx W hb => vis1_any s ((hb.cell (World.block_lt_of_cell? _ _ hg2)).trans hg2) x))
  have HW1 := Lib.hid hW1; have HW2 : Hid (W1.alloc (.cells #[.string ⟨#[]⟩, .int .u64 0, .bool false, .string ⟨#[]⟩] 31) = W2) := hW2
  have HB2 := Lib.hid hB2; have HP2 := Lib.hid hP2; have HE := Lib.hid hE2
  clear hW1 hW2 hb1 hs1 hg1 hb2 hP2 hg2 hB2 hE hE2
  go_enter Try.func22, Try.ntmps22
  go_wp2_with fail
  rw [HW1.out, HW2.out]
  refine HI.out.mono ?_
  rintro e w3 ⟨z, rfl, hz, hb⟩
  have hP3 := (hb.block _ (Array.getElem?_eq_some_iff.1 HP2.out).1).trans HP2.out
  have hE3 := HE.out.below hb
  have HB3 := Lib.hid (HB2.out.trans (hb.mono HB2.out.size))
  have HP3 := Lib.hid hP3
  have q0 := cell_of_row _ _ 0 _ _ (0, 0) hP3
  have q1 := cell_of_row _ _ 1 _ _ (0, 0) hP3
  have q2 := cell_of_row _ _ 2 _ _ (0, 0) hP3
  have q3 := cell_of_row _ _ 3 _ _ (0, 0) hP3
  have f0 : w3.frozen? ⟨w.heap.size + 1, 0, none⟩ = false := by simp [World.frozen?, hP3]
  have f1 : w3.frozen? ⟨w.heap.size + 1, 1, none⟩ = false := by simp [World.frozen?, hP3]
  have f2 : w3.frozen? ⟨w.heap.size + 1, 2, none⟩ = false := by simp [World.frozen?, hP3]
  have f3 : w3.frozen? ⟨w.heap.size + 1, 3, none⟩ = false := by simp [World.frozen?, hP3]
  rcases visF_of hz with ⟨i, x, rfl, hx, hv⟩ | ⟨rfl, hv⟩
  · have hin : i < n := by rw [← hE3.lies.elen]; exact (List.getElem?_eq_some_iff.1 hx).1
    obtain ⟨b, o, x', rfl, hbB, hx', x0, x1, x2, x3⟩ := hE3.lies.entry hin
    obtain rfl : x = x' := by rw [hx] at hx'; injection hx'
    have i0 : (0 : Int) ≤ (i : Int) := by omega
    have i1 : (i : Int) < (n : Int) := by omega
    have i2 : ¬ (i : Int) < 0 := by omega
    have hF := set4E_at hP3 x
    have t0 := cell_of_row _ _ 0 _ _ (0, 0) hF
    have t1 := cell_of_row _ _ 1 _ _ (0, 0) hF
    have t2 := cell_of_row _ _ 2 _ _ (0, 0) hF
    have t3 := cell_of_row _ _ 3 _ _ (0, 0) hF
    have HR : Hid (VisA w S s (.returned (.tuple #[.agg #[.string x.m.k, .int .u64 (x.m.s : Int), .bool x.m.g, .string x.x], .bool true])) (set4E w3 (w.heap.size + 1) x)) := ⟨x, true, rfl, .inl ⟨rfl, hv⟩, set4E_below HB3.out (by omega)⟩
    clear hz hb hP3 hE3 HW1 HW2 HB2 HP2 HE HI hx hx' hF hv
    go_wp2
    refine bodyPost_ret (v := .tuple #[.agg #[.string x.m.k, .int .u64 (x.m.s : Int), .bool x.m.g, .string x.x], .bool true]) (by simp [results, Try.results22, go_sem, t0, t1, t2, t3]) rfl ?_
    exact HR.out
  · have hF := set4E_at hP3 noEn
    have t0 : ((((w3.setCell ⟨w.heap.size + 1, 0, none⟩ (.string ⟨#[]⟩)).setCell ⟨w.heap.size + 1, 1, none⟩ (.int .u64 0)).setCell ⟨w.heap.size + 1, 2, none⟩ (.bool false)).setCell ⟨w.heap.size + 1, 3, none⟩ (.string ⟨#[]⟩)).cell? ⟨w.heap.size + 1, 0, none⟩ = some (.string ⟨#[]⟩) := cell_of_row _ _ 0 _ _ (0, 0) hF
    have t1 : ((((w3.setCell ⟨w.heap.size + 1, 0, none⟩ (.string ⟨#[]⟩)).setCell ⟨w.heap.size + 1, 1, none⟩ (.int .u64 0)).setCell ⟨w.heap.size + 1, 2, none⟩ (.bool false)).setCell ⟨w.heap.size + 1, 3, none⟩ (.string ⟨#[]⟩)).cell? ⟨w.heap.size + 1, 1, none⟩ = some (.int .u64 0) := cell_of_row _ _ 1 _ _ (0, 0) hF
    have t2 : ((((w3.setCell ⟨w.heap.size + 1, 0, none⟩ (.string ⟨#[]⟩)).setCell ⟨w.heap.size + 1, 1, none⟩ (.int .u64 0)).setCell ⟨w.heap.size + 1, 2, none⟩ (.bool false)).setCell ⟨w.heap.size + 1, 3, none⟩ (.string ⟨#[]⟩)).cell? ⟨w.heap.size + 1, 2, none⟩ = some (.bool false) := cell_of_row _ _ 2 _ _ (0, 0) hF
    have t3 : ((((w3.setCell ⟨w.heap.size + 1, 0, none⟩ (.string ⟨#[]⟩)).setCell ⟨w.heap.size + 1, 1, none⟩ (.int .u64 0)).setCell ⟨w.heap.size + 1, 2, none⟩ (.bool false)).setCell ⟨w.heap.size + 1, 3, none⟩ (.string ⟨#[]⟩)).cell? ⟨w.heap.size + 1, 3, none⟩ = some (.string ⟨#[]⟩) := cell_of_row _ _ 3 _ _ (0, 0) hF
    have HR : Hid (VisA w S s (.returned (.tuple #[.agg #[.string ⟨#[]⟩, .int .u64 0, .bool false, .string ⟨#[]⟩], .bool false])) ((((w3.setCell ⟨w.heap.size + 1, 0, none⟩ (.string ⟨#[]⟩)).setCell ⟨w.heap.size + 1, 1, none⟩ (.int .u64 0)).setCell ⟨w.heap.size + 1, 2, none⟩ (.bool false)).setCell ⟨w.heap.size + 1, 3, none⟩ (.string ⟨#[]⟩))) := ⟨noEn, false, rfl, .inr ⟨rfl, hv⟩, set4E_below (x := noEn) HB3.out (by omega)⟩
    clear hz hb hP3 hE3 HW1 HW2 HB2 HP2 HE HI hF hv
    go_wp2
    refine bodyPost_ret (v := .tuple #[.agg #[.string ⟨#[]⟩, .int .u64 0, .bool false, .string ⟨#[]⟩], .bool false]) (by simp [results, Try.results22, go_sem, t0, t1, t2, t3]) rfl ?_
    exact HR.out
end Go.Proofs.Ytoljldokehfokaa

namespace Go.Proofs.Ytoljldokehfokaa
open Go.RowKit
set_option linter.unusedVariables false

section
variable {α : Type} {P : Program} {m : Nat}
/-- how a round's body ends -/
def roundOk (B : Nat) (Kp : World → World → Prop) (I : List α → World → Prop) (xs : List α) (W : World) : Exit → Act → World → Prop
  | .normal, _, W' => KeepsFrom B W W' ∧ Kp W W' ∧ I xs W'
  | _, _, _ => False

theorem range_next {g : Operand} {ps : Array Tmp} {assign body : Code} {Q : Exit → Act → World → Prop} {a : Act} {w : World} {gf : Nat} {lb : Array Value} {encs : α → Array Value} {Kp : World → World → Prop} {G : List α → α → Prop} {S : List α → Prop}
    (hg : a.eval g = .func (.func gf) #[] lb) (eg : ∀ args w, (callFunc gf args).run P w = .ok (.enter gf args) w) (hps : ∀ x, (encs x).size = ps.size)
    (hKt : ∀ {A B C : World}, Kp A B → Kp B C → Kp A C) (hKb : ∀ (W : World) (l : Nat) (o o' : Obj), w.heap.size ≤ l → W.heap[l]? = some o → o.isCells = false → o.isWalk = false → Kp W (W.putObj l o'))
    (hseq : ∀ (l : Nat) (J : List α → World → Prop) (W : World), Below w.heap.size w W → AbidesFrom W.heap.size J →
      (∀ pre x W1, J pre W1 → G pre x → YieldAt Fence.wide m P l (encs x) W1 fun e W' => (e = .returned (.bool true) ∧ J (pre ++ [x]) W' ∧ Kp W1 W') ∨ (e = .returned (.bool false) ∧ False)) → J [] W →
      Calls P gf (#[.func (.yield l) #[] #[]] ++ lb) W fun e W' => (∃ v, e = .returned v) ∧ ∃ xs, S xs ∧ J xs W')
    (I : List α → World → Prop) (hI : OwnFrom w.heap.size I) (h0 : I [] w) (Ax : α → Act → World → Prop) (hAx : ∀ x a', OwnFrom w.heap.size (fun (_ : Unit) W => Ax x a' W))
    (hassign : ∀ (l : Nat) (pre : List α) (x : α) (W : World) (K : Act → World → Prop), I pre W → (∀ a' W', KeepsFrom w.heap.size W W' → Kp W W' → I pre W' → Ax x a' W' → K a' W') →
      assign.wpIn (Fence.wide.inRound l) m P (Exit.then K (fun _ _ _ => False)) { tmps := (ps.zip (encs x)).foldl (fun t (p, v) => t.setIfInBounds p v) a.tmps, defers := [] } W)
    (hbody : ∀ (l : Nat) (pre : List α) (x : α) (a' : Act) (W : World), I pre W → Ax x a' W → G pre x → body.wpIn (Fence.wide.inRound l) m P (roundOk w.heap.size Kp I (pre ++ [x]) W) a' W)
    (hdone : ∀ (D : Nat) (xs : List α) (W : World), w.heap.size ≤ D → S xs → I xs W → W.heap[D]? = some (.deferred (some [])) → Q .normal { a with defers := { target := .collected D, args := #[] } :: a.defers } W) :
    (Code.rangeFunc g ps assign body).wpIn Fence.wide (m + 1) P Q a w := by
  refine wpIn_rangeFunc fun fn hfn => ?_
  obtain ⟨L, hL⟩ : ∃ L : LoopState → Loop, L = fun st => { state := st, pending := none, fn, tmps := a.tmps, params := ps, assign, body, defers := w.heap.size } := ⟨_, rfl⟩
  obtain ⟨W1, hW1⟩ : ∃ W1, (w.alloc (.deferred (some []))).alloc (.loop (L .ready)) = W1 := ⟨_, rfl⟩
  have hgr : w.grownBy W1 none := by rw [← hW1]; exact (World.grownBy_alloc w _ none).trans (World.grownBy_alloc _ _ none)
  have hl1 : W1.heap[w.heap.size + 1]? = some (.loop (L .ready)) := by
    rw [← hW1]; have := World.alloc_heap_new (w.alloc (.deferred (some []))) (.loop (L .ready)); rwa [World.size_alloc] at this
  have hd1 : W1.heap[w.heap.size]? = some (.deferred (some [])) := by
    rw [← hW1]; exact (Below.heap_alloc _ _ _ (by simp)).trans (World.alloc_heap_new w _)
  have hb1 : Below w.heap.size w W1 := (Below.refl _ w).grown hgr (Nat.le_refl _) (fun k e => by cases e)
  have hs1 : W1.heap.size = w.heap.size + 2 := by rw [← hW1]; simp
  -- what holds between two rounds
  let J : List α → World → Prop := fun pre W => I pre W ∧ W.heap[w.heap.size + 1]? = some (.loop (L .ready)) ∧ W.heap[w.heap.size]? = some (.deferred (some []))
  have hJ : AbidesFrom W1.heap.size J := by
    rintro pre X Y row ⟨h1, h2, h3⟩ hgxy hr
    refine ⟨hI pre X Y row h1 hgxy (fun r e => ?_), ?_, ?_⟩
    · obtain ⟨hB, o, ho, hw⟩ := hr r e
      exact ⟨by omega, o, ho, Obj.not_cells_of_walk hw⟩
    · exact (grownBy_keeps hgxy (fun r e => (hr r e).2) h2 rfl).trans h2
    · exact (grownBy_keeps hgxy (fun r e => (hr r e).2) h3 rfl).trans h3
  refine ⟨w.heap.size + 1, [{ target := .collected w.heap.size, args := #[] }], W1, { target := .fn (.func gf) lb, args := #[.func (.yield (w.heap.size + 1)) #[] #[]] }, W1, gf, #[.func (.yield (w.heap.size + 1)) #[] #[]] ++ lb, W1, ?_, ?_, (fun f' _ => trivial), ?_, (fun _ => by omega), ?_⟩
  · rw [← hW1, hL]; exact run_enterLoop_outer _ _ _ _ _
  · simp only [resolve, hg]; simp [go_sem]
  · simp [invoke, go_sem, eg]
  · have key := hseq (w.heap.size + 1) J W1 hb1 hJ ?_ ⟨hI [] w W1 none h0 hgr (fun r e => by cases e), hl1, hd1⟩
    · refine callsIn_wide.2 (key.mono ?_)
      rintro e W2 ⟨⟨v, rfl⟩, xs, hS, hi, hl, hd⟩
      have he := run_endLoop (P := P) hl (by rw [hL]; simp)
      rw [hL] at he
      exact ⟨none, _, he, hdone _ xs _ (Nat.le_refl _) hS (hI.putObj _ hi (by omega) hl rfl) ((World.putObj_heap_other (by omega)).trans hd)⟩
    · rintro pre x W ⟨hi, hl, hd⟩ hG
      have hy := run_yield (P := P) (args := encs x) hl (by rw [hL]; exact hps x)
      rw [hL] at hy
      refine ⟨fn, _, assign, body, hy, roundIn_of_wpIn hfn (hassign _ pre x W _ hi fun a₁ W₁ hk1 hkp1 hi1 hax => ?_)⟩
      -- the round begins
      have hl' : W₁.heap[w.heap.size + 1]? = some (.loop (L .ready)) := hk1.same _ _ (by omega) hl rfl
      have hd' : W₁.heap[w.heap.size]? = some (.deferred (some [])) := hk1.same _ _ (Nat.le_refl _) hd rfl
      have hlt := (Array.getElem?_eq_some_iff.1 hl').1
      have hbg := run_beginRound (P := P) hl' (by rw [hL])
      refine ⟨_, hbg, ?_⟩
      have hkp2 : Kp W₁ (W₁.putObj (w.heap.size + 1) (.loop { L .ready with state := .busy })) := hKb _ _ _ _ (by omega) hl' rfl rfl
      have hl2 : (W₁.putObj (w.heap.size + 1) (.loop { L .ready with state := .busy })).heap[w.heap.size + 1]? = some (.loop { L .ready with state := .busy }) := World.putObj_heap_same hlt
      have hd2 : (W₁.putObj (w.heap.size + 1) (.loop { L .ready with state := .busy })).heap[w.heap.size]? = some (.deferred (some [])) := (World.putObj_heap_other (by omega)).trans hd'
      refine wpIn_mono (hbody _ pre x a₁ _ (hI.putObj _ hi1 (by omega) hl' rfl) ((hAx x a₁).putObj (s := ()) _ hax (by omega) hl' rfl) hG) ?_
      rintro e a3 W3 hp
      cases e with
      | normal =>
        obtain ⟨hk3, hkp3, hi3⟩ := hp
        have hl3 := hk3.same _ _ (by omega) hl2 rfl
        have hd3 := hk3.same _ _ (Nat.le_refl _) hd2 rfl
        have he := run_endRound (P := P) none hl3
        refine ⟨_, _, he, .inl ⟨rfl, ⟨hI.putObj _ hi3 (by omega) hl3 rfl, ?_, (World.putObj_heap_other (by omega)).trans hd3⟩, hKt (hKt hkp1 hkp2) (hKt hkp3 (hKb _ _ _ _ (by omega) hl3 rfl rfl))⟩⟩
        have e3 := World.putObj_heap_same (o := .loop { { L .ready with state := .busy } with state := if (none : Option Code).isNone then .ready else .done, pending := none }) (Array.getElem?_eq_some_iff.1 hl3).1
        rw [e3, hL]
        rfl
      | ret => exact hp.elim
      | exit id => exact hp.elim
      | goto t => exact hp.elim
      | panic ch => exact hp.elim
      | outgrown => exact hp.elim
end
end Go.Proofs.Ytoljldokehfokaa

namespace Go.Proofs.Ytoljldokehfokaa
open Go.RowKit
set_option linter.unusedVariables false
set_option maxRecDepth 100000

theorem grownM {w W : World} (h : Below w.heap.size w W) : w.grownBy W none := ⟨h.os, h.tape, h.output, h.size, fun i hi _ => h.block i hi⟩
/-- what a round keeps: the blocks of a set -/
def KpM (G : Nat → Prop) (W W' : World) : Prop := W.heap.size ≤ W'.heap.size ∧ ∀ i, G i → i < W.heap.size → W'.heap[i]? = W.heap[i]?
theorem KpM.trans {G : Nat → Prop} {A B C : World} (h : KpM G A B) (k : KpM G B C) : KpM G A C :=
  ⟨Nat.le_trans h.1 k.1, fun i hi hl => (k.2 i hi (Nat.lt_of_lt_of_le hl h.1)).trans (h.2 i hi hl)⟩
theorem KpM.below {G : Nat → Prop} {W W' : World} (h : Below W.heap.size W W') : KpM G W W' := ⟨h.size, fun i _ hl => h.block i hl⟩
theorem kpM_b {G : Nat → Prop} {w : World} (hG : ∀ i, G i → i < w.heap.size) (W : World) (l : Nat) (o o' : Obj) (hl : w.heap.size ≤ l) (h : W.heap[l]? = some o) (_ : o.isCells = false) (_ : o.isWalk = false) : KpM G W (W.putObj l o') := by
  refine ⟨by simp, fun i hi hlt => ?_⟩
  exact World.putObj_heap_other (by have := hG i hi; omega)
theorem KpM.el {B n c : Nat} {A : Option Addr} {S : List En} {W W' : World} (h : KpM (fun i => i < B) W W') (he : EL W B A n c S) : EL W' B A n c S :=
  el_keepM he (fun p hp => World.cell?_of_block (h.2 _ hp (Nat.lt_of_lt_of_le hp he.B))) h.1

/-! the runs of a list that rises -/
theorem rise_keyLe {x : En} {t : List En} (h : Rise (x :: t)) : ∀ y ∈ t, cmpS x.m.k y.m.k ≤ 0 := fun y hy => by
  have := (List.pairwise_cons.1 h).1 y hy
  rw [cmpM_eq] at this
  by_cases e : cmpS x.m.k y.m.k = 0
  · omega
  · rw [if_pos e] at this; omega
theorem key_lt {a b d : ByteArray} (h : cmpS a b ≤ 0) (hn : a ≠ b) (h2 : cmpS b d ≤ 0) : a ≠ d := by
  rintro rfl
  have h3 := tri_S.turn a b
  have h4 : cmpS a b = 0 := by omega
  exact hn (tri_S.same _ _ h4)
theorem dropW_head {α : Type} {p : α → Bool} : ∀ (S : List α) (y : α) (R : List α), S.dropWhile p = y :: R → p y = false
  | [], y, R, h => by cases h
  | a :: t, y, R, h => by
    rw [List.dropWhile_cons] at h
    by_cases e : p a = true
    · rw [if_pos e] at h; exact dropW_head t y R h
    · rw [if_neg e] at h
      injection h with h1 h2
      subst h1
      exact Bool.eq_false_iff.2 e
theorem take_tw {α : Type} (p : α → Bool) (S : List α) : S.take (S.takeWhile p).length = S.takeWhile p := by
  have h := List.take_left (l₁ := S.takeWhile p) (l₂ := S.dropWhile p)
  rwa [List.takeWhile_append_dropWhile] at h
theorem drop_tw {α : Type} (p : α → Bool) (S : List α) : S.drop (S.takeWhile p).length = S.dropWhile p := by
  have h := List.drop_left (l₁ := S.takeWhile p) (l₂ := S.dropWhile p)
  rwa [List.takeWhile_append_dropWhile] at h
/-- behind the run of the first one's key nobody has that key -/
theorem run_apart {x : En} {t : List En} (h : Rise (x :: t)) : (∀ a ∈ (x :: t).take (runN (x :: t)), a.m.k = x.m.k) ∧ ∀ b ∈ (x :: t).drop (runN (x :: t)), x.m.k ≠ b.m.k := by
  have e2 : (x :: t).take (runN (x :: t)) = (x :: t).takeWhile fun z => decide (z.m.k = x.m.k) := by rw [runN_cons]; exact take_tw _ _
  have e3 : (x :: t).drop (runN (x :: t)) = (x :: t).dropWhile fun z => decide (z.m.k = x.m.k) := by rw [runN_cons]; exact drop_tw _ _
  refine ⟨fun a ha => ?_, fun b hb => ?_⟩
  · rw [e2] at ha
    have h3 := take_while_mem (fun z : En => decide (z.m.k = x.m.k)) _ _ ha
    exact of_decide_eq_true h3
  · rw [e3] at hb
    cases hd : (x :: t).dropWhile fun z => decide (z.m.k = x.m.k) with
    | nil => rw [hd] at hb; cases hb
    | cons y R =>
      rw [hd] at hb
      have hy0 := dropW_head (p := fun z : En => decide (z.m.k = x.m.k)) _ _ _ hd
      have hy : ¬ y.m.k = x.m.k := of_decide_eq_false hy0
      have hsub : List.Sublist (y :: R) (x :: t) := by rw [← hd]; exact List.dropWhile_sublist _
      have hyt : y ∈ t := by
        rcases List.mem_cons.1 (hsub.mem (List.mem_cons_self ..)) with e | e
        · exact absurd (congrArg (fun z : En => z.m.k) e) hy
        · exact e
      have hxy := rise_keyLe h y hyt
      rcases List.mem_cons.1 hb with rfl | hb
      · exact fun e => hy e.symm
      · exact key_lt hxy (fun e => hy e.symm) (rise_keyLe (h.sublist hsub) b hb)
theorem runN_pos (x : En) (t : List En) : 1 ≤ runN (x :: t) := by rw [runN_cons, List.takeWhile_cons, if_pos (by simp)]; simp
theorem runN_le (S : List En) : runN S ≤ S.length := by
  cases S with
  | nil => exact Nat.le_refl _
  | cons x t => rw [runN_cons]; exact (List.takeWhile_prefix _).length_le

def flatL (pre : List Ls) : List En := (pre.map Ls.l).flatten
theorem flatL_snoc (pre : List Ls) (x : Ls) : flatL (pre ++ [x]) = flatL pre ++ x.l := by unfold flatL; simp
/-- what has come, and what is to come -/
structure GrpI (S : List En) (pre : List Ls) (r : List En) : Prop where
  eq : S = flatL pre ++ r
  ne : ∀ a ∈ flatL pre, ∀ b ∈ r, a.m.k ≠ b.m.k
/-- what is handed on -/
structure GrpG (S : List En) (w0 : World) (B : Nat) (pre : List Ls) (x : Ls) : Prop where
  el : EL w0 B x.A x.n x.c x.l
  one : ∃ y t, x.l = y :: t ∧ ∀ a ∈ x.l, a.m.k = y.m.k
  ne : ∀ a ∈ flatL pre, ∀ b ∈ x.l, a.m.k ≠ b.m.k
  more : ∃ R, S = (flatL pre ++ x.l) ++ R
theorem GrpI.next {S : List En} {pre : List Ls} {x : En} {t : List En} {w0 : World} {B n c : Nat} {A : Option Addr} (h : GrpI S pre (x :: t)) (hr : Rise S) (he : EL w0 B A n c (x :: t)) :
    GrpG S w0 B pre ⟨A, runN (x :: t), c, (x :: t).take (runN (x :: t))⟩ ∧ GrpI S (pre ++ [⟨A, runN (x :: t), c, (x :: t).take (runN (x :: t))⟩]) ((x :: t).drop (runN (x :: t))) := by
  have hrt : Rise (x :: t) := by have := hr; rw [h.eq] at this; exact (List.pairwise_append.1 this).2.1
  obtain ⟨a1, a2⟩ := run_apart hrt
  have hle := runN_le (x :: t)
  have hln := he.lies.elen
  have hp := runN_pos x t
  have hnc := he.nc
  refine ⟨⟨⟨?_, he.B, by show runN (x :: t) ≤ c; omega, he.cc, fun e h => he.sz e (List.mem_of_mem_take h)⟩, ?_, fun a ha b hb => h.ne a ha b (List.mem_of_mem_take hb), ?_⟩, ⟨?_, fun a ha b hb => ?_⟩⟩
  · have := he.lies.takeE (m := runN (x :: t)) (by omega)
    rw [ecs_take] at this
    exact this
  · obtain ⟨k, hk⟩ : ∃ k, runN (x :: t) = k + 1 := ⟨runN (x :: t) - 1, by omega⟩
    refine ⟨x, t.take k, ?_, a1⟩
    show (x :: t).take (runN (x :: t)) = _
    rw [hk]; rfl
  · refine ⟨(x :: t).drop (runN (x :: t)), ?_⟩
    rw [List.append_assoc, List.take_append_drop]; exact h.eq
  · rw [flatL_snoc, List.append_assoc, List.take_append_drop]; exact h.eq
  · rw [flatL_snoc] at ha
    rcases List.mem_append.1 ha with ha | ha
    · exact h.ne a ha b (List.mem_of_mem_drop hb)
    · rw [a1 a ha]; exact a2 b hb

theorem byKey_any (n c : Nat) (A : Option Addr) (w : World) :
    Calls Try.prog 21 #[.slice A n c] w fun e w' => e = .returned (.func (.func 32) #[] #[.pointer (some ⟨w.heap.size, 0, none⟩)]) ∧ w' = w.alloc (.cells #[.slice A n c] 22) := by
  have hmf : ∀ (fn : Fn) (first cap : Array Value) (w : World), (Instr.makeFunc fn first cap).run Try.prog w = .ok (.func fn first cap) w := fun _ _ _ _ => rfl
  go_enter Try.func21, Try.ntmps21
  go_wp2
  go_ret
  exact ⟨rfl, rfl⟩
/-- what holds between two rounds -/
def BkyR (S : List En) (w0 : World) (B : Nat) (J : List Ls → World → Prop) (v k : Value) (wr : World) : Prop :=
  ∃ (pre : List Ls) (A : Option Addr) (m c : Nat) (r : List En), v = .slice A m c ∧ k = .int .i64 (runN r : Int) ∧ J pre wr ∧ EL w0 B A m c r ∧ KpM (fun i => i < B) w0 wr ∧ GrpI S pre r ∧ m ≤ 1000000

set_option maxHeartbeats 4000000 in
theorem bky1_any (m l Bs B n c : Nat) (A : Option Addr) (S : List En) (hr : Rise S) (hn : n ≤ 1000000)
    (J : List Ls → World → Prop) (W : World) (hJ : AbidesFrom W.heap.size J) (hE : EL W B A n c S)
    (hY : ∀ pre x W1, J pre W1 → GrpG S W B pre x → YieldAt Fence.wide m Try.prog l #[x.v] W1 fun e W' => (e = .returned (.bool true) ∧ J (pre ++ [x]) W' ∧ KpM (fun i => i < B) W1 W') ∨ (e = .returned (.bool false) ∧ False))
    (hs : W.cell? ⟨Bs, 0, none⟩ = some (.slice A n c)) (h0 : J [] W) :
    Calls Try.prog 32 (#[.func (.yield l) #[] #[]] ++ #[.pointer (some ⟨Bs, 0, none⟩)]) W fun e W' => (∃ v, e = .returned v) ∧ ∃ xs : List Ls, flatL xs = S ∧ J xs W' := by
  have HJ := Lib.hid hJ; have HY := Lib.hid hY; have H0 := Lib.hid h0; have HE := Lib.hid hE; have HR := Lib.hid hr
  have HMn := Lib.hid (many_any hE hn)
  clear hJ hY h0 hE hr
  simp only [List.append_toArray, List.cons_append, List.nil_append]
  go_enter Try.func32, Try.ntmps32
  go_wp2_with fail
  refine HMn.out.mono ?_
  rintro e w1 ⟨rfl, hb1⟩
  have HRel : Hid (BkyR S W B J (.slice A n c) (.int .i64 (runN S : Int)) w1) := ⟨[], A, n, c, S, rfl, rfl, HJ.out _ _ _ none H0.out (grownM hb1) (fun r e => by cases e), HE.out, KpM.below hb1, ⟨rfl, fun a ha => by simp [flatL] at ha⟩, hn⟩
  have hws := hb1.size
  clear hb1 HMn hs H0
  go_wp2_with fail
  go_loopw [3, 4] (fun v k wr => W.heap.size ≤ wr.heap.size ∧ BkyR S W B J v k wr) (fun v _ _ => lenV v)
  case atStart => exact ⟨hws, HRel.out⟩
  case round =>
    clear HRel
    obtain ⟨hsz, pre, A2, m2, c2, r, rfl, rfl, hj, hel, hkp, hg, hm2⟩ := hrel
    cases r with
    | nil =>
      have hm0 : m2 = 0 := by have := hel.lies.elen; simpa using this.symm
      have HFin : Hid (∃ xs : List Ls, flatL xs = S ∧ J xs wr) := ⟨pre, by have := hg.eq; rw [List.append_nil] at this; exact this.symm, hj⟩
      have hd : decide ((0 : Int) < ((runN ([] : List En) : Nat) : Int)) = false := rfl
      have hk0 : ((runN ([] : List En) : Nat) : Int) = 0 := rfl
      rw [hk0]
      clear hj hel hkp hg hd hk0
      go_wp2
      go_end0
      exact ⟨⟨_, rfl⟩, HFin.out⟩
    | cons y t =>
      obtain ⟨hG, hI⟩ := hg.next HR.out hel
      have hle := runN_le (y :: t)
      have hln := hel.lies.elen
      have hp := runN_pos y t
      obtain ⟨k, hk⟩ : ∃ k, runN (y :: t) = k := ⟨_, rfl⟩
      rw [hk] at hG hI hle hp ⊢
      obtain ⟨fn, tmps, assign, body, hy, hR⟩ := HY.out pre _ wr hj hG
      have hy : (Instr.yield l #[.slice A2 k c2]).run Try.prog wr = .ok (.round l fn tmps assign body) wr := hy
      have HRd := Lib.hid hR
      have hnc := hel.nc
      have hhead := fun W => run_headE W A2 m2 c2 k (by omega)
      have hcut := fun W => run_cutE W A2 m2 c2 k (by omega)
      have hki : (0 : Int) < (k : Int) := by omega
      have hd : decide ((0 : Int) < (k : Int)) = true := decide_eq_true hki
      have hel2 : EL W B (cutE A2 c2 k) (m2 - k) (c2 - k) ((y :: t).drop k) := by
        refine ⟨?_, hel.B, by omega, by have := hel.cc; omega, fun e he => hel.sz e (List.mem_of_mem_drop he)⟩
        have := hel.lies.cutE (m := k) (by omega) hnc
        rw [ecs_drop] at this
        exact this
      have HI := Lib.hid hI; have HEl := Lib.hid hel2; have HKp := Lib.hid hkp
      have HM : Hid (m2 - k < m2) := by unfold Hid; omega
      clear hR hj hG hI hel hel2 hkp hg hle hln hk
      refine (wpIn_wide (n := m + 1)).1 ?_
      gi_wp2_with fail
      refine HRd.out.mono ?_
      rintro e W6 (⟨rfl, hJ6, hk6⟩ | ⟨_, hf⟩)
      · have hk7 := HKp.out.trans hk6
        have HMn := Lib.hid (many_any (hk7.el HEl.out) (by omega))
        have HK7 := Lib.hid hk7; have HJ6 := Lib.hid hJ6
        clear hJ6 hk6 hk7 hy
        gi_wp2_with fail
        refine ⟨trivial, (callsIn_wide.2 HMn.out).mono ?_⟩
        rintro e w8 ⟨rfl, hb8⟩
        have HFin : Hid (W.heap.size ≤ w8.heap.size ∧ BkyR S W B J (.slice (cutE A2 c2 k) (m2 - k) (c2 - k)) (.int .i64 (runN ((y :: t).drop k) : Int)) w8) :=
          ⟨Nat.le_trans HK7.out.1 hb8.size, pre ++ [⟨A2, k, c2, (y :: t).take k⟩], _, _, _, _, rfl, rfl, HJ.out _ _ _ none HJ6.out (grownM hb8) (fun r e => by cases e), HEl.out, HK7.out.trans (KpM.below hb8), HI.out, by omega⟩
        clear hb8 HMn HK7 HJ6
        gi_wp2_with fail
        go_wp2
        go_roundw
        case rel => exact HFin.out
        case measure => simp [lenV]; have := HM.out; omega
      · exact hf.elim
end Go.Proofs.Ytoljldokehfokaa

