/-
  Sorting of a few numbers: cmp.Less, slices' insertion sort, slices.Sort.
  Sorting of a few numbers: slices.Sort, slices.Sorted(slices.Values(l)).
  slices.Sorted(slices.Values(l)) of a few numbers.
  slices.BinarySearch of numbers; package merges: withoutGoneAtEnd.
-/
import Derived.Test.YtoljldokehfokaaBase
import Derived.BigRegion
import Derived.LoopTactic
import Derived.Deep.LoopGhost
import Derived.Deep.QuietTactic
import Derived.BigQuiet
import Derived.Test.YtoljldokehfokaaMgPR
import Derived.Test.YtoljldokehfokaaMgST
namespace Go.Proofs.Ytoljldokehfokaa
open Go.RowKit
set_option linter.unusedVariables false
set_option maxRecDepth 100000

def uv (x : Nat) : Value := .int .u64 (x : Int)
theorem nanU_any (x : Nat) (w : World) : Calls Try.prog 41 #[.int .u64 (x : Int)] w fun e w' => e = .returned (.bool false) ∧ w = w' := by
  go_enter Try.func41, Try.ntmps41
  go_wp2
  go_ret
  exact ⟨by simp, rfl⟩
set_option maxHeartbeats 1000000 in
theorem lessU_any (x y : Nat) (w : World) : Calls Try.prog 51 #[.int .u64 (x : Int), .int .u64 (y : Int)] w fun e w' => e = .returned (.bool (decide (x < y))) ∧ w = w' := by
  by_cases h : x < y
  · have i1 : (x : Int) < (y : Int) := by omega
    go_enter Try.func51, Try.ntmps51
    go_wp2_with (go_at_call 41; refine (nanU_any _ _).mono ?_; rintro e w' ⟨rfl, rfl⟩)
    go_ret
    exact ⟨by simp [h], rfl⟩
  · have i1 : ¬ (x : Int) < (y : Int) := by omega
    go_enter Try.func51, Try.ntmps51
    go_wp2_with (go_at_call 41; refine (nanU_any _ _).mono ?_; rintro e w' ⟨rfl, rfl⟩)
    go_ret
    exact ⟨by simp [h], rfl⟩

/-- a row of numbers, by its block -/
def RU (w : World) (q cap : Nat) (l : List Nat) : Prop := ∃ cur : Array Value, w.heap[q]? = some (.cells cur 27 (0, 0)) ∧ cur.size = cap ∧ ∀ (i x : Nat), l[i]? = some x → cur[i]? = some (uv x)
section
variable {w w2 : World} {q cap : Nat} {l : List Nat}
theorem RU.cell (h : RU w q cap l) {i x : Nat} (hx : l[i]? = some x) : w.cell? ⟨q, i, none⟩ = some (.int .u64 (x : Int)) := by
  obtain ⟨cur, hc, _, hh⟩ := h
  rw [cell_of_row _ _ i _ _ (0, 0) hc]
  exact hh i x hx
theorem RU.frozen (h : RU w q cap l) (i : Nat) : w.frozen? ⟨q, i, none⟩ = false := by
  obtain ⟨cur, hc, _⟩ := h
  simp [World.frozen?, hc]
theorem RU.set (h : RU w q cap l) {i : Nat} (x : Nat) (hi : i < l.length) : RU (w.setCell ⟨q, i, none⟩ (.int .u64 (x : Int))) q cap (l.set i x) := by
  obtain ⟨cur, hc, hs, hh⟩ := h
  refine ⟨cur.setIfInBounds i (.int .u64 (x : Int)), by simp [World.setCell, Array.getElem?_modify, hc], by simpa using hs, fun j y hy => ?_⟩
  have hic : i < cur.size := (Array.getElem?_eq_some_iff.1 (hh i _ (List.getElem?_eq_getElem hi))).1
  rw [List.getElem?_set] at hy
  rw [Array.getElem?_setIfInBounds]
  by_cases e : i = j
  · subst e
    simp [hi] at hy
    subst hy
    simp [hic, uv]
  · rw [if_neg e] at hy ⊢
    exact hh j y hy
theorem RU.up (h : RU w q cap l) (hb : w2.heap[q]? = w.heap[q]?) : RU w2 q cap l := by
  obtain ⟨cur, hc, hs, hh⟩ := h
  exact ⟨cur, hb.trans hc, hs, hh⟩
end
/-- all up to a place in order, but for the one on its way down -/
def InsI (l : List Nat) (i j : Nat) : Prop := ∀ a b x y : Nat, a < b → b ≤ i → b ≠ j → l[a]? = some x → l[b]? = some y → x ≤ y
theorem InsI.start {l : List Nat} {i : Nat} (h : ∀ a b x y : Nat, a < b → b < i → l[a]? = some x → l[b]? = some y → x ≤ y) : InsI l i i := fun a b x y h1 h2 h3 hx hy => h a b x y h1 (by omega) hx hy
theorem InsI.zero {l : List Nat} {i : Nat} (h : InsI l i 0) : ∀ a b x y : Nat, a < b → b < i + 1 → l[a]? = some x → l[b]? = some y → x ≤ y := fun a b x y h1 h2 hx hy => h a b x y h1 (by omega) (by omega) hx hy
theorem InsI.stop {l : List Nat} {i j u v : Nat} (h : InsI l i (j + 1)) (hu : l[j]? = some u) (hv : l[j + 1]? = some v) (huv : u ≤ v) : ∀ a b x y : Nat, a < b → b < i + 1 → l[a]? = some x → l[b]? = some y → x ≤ y := fun a b x y h1 h2 hx hy => by
  by_cases hb : b = j + 1
  · subst hb
    rw [hv] at hy; injection hy with hy; subst hy
    by_cases ha : a = j
    · subst ha; rw [hu] at hx; injection hx with hx; omega
    · have := h a j x u (by omega) (by omega) (by omega) hx hu; omega
  · exact h a b x y h1 (by omega) hb hx hy
theorem swp_at {l : List Nat} {j u v : Nat} (hu : l[j]? = some u) (hv : l[j + 1]? = some v) (k : Nat) : ((l.set (j + 1) u).set j v)[k]? = if k = j then some v else if k = j + 1 then some u else l[k]? := by
  have h1 := (List.getElem?_eq_some_iff.1 hu).1
  have h2 := (List.getElem?_eq_some_iff.1 hv).1
  by_cases e : k = j
  · subst e; simp [h1]
  · rw [if_neg e, List.getElem?_set, if_neg (fun q => e q.symm)]
    by_cases e2 : k = j + 1
    · subst e2; simp [h2]
    · rw [if_neg e2, List.getElem?_set, if_neg (fun q => e2 q.symm)]
theorem InsI.step {l : List Nat} {i j u v : Nat} (h : InsI l i (j + 1)) (hji : j + 1 ≤ i) (hu : l[j]? = some u) (hv : l[j + 1]? = some v) (hvu : v < u) : InsI ((l.set (j + 1) u).set j v) i j := fun a b x y h1 h2 h3 hx hy => by
  rw [swp_at hu hv] at hx hy
  rw [if_neg h3] at hy
  by_cases hb : b = j + 1
  · rw [if_pos hb] at hy; injection hy with hy; subst hy
    by_cases ha : a = j
    · rw [if_pos ha] at hx; injection hx with hx; omega
    · rw [if_neg ha, if_neg (by omega)] at hx
      exact h a j x u (by omega) (by omega) (by omega) hx hu
  · rw [if_neg hb] at hy
    by_cases ha : a = j
    · rw [if_pos ha] at hx; injection hx with hx; subst hx
      exact h (j + 1) b _ y (by omega) h2 hb hv hy
    · rw [if_neg ha] at hx
      by_cases ha2 : a = j + 1
      · rw [if_pos ha2] at hx; injection hx with hx; subst hx
        exact h j b _ y (by omega) h2 hb hu hy
      · rw [if_neg ha2] at hx
        exact h a b x y h1 h2 hb hx hy
theorem swpN_perm {l : List Nat} {j u v : Nat} (hu : l[j]? = some u) (hv : l[j + 1]? = some v) : ((l.set (j + 1) u).set j v).Perm l := by
  obtain ⟨h1, rfl⟩ := List.getElem?_eq_some_iff.1 hu
  obtain ⟨h2, rfl⟩ := List.getElem?_eq_some_iff.1 hv
  exact List.set_set_perm h2 h1

/-- the outer loop -/
def IsO (w : World) (q cap n : Nat) (l : List Nat) (v : Value) (wr : World) : Prop :=
  ∃ (i : Nat) (l2 : List Nat), v = .int .i64 (i : Int) ∧ RU wr q cap l2 ∧ l2.Perm l ∧ w.grownBy wr (some q) ∧ ∀ a b x y : Nat, a < b → b < i → l2[a]? = some x → l2[b]? = some y → x ≤ y
/-- the inner loop -/
def IsI (w : World) (q cap n i : Nat) (l : List Nat) (v : Value) (wr : World) : Prop :=
  ∃ (j : Nat) (l2 : List Nat), v = .int .i64 (j : Int) ∧ j ≤ i ∧ RU wr q cap l2 ∧ l2.Perm l ∧ w.grownBy wr (some q) ∧ InsI l2 i j

set_option maxHeartbeats 4000000 in
theorem insSort_any (q cap n : Nat) (l : List Nat) (w : World) (hR : RU w q cap l) (hn : l.length = n) (h2 : n ≤ 1000000) :
    Calls Try.prog 53 #[.slice (some ⟨q, 0, none⟩) n cap, .int .i64 0, .int .i64 (n : Int)] w fun e w' => e = .returned (.tuple #[]) ∧ ∃ l2 : List Nat, RU w' q cap l2 ∧ l2.Perm l ∧ l2.Pairwise (· ≤ ·) ∧ w.grownBy w' (some q) := by
  have HS : Hid (IsO w q cap n l (.int .i64 1) w) := ⟨1, l, rfl, hR, List.Perm.refl _, World.grownBy.refl w _, fun a b x y h1 h2 _ _ => by omega⟩
  have HN := Lib.hid hn
  clear hR hn
  go_enter Try.func53, Try.ntmps53
  go_wp2
  go_loopw [6] (fun v wr => IsO w q cap n l v wr) (fun v _ => n - (intOf v).toNat)
  case atStart => exact HS.out
  case round =>
    clear HS
    obtain ⟨i, l2, rfl, hr, hp, hg, hs⟩ := hrel
    by_cases hlt : i < n
    · have HP : Hid (IsI w q cap n i l (.int .i64 (i : Int)) wr) := ⟨i, l2, rfl, Nat.le_refl _, hr, hp, hg, InsI.start hs⟩
      have i1 : (i : Int) < (n : Int) := by omega
      have HM : Hid (n - (i + 1) < n - i) := by unfold Hid; omega
      clear hr hp hg hs
      go_wp2
      go_loopw [7] (fun v wr => IsI w q cap n i l v wr) (fun v _ => (intOf v).toNat)
      case atStart => exact HP.out
      case round =>
        clear HP
        obtain ⟨j, l3, rfl, hji, hr, hp, hg, hI⟩ := hrel
        have HNx : Hid ((∀ a b x y : Nat, a < b → b < i + 1 → l3[a]? = some x → l3[b]? = some y → x ≤ y) → ∀ w3, w3.heap[q]? = wr.heap[q]? → wr.grownBy w3 (some q) → IsO w q cap n l (.int .i64 ((i : Int) + 1)) w3) := fun h w3 h3 h4 =>
          ⟨i + 1, l3, by simp, hr.up h3, hp, hg.trans h4, h⟩
        cases j with
        | zero =>
          have HR : Hid (∀ nq, IsO w q cap n l (.int .i64 ((i : Int) + 1)) (wr.drewN nq)) := fun nq => HNx.out hI.zero _ rfl ⟨rfl, rfl, rfl, Nat.le_refl _, fun _ _ _ => rfl⟩
          have hd : decide ((0 : Int) < ((0 : Nat) : Int)) = false := rfl
          clear hr hp hg hI HNx
          go_wp2
          go_quiet (fail)
          have HRR := Lib.hid (HR.out nq)
          clear HR
          go_wp2
          go_roundw
          case rel => exact HRR.out
          case measure => simp [intOf]; have := HM.out; omega
        | succ j =>
          have hl3 : l3.length = n := by rw [hp.length_eq]; exact HN.out
          have hu := List.getElem?_eq_getElem (l := l3) (i := j) (by omega)
          have hv := List.getElem?_eq_getElem (l := l3) (i := j + 1) (by omega)
          obtain ⟨u, hue⟩ : ∃ u, l3[j]'(by omega) = u := ⟨_, rfl⟩
          obtain ⟨v, hve⟩ : ∃ v, l3[j + 1]'(by omega) = v := ⟨_, rfl⟩
          rw [hue] at hu; rw [hve] at hv
          clear hue hve
          obtain ⟨m, hm⟩ : ∃ m, j + 1 = m := ⟨_, rfl⟩
          rw [hm] at hji hv hI ⊢
          have hcu := hr.cell hu
          have hcv := hr.cell hv
          have hfu := hr.frozen j
          have hfv := hr.frozen m
          have i2 : (0 : Int) < (m : Int) := by omega
          have i3 : (m : Int) < (n : Int) := by omega
          have i4 : (m : Int) - 1 = (j : Int) := by omega
          have i5 : (0 : Int) ≤ (m : Int) := by omega
          have i6 : (0 : Int) ≤ (j : Int) := by omega
          have i7 : (j : Int) < (n : Int) := by omega
          have i8 : j < n := by omega
          have i9 : m < n := by omega
          have iw : IntKind.i64.wrap ((m : Int) - 1) = (j : Int) := by rw [IntWalk.i64_in] <;> omega
          have iw2 : IntKind.i64.wrap (j : Int) = (j : Int) := by rw [IntWalk.i64_in]; omega
          have hd : decide ((0 : Int) < (m : Int)) = true := decide_eq_true i2
          have i10 : 0 < m := by omega
          have hd2 : decide (0 < m) = true := decide_eq_true i10
          have HL := Lib.hid (fun W => lessU_any v u W)
          by_cases hvu : v < u
          · rw [decide_eq_true hvu] at HL
            have HR : Hid (∀ W, W.heap[q]? = wr.heap[q]? → wr.grownBy W (some q) → IsI w q cap n i l (.int .i64 (j : Int)) ((W.setCell ⟨q, m, none⟩ (.int .u64 (u : Int))).setCell ⟨q, j, none⟩ (.int .u64 (v : Int))).drew) := fun W e1 e2 => by
              subst hm
              refine ⟨j, (l3.set (j + 1) u).set j v, rfl, by omega, ((hr.up e1).set u (by omega)).set v (by rw [List.length_set]; omega), (swpN_perm hu hv).trans hp, (hg.trans e2).trans ⟨rfl, rfl, rfl, by simp, fun b hb hne => ?_⟩, hI.step hji hu hv hvu⟩
              have hne : b ≠ q := fun e => hne (by rw [e])
              exact (Below.heap_setCell _ _ _ _ hne).trans (Below.heap_setCell _ _ _ _ hne)
            have HMj : Hid (j < m) := by unfold Hid; omega
            clear hr hp hg hI HNx hl3 hu hv
            go_wp2
            go_quiet ((go_at_call 51; exact Calls.quiet_of_same ((HL.out _).mono fun e w' h => ⟨h.1, h.2.symm⟩)))
            have c1 : (wr.drewN nq).cell? ⟨q, j, none⟩ = some (.int .u64 (u : Int)) := hcu
            have c2 : (wr.drewN nq).cell? ⟨q, m, none⟩ = some (.int .u64 (v : Int)) := hcv
            have f1 : (wr.drewN nq).frozen? ⟨q, j, none⟩ = false := hfu
            have f2 : (wr.drewN nq).frozen? ⟨q, m, none⟩ = false := hfv
            have HRR := Lib.hid (HR.out (wr.drewN nq) rfl ⟨rfl, rfl, rfl, Nat.le_refl _, fun _ _ _ => rfl⟩)
            clear hcu hcv hfu hfv HR hd2 HL hm
            generalize wr.drewN nq = W1 at *
            go_wp2
            go_region
            all_goals (
              go_wp2
              go_roundw
              case rel => exact HRR.out
              case measure => simp [intOf]; exact HMj.out)
          · rw [decide_eq_false hvu] at HL
            have HR : Hid (∀ nq, IsO w q cap n l (.int .i64 ((i : Int) + 1)) (wr.drewN nq)) := fun nq => HNx.out (by subst hm; exact hI.stop hu hv (by omega)) _ rfl ⟨rfl, rfl, rfl, Nat.le_refl _, fun _ _ _ => rfl⟩
            clear hr hp hg hI HNx hl3 hu hv
            go_wp2
            go_quiet ((go_at_call 51; exact Calls.quiet_of_same ((HL.out _).mono fun e w' h => ⟨h.1, h.2.symm⟩)))
            have HRR := Lib.hid (HR.out nq)
            clear HR
            go_wp2
            go_roundw
            case rel => exact HRR.out
            case measure => simp [intOf]; have := HM.out; omega
    · have hl2 : l2.length = n := by rw [hp.length_eq]; exact HN.out
      have HF : Hid (∃ l2 : List Nat, RU wr q cap l2 ∧ l2.Perm l ∧ l2.Pairwise (· ≤ ·) ∧ w.grownBy wr (some q)) := ⟨l2, hr, hp, List.pairwise_iff_getElem.2 fun a b ha hb hab => hs a b _ _ hab (by omega) (List.getElem?_eq_getElem ha) (List.getElem?_eq_getElem hb), hg⟩
      have i1 : ¬ (i : Int) < (n : Int) := by omega
      clear hr hp hg hs
      go_wp2
      go_end0
      exact ⟨rfl, HF.out⟩
end Go.Proofs.Ytoljldokehfokaa

namespace Go.Proofs.Ytoljldokehfokaa
open Go.RowKit
set_option linter.unusedVariables false
set_option maxRecDepth 100000

set_option maxHeartbeats 4000000 in
theorem bitLen_any (n : Nat) (w : World) (hn : n ≤ 12) : Calls Try.prog 50 #[.int .u64 (n : Int)] w fun e w' => (∃ z : Int, e = .returned (.int .i64 z)) ∧ Below w.heap.size w w' := by
  have h64 : ∀ W, Calls Try.prog 62 #[.int .u64 (n : Int)] W fun e w' => (∃ z : Int, e = .returned (.int .i64 z)) ∧ Below W.heap.size W w' := fun W => by
    have : n = 0 ∨ n = 1 ∨ n = 2 ∨ n = 3 ∨ n = 4 ∨ n = 5 ∨ n = 6 ∨ n = 7 ∨ n = 8 ∨ n = 9 ∨ n = 10 ∨ n = 11 ∨ n = 12 := by omega
    rcases this with rfl | rfl | rfl | rfl | rfl | rfl | rfl | rfl | rfl | rfl | rfl | rfl | rfl <;>
    · go_enter Try.func62, Try.ntmps62
      go_wp2
      go_ret
      exact ⟨⟨_, rfl⟩, Below.refl _ _⟩
  have H64 := Lib.hid h64
  clear h64
  go_enter Try.func50, Try.ntmps50
  go_wp2_with fail
  refine (H64.out _).mono ?_
  rintro e w2 ⟨⟨z, rfl⟩, hb⟩
  have HB := Lib.hid hb
  clear hb H64
  go_wp2
  go_ret
  exact ⟨⟨_, rfl⟩, HB.out⟩

set_option maxHeartbeats 4000000 in
theorem pdq_any (q cap n : Nat) (l : List Nat) (z : Int) (w : World) (hR : RU w q cap l) (hn : l.length = n) (h2 : n ≤ 12) :
    Calls Try.prog 49 #[.slice (some ⟨q, 0, none⟩) n cap, .int .i64 0, .int .i64 (n : Int), .int .i64 z] w fun e w' => e = .returned (.tuple #[]) ∧ ∃ l2 : List Nat, RU w' q cap l2 ∧ l2.Perm l ∧ l2.Pairwise (· ≤ ·) ∧ w.grownBy w' (some q) := by
  have HI := Lib.hid (insSort_any q cap n l w hR hn (by omega))
  have i1 : (n : Int) ≤ 12 := by omega
  have i2 : n ≤ 12 := h2
  clear hR hn
  go_enter Try.func49, Try.ntmps49
  go_wp2
  refine wp_loop_rounds 1 ?_
  rw [rounds_succ]
  go_wp2_with fail
  refine HI.out.mono ?_
  rintro e w2 ⟨rfl, h⟩
  have HH := Lib.hid h
  clear h HI
  go_wp2
  refine bodyPost_ret (results_none rfl _ _ _) rfl ?_
  exact ⟨rfl, HH.out⟩

/-- what became of a row that was sorted -/
def SortU (w : World) (base n c : Nat) (A : Option Addr) (l : List Nat) (w' : World) : Prop := ∃ l2 : List Nat, l2.Perm l ∧ l2.Pairwise (· ≤ ·) ∧ w'.ownsRow base 27 1 (.slice A n c) n (l2.map uv) ∧ Below base w w'
theorem take_cur {cur : Array Value} {n : Nat} {xs : List Value} (h : cur.toList.take n = xs) {i : Nat} {v : Value} (hx : xs[i]? = some v) : cur[i]? = some v := by
  subst h
  by_cases hi : i < n
  · rw [List.getElem?_take_of_lt hi] at hx
    rw [← Array.getElem?_toList]; exact hx
  · rw [List.getElem?_eq_none (by rw [List.length_take]; omega)] at hx; cases hx
theorem ru_own {w : World} {base q n c : Nat} {l : List Nat} (h : RU w q c l) (hl : l.length = n) (hb : base ≤ q) (hnc : n ≤ c) (hcm : c ≤ maxLen) : w.ownsRow base 27 1 (.slice (some ⟨q, 0, none⟩) n c) n (l.map uv) := by
  obtain ⟨cur, h1, h2, h3⟩ := h
  refine ⟨by rw [List.length_map, hl, Nat.mul_one], .inr ⟨q, c, cur, rfl, hb, h1, hnc, hcm, by rw [h2, Nat.mul_one], ?_⟩⟩
  rw [Nat.mul_one]
  apply List.ext_getElem?
  intro i
  by_cases hi : i < n
  · obtain ⟨x, hx⟩ : ∃ x, l[i]? = some x := ⟨_, List.getElem?_eq_getElem (by omega)⟩
    rw [List.getElem?_take_of_lt hi, Array.getElem?_toList, h3 i x hx, List.getElem?_map, hx]; rfl
  · rw [List.getElem?_eq_none (by rw [List.length_take]; omega), List.getElem?_eq_none (by rw [List.length_map]; omega)]

set_option maxHeartbeats 4000000 in
theorem sortU_any (base n c : Nat) (A : Option Addr) (l : List Nat) (w : World) (ho : w.ownsRow base 27 1 (.slice A n c) n (l.map uv)) (hn : n ≤ 12) (hbw : base ≤ w.heap.size) :
    Calls Try.prog 45 #[.slice A n c] w fun e w' => e = .returned (.tuple #[]) ∧ SortU w base n c A l w' := by
  have hl : l.length = n := by have := ho.1; simpa using this
  have HB := Lib.hid (bitLen_any n)
  have hw64 : IntKind.u64.wrap (n : Int) = (n : Int) := by rw [IntKind.wrap_u64]; omega
  rcases ho.2 with ⟨e, h0⟩ | ⟨q, cap, cur, e, hb, hh, h1, h2, h3, h4⟩
  · injection e with e1 e2 e3
    subst h0
    subst e1 e3
    have hl0 : l = [] := List.eq_nil_of_length_eq_zero hl
    subst hl0
    have HF : Hid (∀ w', Below w.heap.size w w' → SortU w base 0 0 none [] w') := fun w' hb => ⟨[], List.Perm.refl _, List.Pairwise.nil, ⟨rfl, .inl ⟨rfl, rfl⟩⟩, hb.mono hbw⟩
    have HI : Hid (∀ W z, Calls Try.prog 49 #[.slice none 0 0, .int .i64 0, .int .i64 0, .int .i64 z] W fun e w' => e = .returned (.tuple #[]) ∧ W = w') := fun W z => by
      have HJ : Hid (∀ W, Calls Try.prog 53 #[.slice none 0 0, .int .i64 0, .int .i64 0] W fun e w' => e = .returned (.tuple #[]) ∧ W = w') := fun W => by
        go_enter Try.func53, Try.ntmps53
        go_wp2
        refine wp_loop_rounds 1 ?_
        rw [rounds_succ]
        go_wp2
        go_end0
        exact ⟨rfl, rfl⟩
      go_enter Try.func49, Try.ntmps49
      go_wp2
      refine wp_loop_rounds 1 ?_
      rw [rounds_succ]
      go_wp2_with fail
      refine (HJ.out _).mono ?_
      rintro e w2 ⟨rfl, rfl⟩
      go_wp2
      refine bodyPost_ret (results_none rfl _ _ _) rfl ?_
      exact ⟨rfl, rfl⟩
    clear ho hw64
    go_enter Try.func45, Try.ntmps45
    go_wp2_with fail
    refine (HB.out w (by omega)).mono ?_
    rintro e w2 ⟨⟨z, rfl⟩, hb2⟩
    have HFF := Lib.hid (HF.out _ hb2)
    clear hb2 HB HF
    go_wp2_with fail
    refine (HI.out _ _).mono ?_
    rintro e w3 ⟨rfl, rfl⟩
    go_wp2
    go_end0
    exact ⟨rfl, HFF.out⟩
  · injection e with e1 e2 e3
    subst e1 e3
    rw [Nat.mul_one] at h3 h4
    have hR : RU w q c l := ⟨cur, hh, h3, fun i x hx => take_cur h4 (by rw [List.getElem?_map, hx]; rfl)⟩
    have hql := (Array.getElem?_eq_some_iff.1 hh).1
    have HI : Hid (∀ W z, Below w.heap.size w W → Calls Try.prog 49 #[.slice (some ⟨q, 0, none⟩) n c, .int .i64 0, .int .i64 (n : Int), .int .i64 z] W fun e w' => e = .returned (.tuple #[]) ∧ SortU w base n c (some ⟨q, 0, none⟩) l w') := fun W z hb9 => by
      refine (pdq_any q c n l z W (hR.up (hb9.block q hql)) hl hn).mono ?_
      rintro e w' ⟨rfl, l2, r1, r2, r3, r4⟩
      exact ⟨rfl, l2, r2, r3, ru_own r1 (by rw [r2.length_eq]; exact hl) hb h1 h2, (hb9.mono hbw).grown r4 (Nat.le_trans hbw hb9.size) (fun k hk => by injection hk with hk; omega)⟩
    clear ho hR hh h4
    go_enter Try.func45, Try.ntmps45
    go_wp2_with fail
    refine (HB.out w (by omega)).mono ?_
    rintro e w2 ⟨⟨z, rfl⟩, hb2⟩
    have HC := Lib.hid (HI.out w2 z hb2)
    clear hb2 HB HI
    go_wp2_with fail
    refine HC.out.mono ?_
    rintro e w3 ⟨rfl, hs⟩
    have HFF := Lib.hid hs
    clear hs HC
    go_wp2
    go_end0
    exact ⟨rfl, HFF.out⟩
end Go.Proofs.Ytoljldokehfokaa

namespace Go.Proofs.Ytoljldokehfokaa
open Go.RowKit
set_option linter.unusedVariables false
set_option maxRecDepth 100000

theorem u64_info : (Try.prog.info? 27).map (fun i => (i.zero, i.size, i.bytes)) = some (some (.int .u64 0), 1, 8) := by kernel_rfl
theorem uv_one (l : List Nat) : ∀ u ∈ l.map uv, u.oneCell' = true := by
  intro u hu
  obtain ⟨c, _, rfl⟩ := List.mem_map.1 hu
  rfl
theorem Lies.num {w : World} {B n k : Nat} {A : Option Addr} {l : List Nat} (h : Lies w B 1 A n (l.map uv)) (hk : k < n) :
    ∃ b o x, A = some ⟨b, o, none⟩ ∧ b < B ∧ l[k]? = some x ∧ w.cell? ⟨b, o + k, none⟩ = some (.int .u64 (x : Int)) := by
  obtain ⟨b, o, u, e, hb, hu, hc⟩ := h.at_ hk
  rw [List.getElem?_map] at hu
  cases hx : l[k]? with
  | none => rw [hx] at hu; cases hu
  | some x =>
    rw [hx] at hu
    injection hu with hu
    subst hu
    exact ⟨b, o, x, e, hb, rfl, hc⟩
theorem Lies.ulen {w : World} {B n : Nat} {A : Option Addr} {l : List Nat} (h : Lies w B 1 A n (l.map uv)) : l.length = n := by have := h.len; simp at this; exact this

theorem values_any (n c : Nat) (A : Option Addr) (w : World) :
    Calls Try.prog 37 #[.slice A n c] w fun e w' => e = .returned (.func (.func 46) #[] #[.pointer (some ⟨w.heap.size, 0, none⟩)]) ∧ w' = w.alloc (.cells #[.slice A n c] 58) := by
  have hmf : ∀ (fn : Fn) (first cap : Array Value) (w : World), (Instr.makeFunc fn first cap).run Try.prog w = .ok (.func fn first cap) w := fun _ _ _ _ => rfl
  go_enter Try.func37, Try.ntmps37
  go_wp2
  go_ret
  exact ⟨rfl, rfl⟩
def ValR (n B : Nat) (l : List Nat) (w0 : World) (J : List Nat → World → Prop) (v : Value) (wr : World) : Prop :=
  ∃ k : Nat, k ≤ n ∧ v = .int .i64 (k : Int) ∧ J (l.take k) wr ∧ KpM (fun i => i < B) w0 wr

set_option maxHeartbeats 4000000 in
theorem vals1_any (m l0 Bs B n c : Nat) (A : Option Addr) (l : List Nat) (hn : n ≤ 1000000)
    (J : List Nat → World → Prop) (W : World) (hJ : AbidesFrom W.heap.size J) (hL : Lies W B 1 A n (l.map uv)) (hB : B ≤ W.heap.size)
    (hY : ∀ pre x W1, J pre W1 → l[pre.length]? = some x → YieldAt Fence.wide m Try.prog l0 #[uv x] W1 fun e W' => (e = .returned (.bool true) ∧ J (pre ++ [x]) W' ∧ KpM (fun i => i < B) W1 W') ∨ (e = .returned (.bool false) ∧ False))
    (hs : W.cell? ⟨Bs, 0, none⟩ = some (.slice A n c)) (h0 : J [] W) :
    Calls Try.prog 46 (#[.func (.yield l0) #[] #[]] ++ #[.pointer (some ⟨Bs, 0, none⟩)]) W fun e W' => (∃ v, e = .returned v) ∧ ∃ xs : List Nat, xs = l ∧ J xs W' := by
  have hln := hL.ulen
  have HJ := Lib.hid hJ; have HY := Lib.hid hY; have HL := Lib.hid hL; have HLn := Lib.hid hln
  have HRel : Hid (ValR n B l W J (.int .i64 0) W) := ⟨0, Nat.zero_le _, rfl, by simpa using h0, KpM.below (Below.refl _ _)⟩
  clear hJ hY h0 hL hln
  simp only [List.append_toArray, List.cons_append, List.nil_append]
  go_enter Try.func46, Try.ntmps46
  have HS := Lib.hid hs
  clear hs
  have hs := HS.out
  go_wp2_with fail
  go_loopw [7] (fun v wr => ValR n B l W J v wr) (fun v _ => n - (intOf v).toNat)
  case atStart => exact HRel.out
  case round =>
    clear HRel
    obtain ⟨k, hk, rfl, hj, hkp⟩ := hrel
    by_cases hlt : k < n
    · have hLr : Lies wr B 1 A n (l.map uv) := HL.out.keep fun p hp => World.cell?_of_block (hkp.2 _ hp (Nat.lt_of_lt_of_le hp hB))
      obtain ⟨b, o, x, rfl, hbB, hx, hc⟩ := hLr.num hlt
      have hlk : (l.take k).length = k := by rw [List.length_take, HLn.out]; omega
      obtain ⟨fn, tmps, assign, body, hy, hR⟩ := HY.out (l.take k) x wr hj (by rw [hlk]; exact hx)
      have hy : (Instr.yield l0 #[.int .u64 (x : Int)]).run Try.prog wr = .ok (.round l0 fn tmps assign body) wr := hy
      have HRd := Lib.hid hR; have HX := Lib.hid hx; have HKp := Lib.hid hkp
      have i1 : (k : Int) < (n : Int) := by omega
      have i2 : (0 : Int) ≤ (k : Int) := by omega
      have HM : Hid (n - (k + 1) < n - k) := by unfold Hid; omega
      clear hR hj hx hkp hLr hlk hs
      go_upto_region 3 with fail
      refine (wpIn_wide (n := m + 1)).1 ?_
      gi_wp2_with fail
      refine HRd.out.mono ?_
      rintro e W6 (⟨rfl, hJ6, hk6⟩ | ⟨_, hf⟩)
      · have HFin : Hid (ValR n B l W J (.int .i64 ((k : Int) + 1)) W6) := ⟨k + 1, hlt, by simp, by rw [List.take_add_one, HX.out]; exact hJ6, HKp.out.trans hk6⟩
        clear hJ6 hk6 hy hc
        gi_wp2_with fail
        go_wp2
        go_roundw
        case rel => exact HFin.out
        case measure => simp [intOf]; have := HM.out; omega
      · exact hf.elim
    · obtain rfl : k = n := by omega
      have HFin : Hid (∃ xs : List Nat, xs = l ∧ J xs wr) := ⟨l, rfl, by rw [List.take_of_length_le (by rw [HLn.out]; exact Nat.le_refl _)] at hj; exact hj⟩
      clear hj hkp
      go_wp2
      go_end0
      exact ⟨⟨_, rfl⟩, HFin.out⟩

/-- what the variable of the numbers holds -/
structure UAt (w W : World) (g : Nat) (L : List Nat) (vl : Value) : Prop where
  box : W.heap[g]? = some (.cells #[vl] 58 (0, 0))
  row : W.ownsRow (g + 1) 27 1 vl L.length (L.map uv)
  low : Below g w W
  hs : g + 1 ≤ W.heap.size
theorem UAt.other {w W W' : World} {g : Nat} {L : List Nat} {vl : Value} {row : Option Nat} (h : UAt w W g L vl) (hg : W.grownBy W' row) (hr : ∀ r, row = some r → g + 1 ≤ r ∧ ∃ o : Obj, W.heap[r]? = some o ∧ o.isCells = false) : UAt w W' g L vl := by
  have hs := h.hs
  refine ⟨(hg.block g (by omega) (fun e => by have := (hr g e.symm).1; omega)).trans h.box, ⟨h.row.1, ?_⟩, h.low.grown hg (by omega) (fun r e => by have := (hr r e).1; omega), Nat.le_trans hs hg.size⟩
  rcases h.row.2 with q | ⟨gg, cap, cur, hv, hgb, hh, r⟩
  · exact .inl q
  · refine .inr ⟨gg, cap, cur, hv, hgb, (hg.block gg (Array.getElem?_eq_some_iff.1 hh).1 (fun e => ?_)).trans hh, r⟩
    obtain ⟨o, ho, hc⟩ := (hr gg e.symm).2
    rw [hh] at ho
    injection ho with ho
    subst ho
    cases hc
theorem UAt.cells {w W : World} {g : Nat} {L : List Nat} {vl : Value} (h : UAt w W g L vl) : W.cell? ⟨g, 0, none⟩ = some vl ∧ W.frozen? ⟨g, 0, none⟩ = false := ⟨cell_of_row _ _ 0 _ _ (0, 0) h.box, by simp [World.frozen?, h.box]⟩
theorem UAt.app {w W : World} {g n c : Nat} {L : List Nat} {A : Option Addr} (h : UAt w W g L (.slice A n c)) (hn : L.length = n) (hl : n + 1 ≤ 1000000) (k : Nat) :
    ∃ A2 c2 W2, (appM #[58, 58] 58 #[.slice A n c, .slice (some ⟨W.heap.size, 0, none⟩) 1 1]).run Try.prog (W.alloc (.cells #[.int .u64 (k : Int)] 27)) = .ok (.slice A2 (n + 1) c2) W2 ∧
      (W2.cell? ⟨g, 0, none⟩ = some (.slice A n c) ∧ W2.frozen? ⟨g, 0, none⟩ = false) ∧ Hid (UAt w (W2.setCell ⟨g, 0, none⟩ (.slice A2 (n + 1) c2)) g (L ++ [k]) (.slice A2 (n + 1) c2) ∧ W.heap.size ≤ (W2.setCell ⟨g, 0, none⟩ (.slice A2 (n + 1) c2)).heap.size ∧
        ∀ (i : Nat) (o : Obj), W.heap[i]? = some o → (o.isCells = false ∨ i < g) → (W2.setCell ⟨g, 0, none⟩ (.slice A2 (n + 1) c2)).heap[i]? = some o) := by
  obtain ⟨i0, hi, hz0, hz1, hz2⟩ := info_parts u64_info
  have hb := al_belowM W (.cells #[.int .u64 (k : Int)] 27)
  have hs := h.hs
  have h1r := own_below h.row hb
  have h1b := (hb.block g (by omega)).trans h.box
  have h1l := h.low.trans (hb.mono (by omega))
  have hlie : Lies (W.alloc (.cells #[.int .u64 (k : Int)] 27)) (W.heap.size + 1) 1 (some ⟨W.heap.size, 0, none⟩) 1 [uv k] := one_lies rfl _ _
  subst hn
  obtain ⟨v1, W2, hrun, hown, hgr, _⟩ := run_app (P := Try.prog) (W.alloc (.cells #[.int .u64 (k : Int)] 27)) (g + 1) 58 58 27 i0 _ 1 8 Try.underlying58 hi hz0 hz1 hz2 rfl (by decide) (.slice A L.length c) L.length (L.map uv) h1r (W.heap.size + 1) (some ⟨W.heap.size, 0, none⟩) 1 1 [uv k] hlie (by intro u hu; simp at hu; subst hu; rfl) (by unfold maxLen; omega) (by omega) (by simp; omega)
  obtain ⟨A2, c2, rfl, _⟩ := own_shape hown
  have hgo : (Value.slice A L.length c).ownBlock ≠ some g := fun e => by have := (h.row.lt g e).1; omega
  have hbx : W2.heap[g]? = some (.cells #[.slice A L.length c] 58 (0, 0)) := (hgr.block g (by simp; omega) (fun e => hgo e.symm)).trans h1b
  refine ⟨A2, c2, W2, hrun, ⟨cell_of_row _ _ 0 _ _ (0, 0) hbx, by simp [World.frozen?, hbx]⟩, ⟨⟨by simp [World.setCell, Array.getElem?_modify, hbx], ?_, ?_, ?_⟩, ?_, ?_⟩⟩
  · rw [List.length_append, List.map_append]
    exact ownsRow_setCell_below hown (by show g < g + 1; omega) _
  · exact (h1l.grown hgr (by simp; omega) (fun r e => by have := (h.row.lt r e).1; omega)).setCell (Nat.le_refl _) _
  · have := hgr.size; simp at this ⊢; omega
  · have := hgr.size; simp at this ⊢; omega
  · intro i o ho hor
    have hil := (Array.getElem?_eq_some_iff.1 ho).1
    have hig : i ≠ g := by
      rintro rfl
      rcases hor with q | q
      · rw [h.box] at ho; injection ho with ho; subst ho; cases q
      · omega
    refine (Below.heap_setCell _ _ _ _ hig).trans ((hgr.block i (by simp; omega) (fun e => ?_)).trans ((Below.heap_alloc _ _ _ hil).trans ho))
    rcases hor with q | q
    · rcases h.row.2 with ⟨e2, _⟩ | ⟨gg, cap, cur, hv, hgb, hh, _⟩
      · rw [e2] at e; cases e
      · rw [hv] at e
        have e : i = gg := by simpa [Value.ownBlock] using e
        subst e
        rw [hh] at ho; injection ho with ho; subst ho; cases q
    · have := (h.row.lt i e.symm).1; omega

/-- what is collected -/
def ColR (w : World) (l : List Nat) (e : Ending) (w' : World) : Prop := ∃ v, e = .returned v ∧ w'.ownsRow w.heap.size 27 1 v l.length (l.map uv) ∧ Below w.heap.size w w'
section
attribute [local go_sem] Oper.semAt_some
attribute [local go_sem ↓ 100000] builtin_appM
set_option maxHeartbeats 4000000 in
theorem appendSeq_any (Bs B n c : Nat) (A : Option Addr) (l : List Nat) (w : World) (hL : Lies w B 1 A n (l.map uv)) (hB : B ≤ w.heap.size) (hn : n ≤ 500000) (hs : w.cell? ⟨Bs, 0, none⟩ = some (.slice A n c)) :
    Calls Try.prog 48 #[.slice none 0 0, .func (.func 46) #[] #[.pointer (some ⟨Bs, 0, none⟩)]] w (ColR w l) := by
  obtain ⟨g, hg⟩ : ∃ g, w.heap.size = g := ⟨_, rfl⟩
  have x1 : (w.alloc (.cells #[.slice none 0 0] 58)).heap[g]? = some (.cells #[.slice none 0 0] 58 (0, 0)) := by rw [← hg]; exact heap_alloc_new w _
  have s1 : (w.alloc (.cells #[.slice none 0 0] 58)).heap.size = g + 1 := by simp [hg]
  have b1 : Below g w (w.alloc (.cells #[.slice none 0 0] 58)) := by rw [← hg]; exact al_belowM w _
  have hBs := World.block_lt_of_cell? w _ hs
  have hln := hL.ulen
  refine (callsIn_wide (n := 6)).1 ?_
  refine callsIn_of_wp_marks Try.func48 rfl trivial ?_ rfl
  simp only [Try.ntmps48, List.size_toArray, List.length_cons, List.length_nil, Nat.reduceAdd, Nat.reduceSub, Array.replicate_succ, Array.replicate_zero, List.push_toArray, List.append_toArray, List.nil_append, List.cons_append]
  refine wpIn_wide.2 ?_
  obtain ⟨W0, hW0⟩ : ∃ W0, w.alloc (.cells #[.slice none 0 0] 58) = W0 := ⟨_, rfl⟩
  have HW0 : Hid (w.alloc (.cells #[.slice none 0 0] 58) = W0) := hW0
  rw [hW0] at x1 s1 b1
  have HR0 : Hid (∃ vl, UAt w W0 g [] vl) := ⟨.slice none 0 0, ⟨x1, ⟨rfl, .inl ⟨rfl, rfl⟩⟩, b1, by omega⟩⟩
  have hgs := hg
  have HB1 := Lib.hid b1
  have HL := Lib.hid hL; have HS := Lib.hid hs; have HLn := Lib.hid hln
  clear x1 b1 hW0 hL hs hln
  go_wp2_with fail
  rw [HW0.out]
  refine (wpIn_wide (n := 6)).1 ?_
  refine range_next (m := 5) (α := Nat) (gf := 46) (lb := #[.pointer (some ⟨Bs, 0, none⟩)]) (encs := fun x => #[uv x]) (Kp := KpM (fun i => i < B))
    (G := fun pre x => l[pre.length]? = some x) (S := fun xs => xs = l)
    rfl (enters_of Try.func46 (by kernel_rfl) rfl) (fun _ => rfl) (fun h k => KpM.trans h k) (kpM_b (fun i hi => by omega))
    (fun l0 J W hW hJ hY h0 => vals1_any 5 l0 Bs B n c A l (by omega) J W hJ (HL.out.keep fun p hp => (hW.cell (by omega)).trans (HB1.out.cell (by omega))) (by have := hW.size; omega) hY ((hW.cell (p := ⟨Bs, 0, none⟩) (by have : Bs < w.heap.size := hBs; show Bs < _; omega)).trans ((HB1.out.cell (p := ⟨Bs, 0, none⟩) (by have : Bs < w.heap.size := hBs; show Bs < _; omega)).trans HS.out)) h0)
    (fun pre W => ∃ vl, UAt w W g pre vl ∧ pre.length ≤ n)
    (fun pre X Y row hI hg2 hr => by
      obtain ⟨vl, h1, h2⟩ := hI
      exact ⟨vl, h1.other hg2 (fun r e => by obtain ⟨q1, q2⟩ := hr r e; exact ⟨by omega, q2⟩), h2⟩)
    (by obtain ⟨vl, h⟩ := HR0.out; exact ⟨vl, h, Nat.zero_le _⟩)
    (fun x a' W => a' = { tmps := #[.slice none 0 0, .func (.func 46) #[] #[.pointer (some ⟨Bs, 0, none⟩)], .pointer (some ⟨g, 0, none⟩), undef, .slice none 0 0, uv x, .func (.func 46) #[] #[.pointer (some ⟨Bs, 0, none⟩)], uv x, undef, undef, undef, undef, undef], defers := [] })
    (fun x a' _ X Y row hI hg2 hr => hI)
    ?assign ?body ?done
  case assign =>
    rintro l0 pre x W K hI hK
    gi_wp2
    exact hK _ _ (KeepsFrom.refl _ _) (KpM.below (Below.refl _ _)) hI rfl
  case body =>
    rintro l0 pre x a' W ⟨vl, hU, hpl⟩ rfl hG
    obtain ⟨z0, z1⟩ := hU.cells
    obtain ⟨Al, cl, rfl, _⟩ := own_shape hU.row
    obtain ⟨k, hk⟩ : ∃ k, pre.length = k := ⟨_, rfl⟩
    have hkn : k + 1 ≤ n := by have := (List.getElem?_eq_some_iff.1 hG).1; have := HLn.out; omega
    rw [hk] at hU z0
    obtain ⟨A4, c4, W4, run4, ⟨e4, f4⟩, HP⟩ := hU.app hk (by omega) x
    have HF : Hid (KeepsFrom W0.heap.size W (W4.setCell ⟨g, 0, none⟩ (.slice A4 (k + 1) c4)) ∧ KpM (fun i => i < B) W (W4.setCell ⟨g, 0, none⟩ (.slice A4 (k + 1) c4)) ∧ ∃ vl, UAt w (W4.setCell ⟨g, 0, none⟩ (.slice A4 (k + 1) c4)) g (pre ++ [x]) vl ∧ (pre ++ [x]).length ≤ n) := by
      obtain ⟨h1, h2, h3⟩ := HP.out
      refine ⟨⟨h2, fun i o hi ho hoc => h3 i o ho (.inl hoc)⟩, ⟨h2, fun i hi hl => ?_⟩, _, h1, by rw [List.length_append, hk]; exact hkn⟩
      rw [h3 i _ (Array.getElem?_eq_getElem hl) (.inr (by omega)), Array.getElem?_eq_getElem hl]
    unfold uv
    clear hU hG HP hpl
    gi_wp2
    exact HF.out
  case done =>
    rintro D xs W hD rfl ⟨vl, hU, _⟩ hK
    have hg3 := grownBy_putObj' W D (.deferred none)
    have hcb := hU.cells.1
    have hU2 := hU.other hg3 (fun r e => by injection e with e; subst e; exact ⟨by omega, _, hK, rfl⟩)
    have HF : Hid (ColR w xs (.returned vl) (W.putObj D (.deferred none))) := ⟨vl, rfl, own_base hU2.row (by omega), by rw [hgs]; exact hU2.low⟩
    have HK := Lib.hid hK
    clear hU hU2 hK hg3
    go_wp2
    refine ⟨by simp, .inl ⟨_, _, rfl, run_takeDeferred HK.out, ?_⟩⟩
    refine ⟨_, results_tmp rfl _ _ _, ?_⟩
    exact HF.out
end

set_option maxHeartbeats 4000000 in
theorem sorted_u64 (Bs B n c : Nat) (A : Option Addr) (l : List Nat) (w : World) (hL : Lies w B 1 A n (l.map uv)) (hB : B ≤ w.heap.size) (hn : n ≤ 12) (hs : w.cell? ⟨Bs, 0, none⟩ = some (.slice A n c)) :
    Calls Try.prog 36 #[.func (.func 46) #[] #[.pointer (some ⟨Bs, 0, none⟩)]] w fun e w' => ∃ (A2 : Option Addr) (c2 : Nat) (l2 : List Nat), e = .returned (.slice A2 n c2) ∧ l2.Perm l ∧ l2.Pairwise (· ≤ ·) ∧ w'.ownsRow w.heap.size 27 1 (.slice A2 n c2) n (l2.map uv) ∧ Below w.heap.size w w' := by
  have hln := hL.ulen
  have HA := Lib.hid (appendSeq_any Bs B n c A l w hL hB (by omega) hs)
  have HC : Hid (Calls Try.prog 44 #[.func (.func 46) #[] #[.pointer (some ⟨Bs, 0, none⟩)]] w (ColR w l)) := by
    go_enter Try.func44, Try.ntmps44
    go_wp2_with fail
    refine HA.out.mono ?_
    rintro e w2 ⟨v, rfl, h⟩
    have HH := Lib.hid h
    clear h HA
    go_wp2
    go_ret
    exact ⟨v, rfl, HH.out⟩
  clear HA hL hs
  go_enter Try.func36, Try.ntmps36
  go_wp2_with fail
  refine HC.out.mono ?_
  rintro e w2 ⟨v, rfl, ho, hb⟩
  rw [hln] at ho
  obtain ⟨A2, c2, rfl, _⟩ := own_shape ho
  have HS := Lib.hid (sortU_any w.heap.size n c2 A2 l w2 ho hn hb.size)
  have HB := Lib.hid hb
  clear ho hb HC
  go_wp2_with fail
  refine HS.out.mono ?_
  rintro e w3 ⟨rfl, l2, h1, h2, h3, h4⟩
  have HF : Hid (∃ (A3 : Option Addr) (c3 : Nat) (l3 : List Nat), Ending.returned (.slice A2 n c2) = .returned (.slice A3 n c3) ∧ List.Perm l3 l ∧ l3.Pairwise (· ≤ ·) ∧ w3.ownsRow w.heap.size 27 1 (.slice A3 n c3) n (l3.map uv) ∧ Below w.heap.size w w3) := ⟨A2, c2, l2, rfl, h1, h2, h3, HB.out.trans h4⟩
  clear h1 h2 h3 h4 HS
  go_wp2
  go_ret
  exact HF.out
end Go.Proofs.Ytoljldokehfokaa

namespace Go.Proofs.Ytoljldokehfokaa
open Go.RowKit
set_option linter.unusedVariables false
set_option maxRecDepth 100000

/-- how many are less -/
def lowN (L : List Nat) (x : Nat) : Nat := (L.takeWhile fun y => decide (y < x)).length
theorem lowN_iff {x : Nat} : ∀ (L : List Nat), L.Pairwise (· ≤ ·) → ∀ (i y : Nat), L[i]? = some y → (y < x ↔ i < lowN L x)
  | [], _, i, y, h => by simp at h
  | a :: t, hp, i, y, h => by
    obtain ⟨h1, h2⟩ := List.pairwise_cons.1 hp
    unfold lowN
    rw [List.takeWhile_cons]
    by_cases ha : a < x
    · rw [if_pos (by simpa using ha), List.length_cons]
      cases i with
      | zero => simp at h; subst h; simp [ha]
      | succ i =>
        have := lowN_iff (x := x) t h2 i y (by simpa using h)
        unfold lowN at this
        rw [this]; omega
    · rw [if_neg (by simpa using ha), List.length_nil]
      have : a ≤ y := by
        cases i with
        | zero => simp at h; omega
        | succ i => exact h1 y (List.mem_of_getElem? (by simpa using h))
      omega
theorem lowN_le (L : List Nat) (x : Nat) : lowN L x ≤ L.length := (List.takeWhile_prefix _).length_le
theorem nanS_any (x : Nat) (w : World) : Calls Try.prog 52 #[.int .u64 (x : Int)] w fun e w' => e = .returned (.bool false) ∧ w = w' := by
  go_enter Try.func52, Try.ntmps52
  go_wp2
  go_ret
  exact ⟨by simp, rfl⟩
def BsU (w : World) (n st : Nat) (i j : Value) (wr : World) : Prop := ∃ a d : Nat, i = .int .i64 (a : Int) ∧ j = .int .i64 (d : Int) ∧ a ≤ st ∧ st ≤ d ∧ d ≤ n ∧ w = wr

set_option maxHeartbeats 4000000 in
theorem bsU_any (B n c : Nat) (A : Option Addr) (L : List Nat) (x : Nat) (w : World) (hL : Lies w B 1 A n (L.map uv)) (hp : L.Pairwise (· ≤ ·)) (hn : n ≤ 1000000) :
    Calls Try.prog 47 #[.slice A n c, .int .u64 (x : Int)] w fun e w' => (∃ d : Value, e = .returned (.tuple #[.int .i64 (lowN L x : Int), d])) ∧ w = w' := by
  have hln := hL.ulen
  obtain ⟨st, hst⟩ : ∃ st, lowN L x = st := ⟨_, rfl⟩
  have hstn : st ≤ n := by have := lowN_le L x; omega
  have HAh : Hid (∀ i y, L[i]? = some y → (y < x ↔ i < st)) := fun i y h => by rw [← hst]; exact lowN_iff L hp i y h
  rw [hst]
  have HL := Lib.hid hL
  clear hL hst hp hln
  go_enter Try.func47, Try.ntmps47
  go_wp2_with fail
  go_loopw [7, 8] (fun i j wr => BsU w n st i j wr) (fun i j _ => (intOf j).toNat - (intOf i).toNat)
  case atStart => exact ⟨0, n, rfl, rfl, Nat.zero_le _, hstn, Nat.le_refl _, rfl⟩
  case round =>
    obtain ⟨a, d, rfl, rfl, has, hsd, hdn, rfl⟩ := hrel
    by_cases hlt : a < d
    · obtain ⟨h, hh⟩ : ∃ h, (a + d) / 2 = h := ⟨_, rfl⟩
      have hh1 : a ≤ h := by omega
      have hh2 : h < d := by omega
      have hhi : ((a : Int) + (d : Int)) / 2 = (h : Int) := by omega
      obtain ⟨b, o, y, rfl, hbB, hy, hc⟩ := HL.out.num (k := h) (by omega)
      have hi0 : (0 : Int) ≤ (h : Int) := by omega
      have hi1 : (h : Int) < (n : Int) := by omega
      have hit : ((h : Int)).toNat = h := by simp
      have HY := Lib.hid (HAh.out h y hy)
      have HC := Lib.hid (fun W => lessU_any y x W)
      clear hy hh
      by_cases hyx : y < x
      · rw [decide_eq_true hyx] at HC
        have HFin : Hid (BsU w n st (.int .i64 ((h : Int) + 1)) (.int .i64 (d : Int)) w) := ⟨h + 1, d, rfl, rfl, HY.out.1 hyx, hsd, hdn, rfl⟩
        clear hyx HY
        go_wp2_with (go_at_call 51; refine (HC.out _).mono ?_; rintro e w2 ⟨rfl, rfl⟩)
        go_roundw
        case rel => exact HFin.out
        case measure => simp [intOf]; omega
      · rw [decide_eq_false hyx] at HC
        have HFin : Hid (BsU w n st (.int .i64 (a : Int)) (.int .i64 (h : Int)) w) := ⟨a, h, rfl, rfl, has, Nat.le_of_not_lt (fun q => hyx (HY.out.2 q)), by omega, rfl⟩
        clear hyx HY
        go_wp2_with (go_at_call 51; refine (HC.out _).mono ?_; rintro e w2 ⟨rfl, rfl⟩)
        go_roundw
        case rel => exact HFin.out
        case measure => simp [intOf]; omega
    · have hast : a = st := by omega
      have hni : ¬ ((a : Int) < (d : Int)) := by omega
      subst hast
      by_cases hstl : a < n
      · obtain ⟨b, o, y, rfl, hbB, hy, hc⟩ := HL.out.num hstl
        have hi0 : (0 : Int) ≤ (a : Int) := by omega
        have hi1 : (a : Int) < (n : Int) := by omega
        have hit : ((a : Int)).toNat = a := by simp
        have hd1 : decide ((a : Int) < (n : Int)) = true := by simp; omega
        by_cases hyx : y = x
        · subst hyx
          go_wp2_with (go_at_call 52; refine (nanS_any _ _).mono ?_; rintro e w' ⟨rfl, rfl⟩)
          go_ret2
          exact ⟨⟨_, rfl⟩, rfl⟩
        · have hb0 : ((y : Int) == (x : Int)) = false := by rw [beq_eq_false_iff_ne]; omega
          have hb1 : ¬ (y : Int) = (x : Int) := by omega
          go_wp2_with (go_at_call 52; refine (nanS_any _ _).mono ?_; rintro e w' ⟨rfl, rfl⟩)
          go_ret2
          exact ⟨⟨_, rfl⟩, rfl⟩
      · have hd1 : decide ((a : Int) < (n : Int)) = false := by simp; omega
        have hi1 : ¬ (a : Int) < (n : Int) := by omega
        go_wp2_with (go_at_call 52; refine (nanS_any _ _).mono ?_; rintro e w' ⟨rfl, rfl⟩)
        go_ret2
        exact ⟨⟨_, rfl⟩, rfl⟩

/-- without those at the end that are gone -/
def cutG (S : List En) : List En := (S.reverse.dropWhile fun x => x.m.g).reverse
theorem cutG_snoc (S : List En) (x : En) : cutG (S ++ [x]) = if x.m.g then cutG S else S ++ [x] := by
  unfold cutG
  rw [List.reverse_append, List.reverse_singleton, List.singleton_append, List.dropWhile_cons]
  by_cases h : x.m.g = true
  · rw [if_pos h, if_pos h]
  · rw [if_neg h, if_neg h, List.reverse_cons, List.reverse_reverse]
theorem cutG_take (S : List En) : S.take (cutG S).length = cutG S := by
  have h := List.takeWhile_append_dropWhile (p := fun x : En => x.m.g) (l := S.reverse)
  have h2 := congrArg List.reverse h
  rw [List.reverse_append, List.reverse_reverse] at h2
  have h3 := List.take_left (l₁ := cutG S) (l₂ := (S.reverse.takeWhile fun x : En => x.m.g).reverse)
  rwa [show cutG S ++ (S.reverse.takeWhile fun x : En => x.m.g).reverse = S from h2] at h3
def CgR (w : World) (S : List En) (v : Value) (wr : World) : Prop := ∃ k : Nat, k ≤ S.length ∧ v = .int .i64 (k : Int) ∧ cutG (S.take k) = cutG S ∧ Below w.heap.size w wr

set_option maxHeartbeats 4000000 in
theorem without_any {w : World} {B n c : Nat} {A : Option Addr} {S : List En} (hE : EL w B A n c S) (hn : n ≤ 1000000) :
    Calls Try.prog 39 #[.slice A n c] w fun e w' => e = .returned (.slice A (cutG S).length c) ∧ Below w.heap.size w w' := by
  have hln := hE.lies.elen
  have hnc := hE.nc
  have HE := Lib.hid hE; have HLn := Lib.hid hln
  have HS : Hid (CgR w S (.int .i64 (n : Int)) w) := ⟨n, by omega, rfl, by rw [List.take_of_length_le (by omega)], Below.refl _ _⟩
  clear hE hln
  go_enter Try.func39, Try.ntmps39
  go_wp2
  go_loopw [3] (fun v wr => CgR w S v wr) (fun v _ => (intOf v).toNat)
  case atStart => exact HS.out
  case round =>
    clear HS
    obtain ⟨k, hk, rfl, hc, hb⟩ := hrel
    rw [HLn.out] at hk
    have hEr : EL wr B A n c S := HE.out.below (hb.mono (Nat.le_refl _))
    have HB := Lib.hid hb; have HC := Lib.hid hc
    cases k with
    | zero =>
      have h0 : (cutG S).length = 0 := by rw [← hc]; rfl
      have HF : Hid (Ending.returned (.slice A 0 c) = .returned (.slice A (cutG S).length c)) := by rw [h0]; rfl
      have hd : decide ((0 : Int) < ((0 : Nat) : Int)) = false := rfl
      have hs := fun W => run_headE W A n c 0 (Nat.zero_le _)
      clear hc hb hEr HE h0
      go_wp2
      go_ret
      exact ⟨HF.out, HB.out⟩
    | succ j =>
      obtain ⟨b, o, x, rfl, hbB, hx, x0, x1, x2, x3⟩ := hEr.lies.entry (i := j) (by omega)
      have hsn : cutG (S.take (j + 1)) = if x.m.g then cutG (S.take j) else S.take (j + 1) := by
        rw [List.take_add_one, hx]; exact cutG_snoc _ _
      obtain ⟨m, hm⟩ : ∃ m, j + 1 = m := ⟨_, rfl⟩
      rw [hm] at hk hc hsn ⊢
      have i1 : (0 : Int) < (m : Int) := by omega
      have i2 : (m : Int) - 1 = (j : Int) := by omega
      have i3 : (0 : Int) ≤ (j : Int) := by omega
      have i4 : (j : Int) < (n : Int) := by omega
      have i5 : j < n := by omega
      have i6 : 0 < m := by omega
      have hd : decide ((0 : Int) < (m : Int)) = true := decide_eq_true i1
      have hd2 : decide (0 < m) = true := decide_eq_true i6
      have HM : Hid (j < m) := by unfold Hid; omega
      cases hg : x.m.g with
      | true =>
        rw [hg] at x2
        have HR : Hid (CgR w S (.int .i64 (j : Int)) wr) := ⟨j, by rw [HLn.out]; omega, rfl, by rw [hg, if_pos rfl] at hsn; rw [← hsn]; exact hc, hb⟩
        clear hc hb hEr hx hsn HE hm
        go_wp2
        go_roundw
        case rel => exact HR.out
        case measure => simp [intOf]; exact HM.out
      | false =>
        rw [hg] at x2
        have hl : (cutG S).length = m := by rw [← hc, hsn, hg, if_neg (by simp), List.length_take, HLn.out]; omega
        have HF : Hid (Ending.returned (.slice (some ⟨b, o, none⟩) m c) = .returned (.slice (some ⟨b, o, none⟩) (cutG S).length c)) := by rw [hl]; rfl
        have hs := fun W => run_headE W (some ⟨b, o, none⟩) n c m (by omega)
        clear hc hb hEr hx hsn HE hm hl
        go_wp2
        go_ret
        exact ⟨HF.out, HB.out⟩
end Go.Proofs.Ytoljldokehfokaa

