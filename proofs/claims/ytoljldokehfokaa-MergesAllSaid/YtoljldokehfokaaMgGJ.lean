/-
  Package merges: next.
  Package merges: next, where the first list has but one entry; next.
  Package merges: waitingOf.
-/
import Derived.Test.YtoljldokehfokaaMgCF
namespace Go.Proofs.Ytoljldokehfokaa
open Go.RowKit
set_option linter.unusedVariables false
set_option maxRecDepth 100000

theorem al_belowM (w : World) (o : Obj) : Below w.heap.size w (w.alloc o) := (Below.refl _ _).alloc (Nat.le_refl _) _
theorem set_sameM {w : World} {b i : Nat} {v : Value} {cur : Array Value} {t : TypeId} (h : w.heap[b]? = some (.cells cur t (0, 0))) (hv : cur[i]? = some v) : w.setCell ⟨b, i, none⟩ v = w := by
  have e : (w.setCell ⟨b, i, none⟩ v).heap = w.heap := by
    apply Array.ext_getElem?
    intro k
    by_cases hk : k = b
    · subst hk
      have hs : cur.setIfInBounds i v = cur := by
        apply Array.ext_getElem?
        intro j
        rw [Array.getElem?_setIfInBounds]
        by_cases hj : i = j
        · subst hj
          rw [if_pos rfl, hv]
          have := (Array.getElem?_eq_some_iff.1 hv).1
          simp [this]
        · rw [if_neg hj]
      simp [World.setCell, Array.getElem?_modify, h, hs]
    · exact Below.heap_setCell _ _ _ _ hk
  show ({ w with heap := (w.setCell ⟨b, i, none⟩ v).heap } : World) = w
  rw [e]
theorem set4_same {w : World} {b : Nat} {v0 v1 v2 v3 : Value} {t : TypeId} (h : w.heap[b]? = some (.cells #[v0, v1, v2, v3] t (0, 0))) :
    (((w.setCell ⟨b, 0, none⟩ v0).setCell ⟨b, 1, none⟩ v1).setCell ⟨b, 2, none⟩ v2).setCell ⟨b, 3, none⟩ v3 = w := by
  rw [set_sameM h (i := 0) (v := v0) rfl, set_sameM h (i := 1) (v := v1) rfl, set_sameM h (i := 2) (v := v2) rfl, set_sameM h (i := 3) (v := v3) rfl]
abbrev noEV : Value := .agg #[.string ⟨#[]⟩, .int .u64 0, .bool false, .string ⟨#[]⟩]
/-- the list without its first entry -/
def Ls.rest (r : Ls) : Ls := ⟨cutE r.A r.c 1, r.n - 1, r.c - 1, r.l.drop 1⟩
theorem Ls.rest_el {w : World} {B : Nat} {r : Ls} (h : EL w B r.A r.n r.c r.l) (hn : 0 < r.n) : EL w B r.rest.A r.rest.n r.rest.c r.rest.l := by
  refine ⟨?_, h.B, by have := h.nc; show r.n - 1 ≤ r.c - 1; omega, by have := h.cc; show r.c - 1 ≤ maxLen; omega, fun e he => h.sz e (List.mem_of_mem_drop he)⟩
  have := h.lies.cutE (m := 1) hn h.nc
  rw [ecs_drop] at this
  exact this
theorem Wt.rm {w : World} {B g q n c : Nat} {A : Option Addr} {H : List Ls} (h : Wt w B g q A n c H) (hn : 0 < n) (v v2 : Value) (r : Ls) (hr : n ≠ 1 → H[n - 1]? = some r ∧ v2 = r.v) :
    Wt (((w.setCell ⟨q, 0, none⟩ v).drew.setCell ⟨q, 0, none⟩ v2).drew.setCell ⟨g, 0, none⟩ (.slice A (n - 1) c)) B g q A (n - 1) c (rmF H r) := by
  obtain ⟨cur, hc, hh⟩ := h.row (by omega)
  have ha := h.at_
  have hne := h.ne
  have e1 : (((w.setCell ⟨q, 0, none⟩ v).drew.setCell ⟨q, 0, none⟩ v2).drew.setCell ⟨g, 0, none⟩ (.slice A (n - 1) c)).heap[q]? = some (.cells ((cur.setIfInBounds 0 v).setIfInBounds 0 v2) 22 (0, 0)) := by
    refine (Below.heap_setCell _ _ _ _ hne.symm).trans ?_
    have s1 : (w.setCell ⟨q, 0, none⟩ v).drew.heap[q]? = some (.cells (cur.setIfInBounds 0 v) 22 (0, 0)) := by
      show (w.setCell ⟨q, 0, none⟩ v).heap[q]? = _
      simp [World.setCell, Array.getElem?_modify, hc]
    generalize (w.setCell ⟨q, 0, none⟩ v).drew = w2 at *
    show (w2.setCell ⟨q, 0, none⟩ v2).heap[q]? = _
    simp [World.setCell, Array.getElem?_modify, s1]
  have e2 : (((w.setCell ⟨q, 0, none⟩ v).drew.setCell ⟨q, 0, none⟩ v2).drew.setCell ⟨g, 0, none⟩ (.slice A (n - 1) c)).heap[g]? = some (.cells #[.slice A (n - 1) c, cmpV] 66 (0, 0)) := by
    have s1 : ((w.setCell ⟨q, 0, none⟩ v).drew.setCell ⟨q, 0, none⟩ v2).drew.heap[g]? = some (.cells #[.slice A n c, cmpV] 66 (0, 0)) :=
      (Below.heap_setCell _ _ _ _ hne).trans ((Below.heap_setCell _ _ _ _ hne).trans ha)
    generalize ((w.setCell ⟨q, 0, none⟩ v).drew.setCell ⟨q, 0, none⟩ v2).drew = w2 at *
    simp [World.setCell, Array.getElem?_modify, s1]
  have e3 : ∀ p : Addr, p.block < B → (((w.setCell ⟨q, 0, none⟩ v).drew.setCell ⟨q, 0, none⟩ v2).drew.setCell ⟨g, 0, none⟩ (.slice A (n - 1) c)).cell? p = w.cell? p := fun p hp => by
    have h0 := h.B0; have h1 := h.B1
    exact World.cell?_of_block ((Below.heap_setCell _ _ _ _ (by show p.block ≠ g; omega)).trans ((Below.heap_setCell _ _ _ _ (by show p.block ≠ q; omega)).trans (Below.heap_setCell _ _ _ _ (by show p.block ≠ q; omega))))
  have e4 : w.heap.size ≤ (((w.setCell ⟨q, 0, none⟩ v).drew.setCell ⟨q, 0, none⟩ v2).drew.setCell ⟨g, 0, none⟩ (.slice A (n - 1) c)).heap.size := by simp
  have hl : ∀ s ∈ rmF H r, s ∈ H := fun s hs => by
    unfold rmF at hs
    by_cases h1 : n = 1
    · rw [h.len, h1] at hs; simp at hs
    · rcases List.mem_or_eq_of_mem_set (List.mem_of_mem_take hs) with q | rfl
      · exact q
      · exact List.mem_of_getElem? (hr h1).1
  refine ⟨e2, by rw [rmF_len, h.len], by have := h.nc; omega, h.cc, by have := h.nm; omega, hne, h.B0, h.B1, Nat.le_trans h.BB e4, h.adr.imp id (fun e => by omega), fun hn1 => ⟨_, e1, fun i s hs => ?_⟩, fun s hs => ⟨el_keepM (h.ls s (hl s hs)).1 e3 e4, (h.ls s (hl s hs)).2⟩⟩
  obtain ⟨h1, h2⟩ := hr (by omega)
  unfold rmF at hs
  have hi : i < H.length - 1 := by
    rcases Nat.lt_or_ge i (H.length - 1) with q | q
    · exact q
    · rw [List.getElem?_eq_none (by rw [List.length_take, List.length_set]; omega)] at hs; cases hs
  rw [List.getElem?_take_of_lt hi, List.getElem?_set] at hs
  have hl0 : 0 < H.length := by omega
  have hc0 : 0 < cur.size := (Array.getElem?_eq_some_iff.1 (hh 0 _ (List.getElem?_eq_getElem hl0))).1
  rw [Array.getElem?_setIfInBounds, Array.getElem?_setIfInBounds]
  by_cases e : 0 = i
  · subst e
    simp [hl0] at hs
    subst hs
    simp [hc0, h2]
  · rw [if_neg e] at hs
    rw [if_neg e, if_neg e]
    exact hh i s hs

set_option maxHeartbeats 4000000 in
theorem next_none {w : World} {B g q c : Nat} {A : Option Addr} {H : List Ls} (hW : Wt w B g q A 0 c H) :
    Calls Try.prog 19 #[.pointer (some ⟨g, 0, none⟩)] w fun e w' => e = .returned (.tuple #[noEV, .bool false]) ∧ Below w.heap.size w w' := by
  have hgl := (Array.getElem?_eq_some_iff.1 hW.at_).1
  have g0 : (w.alloc (.cells #[.string ⟨#[]⟩, .int .u64 0, .bool false, .string ⟨#[]⟩] 31)).cell? ⟨g, 0, none⟩ = some (.slice A 0 c) := ((al_belowM w _).cell hgl).trans hW.cells.1
  have HB := Lib.hid (al_belowM w (.cells #[.string ⟨#[]⟩, .int .u64 0, .bool false, .string ⟨#[]⟩] 31))
  clear hW
  go_enter Try.func19, Try.ntmps19
  have hr0 := heap_alloc_new w (.cells #[.string ⟨#[]⟩, .int .u64 0, .bool false, .string ⟨#[]⟩] 31)
  have t0 := cell_of_row _ _ 0 _ _ (0, 0) hr0
  have t1 := cell_of_row _ _ 1 _ _ (0, 0) hr0
  have t2 := cell_of_row _ _ 2 _ _ (0, 0) hr0
  have t3 := cell_of_row _ _ 3 _ _ (0, 0) hr0
  go_wp2
  refine bodyPost_ret (v := .tuple #[noEV, .bool false]) (by simp [results, Try.results19, go_sem, t0, t1, t2, t3]) rfl ?_
  exact ⟨rfl, HB.out⟩

/-- what next hands over -/
def NextR (w : World) (B g q n c : Nat) (A : Option Addr) (x : En) (r : Ls) (R : List Ls) (e : Ending) (w' : World) : Prop :=
  e = .returned (.tuple #[x.v, .bool true]) ∧ ∃ n' H', Wt w' B g q A n' c H' ∧ (∀ i, HAt H' i) ∧ H'.Perm (if r.rest.l = [] then R else r.rest :: R) ∧ n' ≤ n ∧ But w w' g q
theorem ens (l : List En) (x : En) (t : List En) (h : l = x :: t) : l.drop 1 = t := by rw [h]; rfl

set_option maxHeartbeats 4000000 in
theorem next_more {w : World} {B g q n c : Nat} {A : Option Addr} {r : Ls} {R : List Ls} (hW : Wt w B g q A n c (r :: R)) (hh : ∀ i, HAt (r :: R) i) (hq : q < w.heap.size) (x : En) (hx : r.l.head? = some x) (h1 : r.n ≠ 1) :
    Calls Try.prog 19 #[.pointer (some ⟨g, 0, none⟩)] w fun e w' => NextR w B g q n c A x r R e w' := by
  have hgl := (Array.getElem?_eq_some_iff.1 hW.at_).1
  have hn0 : 0 < n := by rw [← hW.len]; simp
  obtain ⟨r', hr, hA, hrc, hfz, hel, hrn, hrl⟩ := hW.lst hn0
  obtain rfl : r = r' := by simpa using hr
  obtain ⟨b, o, x', hrA, hb, hx', x0, x1, x2, x3⟩ := hW.first hr
  obtain rfl : x = x' := by unfold hd at hx'; rw [hr, Option.bind_some, hx] at hx'; injection hx'
  have hrest : r.rest.l ≠ [] := by
    intro e
    have := congrArg List.length e
    unfold Ls.rest at this
    simp only [List.length_drop, List.length_nil] at this
    omega
  have HZ : ∀ ob : Obj, (w.alloc ob).cell? ⟨g, 0, none⟩ = some (.slice (some ⟨q, 0, none⟩) n c) ∧ (w.alloc ob).cell? ⟨q, 0, none⟩ = some (.slice (some ⟨b, o, none⟩) r.n r.c) ∧ (w.alloc ob).frozen? ⟨q, 0, none⟩ = false ∧
      (w.alloc ob).cell? ⟨b, o, none⟩ = some (.string x.m.k) ∧ (w.alloc ob).cell? ⟨b, o + 1, none⟩ = some (.int .u64 (x.m.s : Int)) ∧ (w.alloc ob).cell? ⟨b, o + 2, none⟩ = some (.bool x.m.g) ∧ (w.alloc ob).cell? ⟨b, o + 3, none⟩ = some (.string x.x) := fun ob => by
    have hbw : b < w.heap.size := Nat.lt_of_lt_of_le hb hW.BB
    have up : ∀ {p : Addr}, p.block < w.heap.size → (w.alloc ob).cell? p = w.cell? p := fun hp => (al_belowM w ob).cell hp
    refine ⟨(up hgl).trans (by rw [← hA]; exact hW.cells.1), (up hq).trans (by rw [← hrA]; exact hrc), ?_, (up hbw).trans x0, (up hbw).trans x1, (up hbw).trans x2, (up hbw).trans x3⟩
    exact ((al_belowM w ob).frozen hq).trans hfz
  obtain ⟨z0, z1, _, z2, z3, z4, z5⟩ := HZ (.cells #[.string ⟨#[]⟩, .int .u64 0, .bool false, .string ⟨#[]⟩] 31)
  obtain ⟨y0, y1, y2, _⟩ := HZ (.cells #[.string x.m.k, .int .u64 (x.m.s : Int), .bool x.m.g, .string x.x] 31)
  have hs1 : ∀ W, (Instr.slice 22 (.slice (some ⟨b, o, none⟩) r.n r.c) (some (.int .i64 1)) none none).run Try.prog W = .ok (.slice r.rest.A r.rest.n r.rest.c) W := fun W => by
    have := run_cutE W r.A r.n r.c 1 hrn
    rw [hrA] at this
    unfold Ls.rest
    rw [hrA]
    exact this
  -- behind the store
  have hWp := hW.put (i := 0) (r := r.rest) hn0 (Ls.rest_el (hW.ls r (List.mem_cons_self ..)).1 hrn) hrest
  rw [List.set_cons_zero] at hWp
  have hsz : (w.setCell ⟨q, 0, none⟩ r.rest.v).heap.size = w.heap.size := by simp
  obtain ⟨X, hX⟩ : ∃ X, Obj.cells #[.string x.m.k, .int .u64 (x.m.s : Int), .bool x.m.g, .string x.x] 31 = X := ⟨_, rfl⟩
  have hWd := hWp.below (al_belowM _ X).drew
  have hh2 : ∀ i, 0 < i → HAt (r.rest :: R) i := fun i hi cc u v hc hu hv => by
    have e : ∀ j, 0 < j → hd (r.rest :: R) j = hd (r :: R) j := fun j hj => by
      obtain ⟨k, rfl⟩ : ∃ k, j = k + 1 := ⟨j - 1, by omega⟩
      rfl
    rw [e i hi] at hu; rw [e cc (by omega)] at hv
    exact hh i cc u v hc hu hv
  have hXb : ((w.setCell ⟨q, 0, none⟩ r.rest.v).alloc X).drew.heap[w.heap.size]? = some (.cells #[.string x.m.k, .int .u64 (x.m.s : Int), .bool x.m.g, .string x.x] 31 (0, 0)) :=
    by rw [← hX, ← hsz]; exact heap_alloc_new (w.setCell ⟨q, 0, none⟩ r.rest.v) _
  have g2 : ((w.setCell ⟨q, 0, none⟩ r.rest.v).alloc X).drew.cell? ⟨g, 0, none⟩ = some (.slice (some ⟨q, 0, none⟩) n c) := by rw [← hA]; exact hWd.cells.1
  obtain ⟨r2, hr2, _, q2, _⟩ := hWd.lst hn0
  obtain rfl : r.rest = r2 := by simpa using hr2
  have HK := Lib.hid (sink_any hWd 0 (Nat.zero_le _) hh2)
  have HF : Hid (∀ w5 H5, Wt w5 B g q A n c H5 → H5.Perm (r.rest :: R) → (∀ i, HAt H5 i) → But ((w.setCell ⟨q, 0, none⟩ r.rest.v).alloc X).drew w5 g q →
      (w5.cell? ⟨w.heap.size, 0, none⟩ = some (.string x.m.k) ∧ w5.cell? ⟨w.heap.size, 1, none⟩ = some (.int .u64 (x.m.s : Int)) ∧ w5.cell? ⟨w.heap.size, 2, none⟩ = some (.bool x.m.g) ∧ w5.cell? ⟨w.heap.size, 3, none⟩ = some (.string x.x) ∧ ∀ i, w5.frozen? ⟨w.heap.size, i, none⟩ = false) ∧
      NextR w B g q n c A x r R (.returned (.tuple #[x.v, .bool true])) ((((w5.setCell ⟨w.heap.size, 0, none⟩ (.string x.m.k)).setCell ⟨w.heap.size, 1, none⟩ (.int .u64 (x.m.s : Int))).setCell ⟨w.heap.size, 2, none⟩ (.bool x.m.g)).setCell ⟨w.heap.size, 3, none⟩ (.string x.x))) := fun w5 H5 a1 a2 a3 a4 => by
    have hX5 := (a4.block w.heap.size (by show w.heap.size < ((w.setCell ⟨q, 0, none⟩ r.rest.v).alloc X).heap.size; simp) (by omega) (by omega)).trans hXb
    refine ⟨⟨cell_of_row _ _ 0 _ _ (0, 0) hX5, cell_of_row _ _ 1 _ _ (0, 0) hX5, cell_of_row _ _ 2 _ _ (0, 0) hX5, cell_of_row _ _ 3 _ _ (0, 0) hX5, fun i => by simp [World.frozen?, hX5]⟩, ?_⟩
    rw [set4_same hX5]
    refine ⟨rfl, n, H5, a1, a3, by rw [if_neg hrest]; exact a2, Nat.le_refl _, ?_⟩
    exact (But.set1 w g q 0 _).trans ((But.of_below g q (al_belowM _ X).drew).trans a4)
  have i1 : r.rest.n ≠ 0 := by show r.n - 1 ≠ 0; omega
  have i2 : ((r.rest.n : Int) == 0) = false := by rw [beq_eq_false_iff_ne]; omega
  have i3 : ¬ (r.rest.n : Int) = 0 := by omega
  have i4 : ((n : Int) == 0) = false := by rw [beq_eq_false_iff_ne]; omega
  have i5 : (0 : Int) < (n : Int) := by omega
  have i6 : (0 : Int) < (r.n : Int) := by omega
  have i7 : 0 < r.n := hrn
  subst hX
  unfold Ls.v at HK g2 q2 HF
  clear hW hh hx hr hrc hfz hel hrl hrA hb hx' x0 x1 x2 x3 HZ hWp hWd hsz hh2 hXb hr2 hrest h1 hA
  generalize r.rest.A = A2 at *
  generalize r.rest.n = n2 at *
  generalize r.rest.c = c2 at *
  generalize r.n = n1 at *
  generalize r.c = c1 at *
  go_enter Try.func19, Try.ntmps19
  go_wp2
  go_region
  all_goals (
    go_wp2_with fail
    refine HK.out.mono ?_
    rintro e w5 ⟨rfl, H5, a1, a2, a3, a4⟩
    obtain ⟨⟨t0, t1, t2, t3, tf⟩, hfin⟩ := HF.out w5 H5 a1 a2 (fun i => a3 i (Nat.zero_le _)) a4
    have HN := Lib.hid hfin
    clear a1 a2 a3 a4 hfin HK HF
    have f0 := tf 0; have f1 := tf 1; have f2 := tf 2; have f3 := tf 3
    clear tf
    go_wp2
    refine bodyPost_ret (v := .tuple #[.agg #[.string x.m.k, .int .u64 (x.m.s : Int), .bool x.m.g, .string x.x], .bool true]) (by simp [results, Try.results19, go_sem, t0, t1, t2, t3]) rfl ?_
    exact HN.out)
end Go.Proofs.Ytoljldokehfokaa

namespace Go.Proofs.Ytoljldokehfokaa
open Go.RowKit
set_option linter.unusedVariables false
set_option maxRecDepth 100000

theorem alloc_set (w : World) (q i : Nat) (v : Value) (X : Obj) (hq : q < w.heap.size) : (w.setCell ⟨q, i, none⟩ v).alloc X = (w.alloc X).setCell ⟨q, i, none⟩ v := by
  have e : ((w.setCell ⟨q, i, none⟩ v).alloc X).heap = ((w.alloc X).setCell ⟨q, i, none⟩ v).heap := by
    have s1 : (w.setCell ⟨q, i, none⟩ v).heap.size = w.heap.size := by simp
    apply Array.ext_getElem?
    intro k
    rcases Nat.lt_trichotomy k w.heap.size with h | h | h
    · rw [Below.heap_alloc _ _ _ (by omega)]
      by_cases hk : k = q
      · subst hk
        have h3 := Below.heap_alloc w X k h
        simp only [World.setCell, Array.getElem?_modify, if_pos, h3]
      · rw [Below.heap_setCell _ _ _ _ hk, Below.heap_setCell _ _ _ _ hk, Below.heap_alloc _ _ _ h]
    · subst h
      have h1 := heap_alloc_new (w.setCell ⟨q, i, none⟩ v) X
      rw [s1] at h1
      rw [h1, Below.heap_setCell _ _ _ _ (by show w.heap.size ≠ q; omega), heap_alloc_new]
    · rw [Array.getElem?_eq_none (by simp; omega), Array.getElem?_eq_none (by simp; omega)]
  show ({ w with heap := ((w.setCell ⟨q, i, none⟩ v).alloc X).heap } : World) = { w with heap := ((w.alloc X).setCell ⟨q, i, none⟩ v).heap }
  rw [e]

set_option maxHeartbeats 4000000 in
theorem next_last {w : World} {B g q n c : Nat} {A : Option Addr} {r : Ls} {R : List Ls} (hW : Wt w B g q A n c (r :: R)) (hh : ∀ i, HAt (r :: R) i) (hq : q < w.heap.size) (x : En) (hx : r.l.head? = some x) (h1 : r.n = 1) :
    Calls Try.prog 19 #[.pointer (some ⟨g, 0, none⟩)] w fun e w' => NextR w B g q n c A x r R e w' := by
  have hgl := (Array.getElem?_eq_some_iff.1 hW.at_).1
  have hn0 : 0 < n := by rw [← hW.len]; simp
  obtain ⟨r', hr, hA, hrc, hfz, hel, hrn, hrl⟩ := hW.lst hn0
  obtain rfl : r = r' := by simpa using hr
  obtain ⟨b, o, x', hrA, hb, hx', x0, x1, x2, x3⟩ := hW.first hr
  obtain rfl : x = x' := by unfold hd at hx'; rw [hr, Option.bind_some, hx] at hx'; injection hx'
  have hrest : r.rest.l = [] := by
    have e : r.rest.l.length = 0 := by
      unfold Ls.rest
      simp only [List.length_drop]
      omega
    exact List.eq_nil_of_length_eq_zero e
  have HZ : ∀ ob : Obj, (w.alloc ob).cell? ⟨g, 0, none⟩ = some (.slice (some ⟨q, 0, none⟩) n c) ∧ (w.alloc ob).cell? ⟨q, 0, none⟩ = some (.slice (some ⟨b, o, none⟩) r.n r.c) ∧ (w.alloc ob).frozen? ⟨q, 0, none⟩ = false ∧
      (w.alloc ob).cell? ⟨b, o, none⟩ = some (.string x.m.k) ∧ (w.alloc ob).cell? ⟨b, o + 1, none⟩ = some (.int .u64 (x.m.s : Int)) ∧ (w.alloc ob).cell? ⟨b, o + 2, none⟩ = some (.bool x.m.g) ∧ (w.alloc ob).cell? ⟨b, o + 3, none⟩ = some (.string x.x) := fun ob => by
    have hbw : b < w.heap.size := Nat.lt_of_lt_of_le hb hW.BB
    have up : ∀ {p : Addr}, p.block < w.heap.size → (w.alloc ob).cell? p = w.cell? p := fun hp => (al_belowM w ob).cell hp
    refine ⟨(up hgl).trans (by rw [← hA]; exact hW.cells.1), (up hq).trans (by rw [← hrA]; exact hrc), ?_, (up hbw).trans x0, (up hbw).trans x1, (up hbw).trans x2, (up hbw).trans x3⟩
    exact ((al_belowM w ob).frozen hq).trans hfz
  obtain ⟨z0, z1, _, z2, z3, z4, z5⟩ := HZ (.cells #[.string ⟨#[]⟩, .int .u64 0, .bool false, .string ⟨#[]⟩] 31)
  obtain ⟨y0, y1, y2, _⟩ := HZ (.cells #[.string x.m.k, .int .u64 (x.m.s : Int), .bool x.m.g, .string x.x] 31)
  have hs1 : ∀ W, (Instr.slice 22 (.slice (some ⟨b, o, none⟩) r.n r.c) (some (.int .i64 1)) none none).run Try.prog W = .ok (.slice r.rest.A r.rest.n r.rest.c) W := fun W => by
    have := run_cutE W r.A r.n r.c 1 hrn
    rw [hrA] at this
    unfold Ls.rest
    rw [hrA]
    exact this
  -- behind the store, and behind the removal
  obtain ⟨X, hX⟩ : ∃ X, Obj.cells #[.string x.m.k, .int .u64 (x.m.s : Int), .bool x.m.g, .string x.x] 31 = X := ⟨_, rfl⟩
  have hsw := alloc_set w q 0 r.rest.v X hq
  have hWx := hW.below (al_belowM w X)
  obtain ⟨rl, hrl1, hrl2⟩ : ∃ rl : Ls, (n ≠ 1 → (r :: R)[n - 1]? = some rl ∧ rl.v = rl.v) ∧ (n = 1 → rl = r.rest) := by
    by_cases e : n = 1
    · exact ⟨r.rest, fun q => absurd e q, fun _ => rfl⟩
    · obtain ⟨rl, h, _⟩ := hW.lst (i := n - 1) (by omega)
      exact ⟨rl, fun _ => ⟨h, rfl⟩, fun q => absurd q e⟩
  have hrm := hWx.rm hn0 r.rest.v rl.v rl hrl1
  have hperm : (rmF (r :: R) rl).Perm R := by
    by_cases e : n = 1
    · have hR : R = [] := by have := hW.len; rw [e] at this; exact List.eq_nil_of_length_eq_zero (by simpa using this)
      subst hR
      exact List.Perm.refl _
    · exact rmF_perm rfl (by rw [hW.len]; exact (hrl1 e).1)
  have hh2 : ∀ i, 0 < i → HAt (rmF (r :: R) rl) i := fun i hi cc u v hc hu hv => hh i cc u v hc (rmF_hd hi hu) (rmF_hd (by omega) hv)
  have hat : ((w.setCell ⟨q, 0, none⟩ r.rest.v).alloc X).drew.heap[g]? = some (.cells #[.slice A n c, cmpV] 66 (0, 0)) := by
    rw [hsw]
    exact (Below.heap_setCell _ _ _ _ hW.ne).trans hWx.at_
  obtain ⟨cur, hcur, hch⟩ := hWx.row (by omega)
  have hc0 : 0 < cur.size := (Array.getElem?_eq_some_iff.1 (hch 0 _ hr)).1
  have hqr : ((w.setCell ⟨q, 0, none⟩ r.rest.v).alloc X).drew.heap[q]? = some (.cells (cur.setIfInBounds 0 r.rest.v) 22 (0, 0)) := by
    rw [hsw]
    show ((w.alloc X).setCell ⟨q, 0, none⟩ r.rest.v).heap[q]? = _
    simp [World.setCell, Array.getElem?_modify, hcur]
  have q2 : ((w.setCell ⟨q, 0, none⟩ r.rest.v).alloc X).drew.cell? ⟨q, 0, none⟩ = some r.rest.v := by
    rw [cell_of_row _ _ 0 _ _ (0, 0) hqr, Array.getElem?_setIfInBounds]; simp [hc0]
  have q3 : ((w.setCell ⟨q, 0, none⟩ r.rest.v).alloc X).drew.cell? ⟨q, n - 1, none⟩ = some rl.v := by
    by_cases e : n = 1
    · rw [hrl2 e, e]; exact q2
    · rw [cell_of_row _ _ (n - 1) _ _ (0, 0) hqr, Array.getElem?_setIfInBounds, if_neg (by omega)]
      exact hch (n - 1) rl (hrl1 e).1
  have q4 : ((w.setCell ⟨q, 0, none⟩ r.rest.v).alloc X).drew.frozen? ⟨q, 0, none⟩ = false := by simp [World.frozen?, hqr]
  have g2 : ((w.setCell ⟨q, 0, none⟩ r.rest.v).alloc X).drew.cell? ⟨g, 0, none⟩ = some (.slice (some ⟨q, 0, none⟩) n c) := by rw [← hA]; exact cell_of_row _ _ 0 _ _ (0, 0) hat
  have HR := Lib.hid (removeFirst_any (B := B) hW.len rfl hat hA hW.ne hW.nm hW.nc rl q3 ⟨_, q2⟩ q4)
  have HK0 := sink_any hrm 0 (Nat.zero_le _) hh2
  rw [← hsw] at HK0
  have HK := Lib.hid HK0
  have hX2 : ∀ u v : Value, ((((w.setCell ⟨q, 0, none⟩ r.rest.v).alloc X).drew.setCell ⟨q, 0, none⟩ u).drew.setCell ⟨g, 0, none⟩ v).heap[w.heap.size]? = some X := fun u v => by
    refine (Below.heap_setCell _ _ _ _ (by show w.heap.size ≠ g; omega)).trans ((Below.heap_setCell _ _ _ _ (by show w.heap.size ≠ q; omega)).trans ?_)
    have := heap_alloc_new (w.setCell ⟨q, 0, none⟩ r.rest.v) X
    rw [show (w.setCell ⟨q, 0, none⟩ r.rest.v).heap.size = w.heap.size from by simp] at this
    exact this
  have HF : Hid (∀ w5 H5, Wt w5 B g q A (n - 1) c H5 → H5.Perm (rmF (r :: R) rl) → (∀ i, HAt H5 i) → But ((((w.setCell ⟨q, 0, none⟩ r.rest.v).alloc X).drew.setCell ⟨q, 0, none⟩ rl.v).drew.setCell ⟨g, 0, none⟩ (.slice A (n - 1) c)) w5 g q →
      (w5.cell? ⟨w.heap.size, 0, none⟩ = some (.string x.m.k) ∧ w5.cell? ⟨w.heap.size, 1, none⟩ = some (.int .u64 (x.m.s : Int)) ∧ w5.cell? ⟨w.heap.size, 2, none⟩ = some (.bool x.m.g) ∧ w5.cell? ⟨w.heap.size, 3, none⟩ = some (.string x.x) ∧ ∀ i, w5.frozen? ⟨w.heap.size, i, none⟩ = false) ∧
      NextR w B g q n c A x r R (.returned (.tuple #[x.v, .bool true])) ((((w5.setCell ⟨w.heap.size, 0, none⟩ (.string x.m.k)).setCell ⟨w.heap.size, 1, none⟩ (.int .u64 (x.m.s : Int))).setCell ⟨w.heap.size, 2, none⟩ (.bool x.m.g)).setCell ⟨w.heap.size, 3, none⟩ (.string x.x))) := fun w5 H5 a1 a2 a3 a4 => by
    have hX5 := (a4.block w.heap.size (by simp) (by omega) (by omega)).trans ((hX2 _ _).trans (by rw [← hX]))
    refine ⟨⟨cell_of_row _ _ 0 _ _ (0, 0) hX5, cell_of_row _ _ 1 _ _ (0, 0) hX5, cell_of_row _ _ 2 _ _ (0, 0) hX5, cell_of_row _ _ 3 _ _ (0, 0) hX5, fun i => by simp [World.frozen?, hX5]⟩, ?_⟩
    rw [set4_same hX5]
    refine ⟨rfl, n - 1, H5, a1, a3, by rw [if_pos hrest]; exact a2.trans hperm, by omega, ?_⟩
    exact (But.set1 w g q 0 _).trans ((But.of_below g q (al_belowM _ X).drew).trans ((But.set1 _ g q 0 _).trans ((But.of_below g q (Below.refl _ _).drew).trans ((But.set0 _ g q 0 _).trans a4))))
  have i1 : r.rest.n = 0 := by show r.n - 1 = 0; omega
  have i4 : ((n : Int) == 0) = false := by rw [beq_eq_false_iff_ne]; omega
  have i5 : (0 : Int) < (n : Int) := by omega
  have i6 : (0 : Int) < (r.n : Int) := by omega
  have i7 : 0 < r.n := hrn
  subst hX
  subst hA
  unfold Ls.v at HR HK q2 g2 HF
  clear hsw hWx hrl1 hrl2 hrm hperm hh2 hat hcur hch hc0 hqr q3 q4 hX2 HK0 hW hh hx hr hrc hfz hel hrl hrA hb hx' x0 x1 x2 x3 HZ hrest h1
  generalize r.rest.A = A2 at *
  rw [i1] at HR HK q2 g2 HF hs1
  clear i1
  generalize r.rest.c = c2 at *
  generalize r.n = n1 at *
  generalize r.c = c1 at *
  go_enter Try.func19, Try.ntmps19
  go_wp2
  go_region
  all_goals (
    go_wp2_with fail
    refine HR.out.mono ?_
    rintro e w4 ⟨rfl, hw4⟩
    rw [← hw4] at HK HF
    clear HR hw4
    go_wp2_with fail
    refine HK.out.mono ?_
    rintro e w5 ⟨rfl, H5, a1, a2, a3, a4⟩
    obtain ⟨⟨t0, t1, t2, t3, tf⟩, hfin⟩ := HF.out w5 H5 a1 a2 (fun i => a3 i (Nat.zero_le _)) a4
    have HN := Lib.hid hfin
    clear a1 a2 a3 a4 hfin HK HF
    have f0 := tf 0; have f1 := tf 1; have f2 := tf 2; have f3 := tf 3
    clear tf
    go_wp2
    refine bodyPost_ret (v := .tuple #[.agg #[.string x.m.k, .int .u64 (x.m.s : Int), .bool x.m.g, .string x.x], .bool true]) (by simp [results, Try.results19, go_sem, t0, t1, t2, t3]) rfl ?_
    exact HN.out)

theorem next_some {w : World} {B g q n c : Nat} {A : Option Addr} {r : Ls} {R : List Ls} (hW : Wt w B g q A n c (r :: R)) (hh : ∀ i, HAt (r :: R) i) (x : En) (hx : r.l.head? = some x) :
    Calls Try.prog 19 #[.pointer (some ⟨g, 0, none⟩)] w fun e w' => NextR w B g q n c A x r R e w' := by
  have hn0 : 0 < n := by rw [← hW.len]; simp
  obtain ⟨cur, hc, _⟩ := hW.row (by omega)
  have hq := (Array.getElem?_eq_some_iff.1 hc).1
  by_cases h1 : r.n = 1
  · exact next_last hW hh hq x hx h1
  · exact next_more hW hh hq x hx h1
end Go.Proofs.Ytoljldokehfokaa

namespace Go.Proofs.Ytoljldokehfokaa
open Go.RowKit
set_option linter.unusedVariables false
set_option maxRecDepth 100000

/-- lists where they lie -/
def LsAt (w : World) (B : Nat) (L : List Ls) : Prop := ∀ r ∈ L, EL w B r.A r.n r.c r.l
def full (r : Ls) : Bool := !r.l.isEmpty
theorem Lies.ls {w : World} {B n k : Nat} {A : Option Addr} {rs : List Ls} (h : Lies w B 1 A n (rs.map Ls.v)) (hk : k < n) :
    ∃ b o r, A = some ⟨b, o, none⟩ ∧ b < B ∧ rs[k]? = some r ∧ w.cell? ⟨b, o + k, none⟩ = some (.slice r.A r.n r.c) := by
  obtain ⟨b, o, u, e, hb, hu, hc⟩ := h.at_ hk
  rw [List.getElem?_map] at hu
  cases hx : rs[k]? with
  | none => rw [hx] at hu; cases hu
  | some x =>
    rw [hx] at hu
    injection hu with hu
    subst hu
    exact ⟨b, o, x, e, hb, rfl, hc⟩
theorem Lies.lslen {w : World} {B n : Nat} {A : Option Addr} {rs : List Ls} (h : Lies w B 1 A n (rs.map Ls.v)) : rs.length = n := by have := h.len; simp at this; exact this
/-- the box while it is filled -/
structure WO (w0 w : World) (g : Nat) (v : Value) (H : List Ls) : Prop where
  hg : w0.heap.size = g
  at_ : w.heap[g]? = some (.cells #[v, cmpV] 66 (0, 0))
  row : w.ownsRow (g + 1) 22 1 v H.length (H.map Ls.v)
  lo : Below g w0 w
section
variable {w0 w w2 : World} {g : Nat} {v v2 : Value} {H : List Ls}
theorem WO.lt (h : WO w0 w g v H) : g < w.heap.size := (Array.getElem?_eq_some_iff.1 h.at_).1
theorem WO.up (h : WO w0 w g v H) (hb : Below w.heap.size w w2) : WO w0 w2 g v H :=
  ⟨h.hg, (hb.block g h.lt).trans h.at_, own_below h.row hb, h.lo.trans (hb.mono (Nat.le_of_lt h.lt))⟩
theorem WO.mid (h : WO w0 w g v H) (hgr : w.grownBy w2 v.ownBlock) : w2.heap[g]? = some (.cells #[v, cmpV] 66 (0, 0)) :=
  (hgr.block g h.lt (fun e => by have := (h.row.lt g e.symm).1; omega)).trans h.at_
theorem WO.set (h : WO w0 w g v H) {r : Ls} (hgr : w.grownBy w2 v.ownBlock) (ho : w2.ownsRow (g + 1) 22 1 v2 (H.length + 1) (H.map Ls.v ++ [r.v])) : WO w0 (w2.setCell ⟨g, 0, none⟩ v2) g v2 (H ++ [r]) := by
  have hm := h.mid hgr
  refine ⟨h.hg, by simp [World.setCell, Array.getElem?_modify, hm], ?_, ?_⟩
  · rw [List.length_append, List.map_append]
    exact ownsRow_setCell_below ho (Nat.lt_succ_self g) v2
  · exact (h.lo.grown hgr (Nat.le_of_lt h.lt) (fun k hk => by have := (h.row.lt k hk).1; omega)).setCell (Nat.le_refl _) _
/-- the box as lists that wait -/
theorem WO.wt (h : WO w0 w g v H) {B : Nat} (hB : B ≤ g) (hm : H.length ≤ 1000000) (hl : ∀ r ∈ H, EL w B r.A r.n r.c r.l ∧ r.l ≠ []) : ∃ q A n c, v = .slice A n c ∧ Wt w B g q A n c H ∧ g < q := by
  have hlt := h.lt
  rcases h.row.2 with ⟨rfl, h0⟩ | ⟨q, cap, cur, rfl, hb, hh, h1, h2, _, h4⟩
  · have hH : H = [] := List.eq_nil_of_length_eq_zero h0
    subst hH
    exact ⟨g + 1, none, 0, 0, rfl, ⟨h.at_, rfl, Nat.le_refl _, Nat.zero_le _, Nat.zero_le _, by omega, hB, by omega, by omega, .inr rfl, fun e => absurd rfl e, fun r hr => by cases hr⟩, by omega⟩
  · refine ⟨q, some ⟨q, 0, none⟩, H.length, cap, rfl, ⟨h.at_, rfl, h1, h2, hm, by omega, hB, by omega, by omega, .inl rfl, fun _ => ⟨cur, hh, fun i r hr => ?_⟩, hl⟩, by omega⟩
    have hi := (List.getElem?_eq_some_iff.1 hr).1
    have e : (cur.toList.take (H.length * 1))[i]? = some r.v := by rw [h4, List.getElem?_map, hr]; rfl
    rw [List.getElem?_take_of_lt (by omega)] at e
    rw [← Array.getElem?_toList]; exact e
end
theorem full_take {L : List Ls} {k : Nat} {r : Ls} (h : L[k]? = some r) : (L.take (k + 1)).filter full = (L.take k).filter full ++ if full r then [r] else [] := by
  rw [List.take_add_one, h, List.filter_append]
  congr 1
  show List.filter full [r] = _
  rw [List.filter_cons, List.filter_nil]

def WR1 (w : World) (B g : Nat) (L : List Ls) (n : Nat) (i : Value) (wr : World) : Prop := ∃ k : Nat, ∃ v, k ≤ n ∧ i = .int .i64 (k : Int) ∧ WO w wr g v ((L.take k).filter full)
def WR2 (w1 : World) (B g q n c : Nat) (A : Option Addr) (H0 : List Ls) (i : Value) (wr : World) : Prop := ∃ z : Int, ∃ H, i = .int .i64 z ∧ -1 ≤ z ∧ z ≤ n ∧ Wt wr B g q A n c H ∧ H.Perm H0 ∧ (∀ i : Nat, z < (i : Int) → HAt H i) ∧ But w1 wr g q
/-- what waitingOf hands over -/
def WaitR (w : World) (B : Nat) (L : List Ls) (e : Ending) (w' : World) : Prop :=
  e = .returned (.pointer (some ⟨w.heap.size, 0, none⟩)) ∧ ∃ q A n c H, Wt w' B w.heap.size q A n c H ∧ (∀ i, HAt H i) ∧ H.Perm (L.filter full) ∧ w.heap.size < q ∧ Below w.heap.size w w'

set_option maxHeartbeats 4000000 in
theorem waitingOf_any (w : World) (B n c : Nat) (A : Option Addr) (L : List Ls) (h : Lies w B 1 A n (L.map Ls.v)) (hB : B ≤ w.heap.size) (hL : LsAt w B L) (hn : n ≤ 1000000) :
    Calls Try.prog 17 #[.slice A n c, cmpV] w fun e w' => WaitR w B L e w' := by
  have hll := h.lslen
  obtain ⟨i0, hi, hz0, hz1, hz2⟩ := info_parts list_info
  obtain ⟨g, hg⟩ : ∃ g, w.heap.size = g := ⟨_, rfl⟩
  have hW1 : WO w (w.alloc (.cells #[.slice none 0 0, cmpV] 66)) g (.slice none 0 0) [] := by
    subst hg
    exact ⟨rfl, heap_alloc_new w _, ⟨rfl, .inl ⟨rfl, rfl⟩⟩, al_belowM w _⟩
  have HG := Lib.hid hg
  have HS : Hid (WR1 w B g L n (.int .i64 0) (w.alloc (.cells #[.slice none 0 0, cmpV] 66))) := ⟨0, _, Nat.zero_le _, rfl, hW1⟩
  have HN := Lib.hid h; have HLL := Lib.hid hll; have HLs := Lib.hid hL; have HBB := Lib.hid hB
  unfold WaitR
  unfold cmpV at HS ⊢
  clear h hll hL hW1 hB hg
  go_enter Try.func17, Try.ntmps17
  go_wp2_with fail
  rw [HG.out]
  go_loopw [14] (fun i wr => WR1 w B g L n i wr) (fun i _ => n - (intOf i).toNat)
  case atStart => exact HS.out
  case round =>
    clear HS
    obtain ⟨k, v, hk, rfl, hW⟩ := hrel
    by_cases hlt : k < n
    · have hNr : Lies wr B 1 A n (L.map Ls.v) := HN.out.keep fun p hp => hW.lo.cell (by have := HBB.out; have := HG.out; show p.block < g; omega)
      obtain ⟨b, o, r, rfl, hbB, hu, c0⟩ := hNr.ls hlt
      have hel := HLs.out r (List.mem_of_getElem? hu)
      have hrl := hel.lies.elen
      have HT := full_take hu
      have j0 : (0 : Int) ≤ (k : Int) := by omega
      have j1 : (k : Int) < (n : Int) := by omega
      by_cases hr0 : r.n = 0
      · have hfu : full r = false := by
          have e : r.l = [] := List.eq_nil_of_length_eq_zero (by omega)
          unfold full; rw [e]; rfl
        rw [hfu, if_neg (by simp), List.append_nil] at HT
        have HR : Hid (WR1 w B g L n (.int .i64 ((k : Int) + 1)) wr) := ⟨k + 1, v, hlt, by simp, by rw [HT]; exact hW⟩
        rw [hr0] at c0
        clear hNr hel hrl HT hr0 hfu hW hu
        generalize r.A = A1 at *
        generalize r.c = c1 at *
        go_wp2
        go_roundw
        case rel => exact HR.out
        case measure => simp [intOf]; omega
      · have hfu : full r = true := by
          unfold full
          cases e : r.l with
          | nil => rw [e] at hrl; exact absurd hrl.symm hr0
          | cons _ _ => rfl
        rw [hfu, if_pos rfl] at HT
        have hi1 : (r.n : Int) > 0 := by omega
        have hi2 : 0 < r.n := by omega
        obtain ⟨H, hH⟩ : ∃ H, (L.take k).filter full = H := ⟨_, rfl⟩
        rw [hH] at hW HT
        obtain ⟨Av, cv, rfl, _⟩ := own_shape hW.row
        obtain ⟨m, hm⟩ : ∃ m, H.length = m := ⟨_, rfl⟩
        have hmk : m ≤ k := by rw [← hm, ← hH]; refine Nat.le_trans (List.length_filter_le _ _) ?_; rw [List.length_take]; omega
        have g0 : wr.cell? ⟨g, 0, none⟩ = some (.slice Av H.length cv) := cell_of_row _ _ 0 _ _ (0, 0) hW.at_
        have HX : Hid (∀ ob : Obj, WO w (wr.alloc ob) g (.slice Av H.length cv) H) := fun ob => hW.up (al_belowM _ _)
        have HR : Hid (∀ w3 v3, WO w w3 g v3 (H ++ [r]) → WR1 w B g L n (.int .i64 ((k : Int) + 1)) w3) := fun w3 v3 q => ⟨k + 1, v3, hlt, by simp, by rw [HT]; exact q⟩
        rw [hm] at HX g0
        have HMm := Lib.hid hm
        clear hNr hel hrl HT hr0 hfu hW hu hH hm
        have HRV : Hid (∀ a b c : _, a = r.A → b = r.n → c = r.c → r.v = .slice a b c) := fun a b c e1 e2 e3 => by rw [e1, e2, e3]; rfl
        obtain ⟨A1, hA1⟩ : ∃ A1, r.A = A1 := ⟨_, rfl⟩
        obtain ⟨n1, hn1⟩ : ∃ n1, r.n = n1 := ⟨_, rfl⟩
        obtain ⟨c1, hc1⟩ : ∃ c1, r.c = c1 := ⟨_, rfl⟩
        have hrv := Lib.hid (HRV.out A1 n1 c1 hA1.symm hn1.symm hc1.symm)
        rw [hA1, hn1, hc1] at c0
        rw [hn1] at hi1 hi2
        clear hA1 hn1 hc1 HRV
        go_wp2_with (at_builtin; refine wpList_app _ rfl (.tmp 25) (.tmp 27) 26 rfl (g + 1) 22 i0 _ 1 24 Try.underlying26 hi hz0 hz1 hz2 rfl (by decide) (.slice Av m cv) m (H.map Ls.v) rfl (by have := (HX.out (.cells #[.slice A1 n1 c1] 22)).row; rw [HMm.out] at this; exact this) (wr.heap.size + 1) (some ⟨wr.heap.size, 0, none⟩) 1 1 [.slice A1 n1 c1] rfl (one_lies rfl _ _) (by intro u hu; simp at hu; subst hu; rfl) (by unfold maxLen; omega) (by omega) (by have := (HX.out (.cells #[.slice A1 n1 c1] 22)).lt; omega) ?_; intro v2 w2 ho2 hg2 _; obtain ⟨A9, c9, rfl, _⟩ := own_shape ho2; have hX := HX.out (.cells #[.slice A1 n1 c1] 22); have hgr2 := hX.mid hg2; have hv2 : w2.cell? ⟨g, 0, none⟩ = some (.slice Av m cv) := cell_of_row _ _ 0 _ _ (0, 0) hgr2; have hf2 : w2.frozen? ⟨g, 0, none⟩ = false := (by simp [World.frozen?, hgr2]); rw [← HMm.out] at ho2; have hS := Lib.hid (HR.out _ _ (hX.set hg2 (by rw [hrv.out]; exact ho2))); clear hX hgr2 HX ho2 hg2 HR g0)
        go_roundw
        case rel => rw [HMm.out] at hS; exact hS.out
        case measure => simp [intOf]; omega
    · obtain rfl : k = n := by omega
      rw [List.take_of_length_le (by rw [HLL.out]; exact Nat.le_refl _)] at hW
      obtain ⟨q, A2, n2, c2, rfl, hWt, hgq⟩ := hW.wt (B := B) (by have := HBB.out; have := HG.out; omega) (by refine Nat.le_trans (List.length_filter_le _ _) ?_; rw [HLL.out]; exact hn) (fun r hr => by
        obtain ⟨h1, h2⟩ := List.mem_filter.1 hr
        refine ⟨el_keepM (HLs.out r h1) (fun p hp => hW.lo.cell (by have := HBB.out; have := HG.out; show p.block < g; omega)) hW.lo.size, fun e => ?_⟩
        unfold full at h2; rw [e] at h2; cases h2)
      obtain ⟨H0, hH0⟩ : ∃ H0, L.filter full = H0 := ⟨_, rfl⟩
      rw [hH0] at hW hWt
      have hlo := hW.lo
      have g0 : wr.cell? ⟨g, 0, none⟩ = some (.slice A2 n2 c2) := hWt.cells.1
      have hn2 := hWt.nm
      obtain ⟨h2, hh2⟩ : ∃ h2, n2 / 2 = h2 := ⟨_, rfl⟩
      have e1 : (n2 : Int).tdiv 2 = (h2 : Int) := by rw [← hh2]; simp [Int.tdiv]
      have e2 : (n2 : Int) / 2 = (h2 : Int) := by omega
      have HQ := Lib.hid hgq; have HLo := Lib.hid hlo
      have HS2 : Hid (WR2 wr B g q n2 c2 A2 H0 (.int .i64 (h2 : Int)) wr) := ⟨h2, H0, rfl, by omega, by omega, hWt, List.Perm.refl _, fun i hi => hAt_big (by rw [hWt.len]; omega), But.refl _ _ _⟩
      have HH0 := Lib.hid hH0
      obtain ⟨w1, rfl⟩ : ∃ w1 : World, w1 = wr := ⟨_, rfl⟩
      clear hW hWt hh2 hgq hlo hH0
      go_wp2
      go_loopw [8] (fun i wr => WR2 w1 B g q n2 c2 A2 H0 i wr) (fun i _ => (intOf i + 1).toNat)
      case atStart => exact HS2.out
      case round =>
        clear HS2
        obtain ⟨z, H, rfl, hz1, hz2', hWt, hp, hh, hbu⟩ := hrel
        by_cases hz0' : 0 ≤ z
        · obtain ⟨a, rfl⟩ : ∃ a : Nat, z = (a : Int) := ⟨z.toNat, by omega⟩
          have HK := Lib.hid (sink_any hWt a (by omega) (fun i hi => hh i (by omega)))
          have HBu := Lib.hid hbu; have HP := Lib.hid hp
          clear hWt hp hh hbu
          go_wp2_with fail
          refine HK.out.mono ?_
          rintro e w3 ⟨rfl, H3, a1, a2, a3, a4⟩
          have HR : Hid (WR2 w1 B g q n2 c2 A2 H0 (.int .i64 ((a : Int) - 1)) w3) := ⟨_, H3, rfl, by omega, by omega, a1, a2.trans HP.out, fun i hi => a3 i (by omega), HBu.out.trans a4⟩
          clear a1 a2 a3 a4 HK HBu HP
          go_wp2
          go_roundw
          case rel => exact HR.out
          case measure => simp [intOf]
        · obtain rfl : z = -1 := by omega
          have HF : Hid (∃ q A n c H, Wt wr B g q A n c H ∧ (∀ i, HAt H i) ∧ H.Perm (L.filter full) ∧ g < q ∧ Below g w wr) :=
            ⟨q, A2, n2, c2, H, hWt, fun i => hh i (by omega), by rw [HH0.out]; exact hp, HQ.out, HLo.out.trans (hbu.below (by have := HLo.out.size; have := HG.out; omega) (Nat.le_refl _) (Nat.le_of_lt HQ.out))⟩
          clear hWt hp hh hbu
          go_wp2
          go_ret
          rw [HG.out]
          exact ⟨rfl, HF.out⟩
end Go.Proofs.Ytoljldokehfokaa

