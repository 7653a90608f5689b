/-
  Lists of entries that grow, each of its own, in a row of lists (layer 12's laws); entries dealt out to lists.
-/
import Derived.Test.YtoljldokehfokaaMgLX
namespace Go.Proofs.Ytoljldokehfokaa
open Go.RowKit
set_option linter.unusedVariables false
set_option maxRecDepth 100000

/-! plain -/
theorem flat_set {α : Type} : ∀ {L : List (List α)} {j : Nat} {r : List α} (x : α), L[j]? = some r → (L.set j (r ++ [x])).flatten.Perm (L.flatten ++ [x])
  | a :: L, 0, r, x, h => by
    simp only [List.getElem?_cons_zero, Option.some.injEq] at h
    subst h
    simp only [List.set_cons_zero, List.flatten_cons, List.append_assoc]
    exact List.Perm.append_left _ List.perm_append_comm
  | a :: L, j + 1, r, x, h => by
    simp only [List.getElem?_cons_succ] at h
    simp only [List.set_cons_succ, List.flatten_cons, List.append_assoc]
    exact List.Perm.append_left _ (flat_set x h)
  | [], j, r, x, h => by simp at h
theorem take_set {α : Type} {L : List α} {j m : Nat} {v : α} : (L.set j v).take m = (L.take m).set j v := by
  apply List.ext_getElem?
  intro i
  by_cases hi : i < m
  · rw [List.getElem?_take_of_lt hi, List.getElem?_set, List.getElem?_set, List.length_take, List.getElem?_take_of_lt hi]
    by_cases e : j = i
    · subst e
      by_cases h : j < L.length
      · rw [if_pos rfl, if_pos h, if_pos rfl, if_pos (by omega)]
      · rw [if_pos rfl, if_neg h, if_pos rfl, if_neg (by omega)]
    · rw [if_neg e, if_neg e]
  · rw [List.getElem?_eq_none (by rw [List.length_take]; omega), List.getElem?_eq_none (by rw [List.length_set, List.length_take]; omega)]
/-- entries are dealt out to lists -/
structure Dealt (P : List En) (L : List (List En)) : Prop where
  sub : ∀ r ∈ L, r.Sublist P
  all : P.Perm L.flatten
  some_ : ∀ m : Nat, ∃ U : List En, U.Sublist P ∧ U.Perm (L.take m).flatten
theorem Dealt.start {L : List (List En)} (h : ∀ r ∈ L, r = []) : Dealt [] L := by
  have hf : ∀ (M : List (List En)), (∀ r ∈ M, r = []) → M.flatten = [] := fun M hM => List.flatten_eq_nil_iff.2 hM
  exact ⟨fun r hr => by rw [h r hr]; exact List.Sublist.refl _, by rw [hf L h], fun m => ⟨[], List.Sublist.refl _, by rw [hf _ fun r hr => h r (List.mem_of_mem_take hr)]⟩⟩
theorem Dealt.step {P : List En} {L : List (List En)} {j : Nat} {r : List En} (h : Dealt P L) (hr : L[j]? = some r) (x : En) : Dealt (P ++ [x]) (L.set j (r ++ [x])) := by
  refine ⟨fun q hq => ?_, (List.Perm.append_right _ h.all).trans (flat_set x hr).symm, fun m => ?_⟩
  · rcases List.mem_or_eq_of_mem_set hq with hq | rfl
    · exact (h.sub q hq).trans (List.sublist_append_left _ _)
    · exact List.Sublist.append (h.sub r (List.mem_of_getElem? hr)) (List.Sublist.refl _)
  · obtain ⟨U, h1, h2⟩ := h.some_ m
    rw [take_set]
    by_cases hj : j < m
    · exact ⟨U ++ [x], List.Sublist.append h1 (List.Sublist.refl _), (List.Perm.append_right _ h2).trans (flat_set x (by rw [List.getElem?_take_of_lt hj]; exact hr)).symm⟩
    · refine ⟨U, h1.trans (List.sublist_append_left _ _), ?_⟩
      rw [List.set_eq_of_length_le (by rw [List.length_take]; omega)]
      exact h2
theorem Dealt.merged {S : List En} {L : List (List En)} (h : Dealt S L) (hr : Rise S) : mgL L S :=
  ⟨fun l hl => hr.sublist (h.sub l hl), h.all, hr⟩
theorem Dealt.part {S : List En} {L : List (List En)} (h : Dealt S L) (hr : Rise S) (m : Nat) : ∃ U, mgL (L.take m) U := by
  obtain ⟨U, h1, h2⟩ := h.some_ m
  exact ⟨U, fun l hl => hr.sublist (h.sub l (List.mem_of_mem_take hl)), h2, hr.sublist h1⟩
/-- two entries of one mark: none rises -/
theorem no_rise {S out : List En} {x y : En} (hp : out.Perm (S ++ [x])) (hy : y ∈ S) (hm : x.m = y.m) : ¬ Rise out := by
  intro h
  have h1 : (out.map En.m).Pairwise (· ≠ ·) := by
    rw [List.pairwise_map]
    refine h.imp fun {a b} q e => ?_
    rw [e, cmp_self] at q
    omega
  have h2 : ((S ++ [x]).map En.m).Nodup := (hp.map En.m).nodup_iff.1 h1
  rw [List.map_append, List.nodup_append] at h2
  exact h2.2.2 y.m (List.mem_map_of_mem hy) x.m (by simp) hm.symm

/-! in memory -/
structure GL (w0 w : World) (g : Nat) (L : List Ls) : Prop where
  row : w.heap[g]? = some (.cells (L.map Ls.v).toArray 22 (0, 0))
  own : ∀ r ∈ L, r.n = r.l.length ∧ w.ownsRow w0.heap.size 31 4 r.v r.n (ecs r.l)
  apart : ∀ (i j : Nat) (r r' : Ls), i ≠ j → L[i]? = some r → L[j]? = some r' → r.v.ownBlock = none ∨ r.v.ownBlock ≠ r'.v.ownBlock
  low : Below w0.heap.size w0 w
  hg : w0.heap.size ≤ g
section
variable {w0 w w' : World} {g : Nat} {L : List Ls} (h : GL w0 w g L)
include h
theorem GL.lt : g < w.heap.size := (Array.getElem?_eq_some_iff.1 h.row).1
theorem GL.below (hb : Below w.heap.size w w') : GL w0 w' g L :=
  ⟨(hb.block g h.lt).trans h.row, fun r hr => ⟨(h.own r hr).1, own_below (h.own r hr).2 hb⟩, h.apart, h.low.trans (hb.mono h.low.size), h.hg⟩
theorem GL.cell {j : Nat} {r : Ls} (hr : L[j]? = some r) : w.cell? ⟨g, j, none⟩ = some (.slice r.A r.n r.c) ∧ w.frozen? ⟨g, j, none⟩ = false := by
  refine ⟨?_, by simp [World.frozen?, h.row]⟩
  rw [cell_of_row _ g j _ _ (0, 0) h.row]
  simp [hr, Ls.v]
theorem GL.ne {r : Ls} (hr : r ∈ L) : r.v.ownBlock ≠ some g := by
  intro e
  rcases (h.own r hr).2.2 with ⟨h1, h2⟩ | ⟨gg, cap, cur, hv, hgb, hh, _⟩
  · rw [h1] at e; cases e
  · rw [hv] at e
    have e' : some gg = some g := e
    injection e' with e'
    exact block_ne hh h.row (by decide) e'
theorem GL.els (hs : ∀ r ∈ L, ∀ x ∈ r.l, x.m.k.size ≤ 140737488351232 ∧ x.x.size ≤ 140737488351232) : LsAt w w.heap.size L := fun r hr => by
  obtain ⟨h1, h2⟩ := h.own r hr
  obtain ⟨A', c', e, h3, h4, _⟩ := own_shape h2
  have e' : Value.slice r.A r.n r.c = Value.slice A' r.n c' := e
  injection e' with e1 e2 e3
  exact ⟨Lies.of_own h2, Nat.le_refl _, by rw [e3]; exact h3, by rw [e3]; exact h4, hs r hr⟩
theorem GL.lies (m : Nat) (hm : m ≤ L.length) : Lies w w.heap.size 1 (some ⟨g, 0, none⟩) m ((L.take m).map Ls.v) := by
  have hl : ((L.take m).map Ls.v).length = m := by simp; omega
  refine ⟨by rw [hl]; simp, fun j hj => ⟨_, ((L.take m).map Ls.v)[j]'hj, rfl, h.lt, List.getElem?_eq_getElem _, ?_⟩⟩
  rw [add_lit, Nat.zero_add, cell_of_row _ g j _ _ (0, 0) h.row]
  have h1 : j < L.length := by rw [hl] at hj; omega
  simp [h1]
theorem GL.put {j : Nat} {r : Ls} (hr : L[j]? = some r) {W3 : World} {ob : Obj} (hg3 : (w.alloc ob).grownBy W3 r.v.ownBlock) {A' : Option Addr} {c' : Nat} {x : En}
    (ho3 : W3.ownsRow w0.heap.size 31 4 (.slice A' (r.n + 1) c') (r.n + 1) (ecs r.l ++ ecs [x])) (hat : (Value.slice A' (r.n + 1) c').ownBlock = r.v.ownBlock ∨ (Value.slice A' (r.n + 1) c').ownBlock = some (w.alloc ob).heap.size) :
    GL w0 (W3.setCell ⟨g, j, none⟩ (.slice A' (r.n + 1) c')) g (L.set j ⟨A', r.n + 1, c', r.l ++ [x]⟩) := by
  have hm := List.mem_of_getElem? hr
  have hA := h.below (al_belowM w ob)
  have hz : (w.alloc ob).heap.size = w.heap.size + 1 := by simp
  have hrow3 := (hg3.block g hA.lt (fun e => hA.ne hm e.symm)).trans hA.row
  have hne3 : (Value.slice A' (r.n + 1) c').ownBlock ≠ some g := by
    rcases hat with e | e
    · rw [e]; exact h.ne hm
    · rw [e]; intro q; injection q with q; have := hA.lt; omega
  have hset : ∀ k, k ≠ g → (W3.setCell ⟨g, j, none⟩ (.slice A' (r.n + 1) c')).heap[k]? = W3.heap[k]? := fun k hk => Below.heap_setCell _ _ _ _ hk
  have own_set : ∀ {base e k n : Nat} {v : Value} {xs : List Value}, W3.ownsRow base e k v n xs → v.ownBlock ≠ some g → (W3.setCell ⟨g, j, none⟩ (.slice A' (r.n + 1) c')).ownsRow base e k v n xs := fun {base e k n v xs} ho hv => by
    refine ⟨ho.1, ?_⟩
    rcases ho.2 with q | ⟨gg, cap, cur, hv2, hgb, hh, r⟩
    · exact .inl q
    · exact .inr ⟨gg, cap, cur, hv2, hgb, (hset gg (fun e => hv (by rw [hv2, ← e]; rfl))).trans hh, r⟩
  have hjL : j < L.length := (List.getElem?_eq_some_iff.1 hr).1
  refine ⟨?_, ?_, ?_, ?_, h.hg⟩
  · have : (W3.setCell ⟨g, j, none⟩ (.slice A' (r.n + 1) c')).heap[g]? = some (.cells ((L.map Ls.v).set j (.slice A' (r.n + 1) c')).toArray 22 (0, 0)) := by
      simp [World.setCell, Array.getElem?_modify, hrow3]
    rw [this, List.map_set]
    rfl
  · intro q hq
    obtain ⟨i, hi⟩ := List.mem_iff_getElem?.1 hq
    rw [List.getElem?_set] at hi
    by_cases hij : j = i
    · rw [if_pos hij, if_pos hjL] at hi
      injection hi with hi
      subst hi
      refine ⟨by simp [(h.own r hm).1], own_set ?_ hne3⟩
      have e : ecs (r.l ++ [x]) = ecs r.l ++ ecs [x] := by unfold ecs; rw [List.flatMap_append]
      show W3.ownsRow w0.heap.size 31 4 (.slice A' (r.n + 1) c') (r.n + 1) (ecs (r.l ++ [x]))
      rw [e]
      exact ho3
    · rw [if_neg hij] at hi
      have hq2 := List.mem_of_getElem? hi
      exact ⟨(h.own q hq2).1, own_set ((own_below (h.own q hq2).2 (al_belowM w ob)).kept hg3 (h.apart i j q r (fun e => hij e.symm) hi hr)) (h.ne hq2)⟩
  · have hlt : ∀ (q : Ls), q ∈ L → ∀ k, q.v.ownBlock = some k → k < w.heap.size := fun q hq k hk => ((h.own q hq).2.lt k hk).2
    intro i i' q q' hne hi hi'
    rw [List.getElem?_set] at hi hi'
    by_cases hij : j = i
    · rw [if_neg (fun e => hne (hij ▸ e))] at hi'
      rw [if_pos hij, if_pos hjL] at hi
      injection hi with hi
      subst hi
      show (Value.slice A' (r.n + 1) c').ownBlock = none ∨ (Value.slice A' (r.n + 1) c').ownBlock ≠ q'.v.ownBlock
      rcases hat with e | e
      · rw [e]; exact h.apart j i' r q' (fun e => hne (hij ▸ e)) hr hi'
      · rw [e]
        exact .inr fun q => by have := hlt q' (List.mem_of_getElem? hi') _ q.symm; omega
    · rw [if_neg hij] at hi
      by_cases hij' : j = i'
      · rw [if_pos hij', if_pos hjL] at hi'
        injection hi' with hi'
        subst hi'
        show q.v.ownBlock = none ∨ q.v.ownBlock ≠ (Value.slice A' (r.n + 1) c').ownBlock
        rcases hat with e | e
        · rw [e]; exact h.apart i j q r (fun e => hij e.symm) hi hr
        · rw [e]
          exact .inr fun q2 => by have := hlt q (List.mem_of_getElem? hi) _ q2; omega
      · rw [if_neg hij'] at hi'
        exact h.apart i i' q q' hne hi hi'
  · exact (hA.low.grown hg3 (by rw [hz]; have := h.low.size; omega) (fun k hk => ((own_below (h.own r hm).2 (al_belowM w ob)).lt k hk).1)).setCell h.hg _
end
def nilL : Ls := ⟨none, 0, 0, []⟩
theorem GL.new (w : World) (N : Nat) : GL w (w.alloc (.cells ((List.replicate N nilL).map Ls.v).toArray 22)) w.heap.size (List.replicate N nilL) := by
  have hn : ∀ r ∈ List.replicate N nilL, r = nilL := fun r hr => List.eq_of_mem_replicate hr
  exact ⟨heap_alloc_new w _, fun r hr => by rw [hn r hr]; exact ⟨rfl, rfl, .inl ⟨rfl, rfl⟩⟩, fun i j r r' _ hi _ => by rw [hn r (List.mem_of_getElem? hi)]; exact .inl rfl, al_belowM w _, Nat.le_refl _⟩
/-- between two rounds -/
def GLI (w2 : World) (g N : Nat) (S : List En) (i : Value) (wr : World) : Prop :=
  ∃ (k : Nat) (L : List Ls), k ≤ S.length ∧ i = .int .i64 (k : Int) ∧ L.length = N ∧ GL w2 wr g L ∧ Dealt (S.take k) (L.map Ls.l)
theorem GLI.start (w : World) (N : Nat) (S : List En) : GLI w w.heap.size N S (.int .i64 0) (w.alloc (.cells ((List.replicate N nilL).map Ls.v).toArray 22)) :=
  ⟨0, _, Nat.zero_le _, rfl, by simp, GL.new w N, by
    rw [List.take_zero]
    refine Dealt.start fun r hr => ?_
    obtain ⟨q, hq, e⟩ := List.mem_map.1 hr
    rw [← e, List.eq_of_mem_replicate hq]
    rfl⟩
theorem GLI.step {w2 w W3 : World} {g N j k : Nat} {S : List En} {L : List Ls} {r : Ls} {x : En} {ob : Obj} {A' : Option Addr} {c' : Nat} (h : GL w2 w g L) (hL : L.length = N) (hd : Dealt (S.take k) (L.map Ls.l)) (hk : k < S.length) (hx : S[k]? = some x) (hr : L[j]? = some r)
    (hg3 : (w.alloc ob).grownBy W3 r.v.ownBlock) (ho3 : W3.ownsRow w2.heap.size 31 4 (.slice A' (r.n + 1) c') (r.n + 1) (ecs r.l ++ ecs [x])) (hat : (Value.slice A' (r.n + 1) c').ownBlock = r.v.ownBlock ∨ (Value.slice A' (r.n + 1) c').ownBlock = some (w.alloc ob).heap.size) :
    GLI w2 g N S (.int .i64 ((k : Int) + 1)) (W3.setCell ⟨g, j, none⟩ (.slice A' (r.n + 1) c')) := by
  refine ⟨k + 1, L.set j ⟨A', r.n + 1, c', r.l ++ [x]⟩, hk, by simp, by rw [List.length_set]; exact hL, h.put hr hg3 ho3 hat, ?_⟩
  rw [List.take_add_one, hx, List.map_set]
  exact hd.step (by rw [List.getElem?_map, hr]; rfl) x
theorem mergeR_yes {w w' : World} {L : List (List En)} {S : List En} {e : Ending} (h : MergeR w L e w') (hm : mgL L S) :
    ∃ A c, e = .returned (.tuple #[.slice A S.length c, .int .i64 0]) ∧ w'.ownsRow w.heap.size 31 4 (.slice A S.length c) S.length (ecs S) ∧ Below w.heap.size w w' := by
  obtain ⟨hb, out, ho, hor⟩ := h
  have e1 := ho.no hm
  subst e1
  rcases hor with ⟨_, v, rfl, h1⟩ | ⟨hno, _⟩
  · obtain ⟨A', c', rfl, _⟩ := own_shape h1
    exact ⟨A', c', rfl, h1, hb⟩
  · exact absurd hm.2.2 hno
theorem own_el {w : World} {base n c : Nat} {A : Option Addr} {S : List En} (ho : w.ownsRow base 31 4 (.slice A n c) n (ecs S)) (hs : ∀ x ∈ S, x.m.k.size ≤ 140737488351232 ∧ x.x.size ≤ 140737488351232) : EL w w.heap.size A n c S := by
  obtain ⟨A', c', e, h3, h4, _⟩ := own_shape ho
  injection e with e1 e2 e3
  exact ⟨Lies.of_own ho, Nat.le_refl _, by rw [e3]; exact h3, by rw [e3]; exact h4, hs⟩
end Go.Proofs.Ytoljldokehfokaa
