/-
  copy onto a part of a row of the call's own.
-/
import Derived.Test.YtopcnlophmplgaaMem
import Derived.Laws.IdiomCopy
import Derived.OwnWalk
namespace Go.Proofs.Ytopcnlophmplgaa
open Go.RowKit
set_option linter.unusedVariables false
set_option maxRecDepth 100000

/-- a list with a part laid over -/
def over {α : Type} (xs : List α) (o : Nat) (ys : List α) : List α := xs.take o ++ ys ++ xs.drop (o + ys.length)
theorem over_len {α : Type} (xs : List α) (o : Nat) (ys : List α) (h : o + ys.length ≤ xs.length) : (over xs o ys).length = xs.length := by
  unfold over; simp; omega
theorem over_nil {α : Type} (xs : List α) (o : Nat) : over xs o [] = xs := by unfold over; simp
theorem over_map {α β : Type} (f : α → β) (xs : List α) (o : Nat) (ys : List α) : (over xs o ys).map f = over (xs.map f) o (ys.map f) := by unfold over; simp
theorem over_take {α : Type} (xs : List α) (o n : Nat) (ys : List α) (h : o + ys.length ≤ n) (hn : n ≤ xs.length) : (over xs o ys).take n = over (xs.take n) o ys := by
  have e : xs = xs.take n ++ xs.drop n := (List.take_append_drop n xs).symm
  have l1 : (xs.take n).length = n := by simp; omega
  have e2 : over xs o ys = over (xs.take n) o ys ++ xs.drop n := by
    unfold over
    rw [List.take_take, Nat.min_eq_left (by omega), List.append_assoc (xs.take o ++ ys)]
    congr 1
    conv => lhs; rw [e]
    rw [List.drop_append, l1, show o + ys.length - n = 0 from by omega, List.drop_zero]
  rw [e2, List.take_append_of_le_length (by rw [over_len _ _ _ (by omega)]; omega), List.take_of_length_le (by rw [over_len _ _ _ (by omega)]; omega)]

theorem grown_setRow (w : World) (g : Nat) (cs : Array Value) : w.grownBy (w.setRow g cs) (some g) := by
  refine ⟨rfl, rfl, rfl, by simp [World.setRow], fun k hk hne => ?_⟩
  have : g ≠ k := fun e => hne (by rw [e])
  simp [World.setRow, Array.getElem?_modify, this]

theorem run_copyIn (w : World) (base ty g n c o d dc : Nat) (xs : List Value) (h : w.ownsRow base 5 1 (.slice (some ⟨g, 0, none⟩) n c) n xs)
    (B : Nat) (A : Option Addr) (m c2 : Nat) (news : List Value) (hr : Lies w B 1 A m news) (h1 : ∀ u ∈ news, u.oneCell' = true) (hd : m ≤ d) (hfit : o + m ≤ n) :
    ∃ w', (Builtin.copy_ #[33, 33] ty #[.slice (some ⟨g, o, none⟩) d dc, .slice A m c2]).run Try.prog w = .ok (.int .i64 (m : Int)) w' ∧
      w'.ownsRow base 5 1 (.slice (some ⟨g, 0, none⟩) n c) n (over xs o news) ∧ w.grownBy w' (some g) := by
  obtain ⟨i0, hi, hz0, hz1, hz2⟩ := info_parts byte_info
  have hs : (Try.prog.info? 5).map (·.size) = some 1 := by rw [hi, Option.map_some, hz1]
  obtain rfl : news.length = m := by have := hr.len; omega
  rcases Nat.eq_zero_or_pos news.length with h0 | h0
  · obtain rfl : news = [] := List.eq_nil_of_length_eq_zero h0
    refine ⟨w, ?_, by rw [over_nil]; exact h, World.grownBy.refl w _⟩
    exact run_copy_none w _ _ ty 5 _ _ _ _ _ _ Try.underlying33 hs (by simp)
  · obtain ⟨ad, u, rfl, _⟩ := hr.spot 0 (by omega)
    rcases h.2 with ⟨hv, _⟩ | ⟨g', cap, cur, hv, hb, hh, hc1, hc2, hc3, hc4⟩
    · cases hv
    injection hv with e1 _ e3
    injection e1 with e1
    injection e1 with e1
    subst e1 e3
    rw [Nat.mul_one] at hc3 hc4
    have hrun := run_copy_row Try.prog w 33 33 ty 5 g o d dc ad news.length c2 cur 5 news Try.underlying33 hs hh (Nat.min_eq_left hd).symm
      (fun j v hj => by
        obtain ⟨ad', u', e, _, hx, hcc⟩ := hr.spot j (List.getElem?_eq_some_iff.1 hj).1
        injection e with e
        subst e
        rw [hj] at hx
        injection hx with hx
        subst hx
        exact hcc) (by omega) h1
    refine ⟨_, hrun, ⟨?_, .inr ⟨g, c, _, rfl, hb, setRow_heap w g cur _ _ _ hh, hc1, hc2, ?_, ?_⟩⟩, grown_setRow _ _ _⟩
    · rw [over_len _ _ _ (by have := h.1; omega)]; exact h.1
    · simp; omega
    · rw [Nat.mul_one]
      show (over cur.toList o news).take n = _
      rw [over_take _ _ _ _ (by omega) (by simp; omega), hc4]

theorem wpList_copyIn {ops : Array Oper} {rest : List Oper} {o : Oper} {a : Act} {w : World} {Q : Exit → Act → World → Prop} (hgd : o.guard = none) (s x : Operand)
    (ho : o.op = .call { callee := .builtin .copy, args := #[s, x], argTypes := #[33, 33] })
    (base g n c p d dc : Nat) (xs : List Value) (hs : a.eval s = .slice (some ⟨g, p, none⟩) d dc) (h : w.ownsRow base 5 1 (.slice (some ⟨g, 0, none⟩) n c) n xs)
    (B : Nat) (A : Option Addr) (m c2 : Nat) (news : List Value) (hx : a.eval x = .slice A m c2) (hr : Lies w B 1 A m news) (h1 : ∀ u ∈ news, u.oneCell' = true) (hd : m ≤ d) (hfit : p + m ≤ n)
    (hk : ∀ w', w'.ownsRow base 5 1 (.slice (some ⟨g, 0, none⟩) n c) n (over xs p news) → w.grownBy w' (some g) → wpList Try.prog ops Q rest (a.put o.dst (.int .i64 (m : Int))) w') : wpList Try.prog ops Q (o :: rest) a w := by
  refine wpList_plain hgd fun K hK => ?_
  obtain ⟨w', hrun, h2, h3⟩ := run_copyIn w base o.type g n c p d dc xs h B A m c2 news hr h1 hd hfit
  unfold Oper.wp execOp
  simp only [ho, resolve, invoke, builtin, Sem.run_bind, Sem.run_pure, Result.andThen_ok, List.map_toArray, List.map_cons, List.map_nil, hs, hx, hrun]
  exact hK _ _ (hk w' h2 h3)
/-- the same as a step of a region that draws -/
theorem step_copyIn {ops : Array Oper} {o : Oper} {a : Act} {w : World} {K : Act → World → Prop} {Q : Exit → Act → World → Prop} {E : Prop} (hgd : o.guard = none) (s x : Operand)
    (ho : o.op = .call { callee := .builtin .copy, args := #[s, x], argTypes := #[33, 33] })
    (base g n c p d dc : Nat) (xs : List Value) (hs : a.eval s = .slice (some ⟨g, p, none⟩) d dc) (h : w.ownsRow base 5 1 (.slice (some ⟨g, 0, none⟩) n c) n xs)
    (B : Nat) (A : Option Addr) (m c2 : Nat) (news : List Value) (hx : a.eval x = .slice A m c2) (hr : Lies w B 1 A m news) (h1 : ∀ u ∈ news, u.oneCell' = true) (hd : m ≤ d) (hfit : p + m ≤ n)
    (hk : ∀ w', w'.ownsRow base 5 1 (.slice (some ⟨g, 0, none⟩) n c) n (over xs p news) → w.grownBy w' (some g) → K (a.put o.dst (.int .i64 (m : Int))) w') :
    if Region.wanted o (yielded ops a.tmps) = true then Oper.wp Try.prog o a w K Q else E := by
  have hw : Region.wanted o (yielded ops a.tmps) = true := by simp [Region.wanted, hgd]
  rw [if_pos hw]
  obtain ⟨w', hrun, h2, h3⟩ := run_copyIn w base o.type g n c p d dc xs h B A m c2 news hr h1 hd hfit
  unfold Oper.wp execOp
  simp only [ho, resolve, invoke, builtin, Sem.run_bind, Sem.run_pure, Result.andThen_ok, List.map_toArray, List.map_cons, List.map_nil, hs, hx, hrun]
  exact hk w' h2 h3
/-- copy to 's[p:]' of a row of the call's own -/
theorem wpList_copyAt {ops : Array Oper} {rest : List Oper} {o : Oper} {a : Act} {w : World} {Q : Exit → Act → World → Prop} (hgd : o.guard = none) (s x : Operand)
    (ho : o.op = .call { callee := .builtin .copy, args := #[s, x], argTypes := #[33, 33] })
    (base g n c p d dc cc : Nat) (xs : List Value) (hs : a.eval s = .slice (cutA (some ⟨g, 0, none⟩) cc p) d dc) (h : w.ownsRow base 5 1 (.slice (some ⟨g, 0, none⟩) n c) n xs) (hcc : n ≤ cc)
    (B : Nat) (A : Option Addr) (m c2 : Nat) (news : List Value) (hx : a.eval x = .slice A m c2) (hr : Lies w B 1 A m news) (h1 : ∀ u ∈ news, u.oneCell' = true) (hd : m ≤ d) (hfit : p + m ≤ n)
    (hk : ∀ w', w'.ownsRow base 5 1 (.slice (some ⟨g, 0, none⟩) n c) n (over xs p news) → w.grownBy w' (some g) → wpList Try.prog ops Q rest (a.put o.dst (.int .i64 (m : Int))) w') : wpList Try.prog ops Q (o :: rest) a w := by
  unfold cutA at hs
  by_cases e : cc = p
  · rw [if_pos e] at hs
    have hm0 : m = 0 := by omega
    subst hm0
    have hn0 : news = [] := List.eq_nil_of_length_eq_zero (by have := hr.len; omega)
    subst hn0
    refine wpList_copyIn hgd s x ho base g n c 0 d dc xs hs h B A 0 c2 [] hx hr h1 hd (by omega) fun w' h2 h3 => hk w' ?_ h3
    rw [over_nil] at h2 ⊢
    exact h2
  · rw [if_neg e, Option.map_some, add_lit, Nat.zero_add] at hs
    exact wpList_copyIn hgd s x ho base g n c p d dc xs hs h B A m c2 news hx hr h1 hd hfit hk
/-- 'make([]byte, n)' -/
theorem wpList_makeB (w : World) {ops : Array Oper} {rest : List Oper} {o : Oper} {a : Act} {Q : Exit → Act → World → Prop} (hg : o.guard = none) (l c : Operand) (hop : o.op = Op.makeSlice 33 l c)
    (kl kc : IntKind) (L C : Int) (n : Nat) (hl : a.eval l = .int kl L) (hc : a.eval c = .int kc C) (hL : L = (n : Int)) (hC : C = (n : Int)) (b : n ≤ 1099511627776)
    (hK : ∀ w', w'.ownsRow w.heap.size 5 1 (.slice (some ⟨w.heap.size, 0, none⟩) n n) n ((List.replicate n (0 : UInt8)).map bv) → w.grownBy w' none → wpList Try.prog ops Q rest (a.put o.dst (.slice (some ⟨w.heap.size, 0, none⟩) n n)) w') :
    wpList Try.prog ops Q (o :: rest) a w := by
  obtain ⟨i0, hi, hz0, hz1, hz2⟩ := info_parts byte_info
  refine wpList_make_full w hg l c _ hop w.heap.size 5 i0 _ 1 Try.underlying33 hi hz0 hz1 kl kc L C n hl hc hL hC (by rw [hz2]; omega) (by unfold maxLen; omega) (Nat.le_refl _) fun w' h1 h2 => hK w' ?_ h2
  have e : (madeCells (Value.int .u8 0).cells (n * 1)).toList = (List.replicate n (0 : UInt8)).map bv := by
    rw [Nat.mul_one]
    refine (toList_madeCells_one (.int .u8 0) n).trans ?_
    rw [List.map_replicate]; rfl
  rw [← e]; exact h1
end Go.Proofs.Ytopcnlophmplgaa
