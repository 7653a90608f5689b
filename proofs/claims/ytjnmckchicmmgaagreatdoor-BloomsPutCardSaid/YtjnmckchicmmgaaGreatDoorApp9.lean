/-
  append of strings onto a row of the call's own; cuts of lists of strings.
-/
import Derived.Test.YtjnmckchicmmgaaGreatDoorStep
import Derived.Test.YtjnmckchicmmgaaGreatDoorMem
namespace Go.Proofs.YtjnmckchicmmgaaGreatDoor
open Go.RowKit
set_option linter.unusedVariables false
set_option maxRecDepth 100000

theorem str_info9 : (Tryz.prog.info? 9).map (fun i => (i.zero, i.size, i.bytes)) = some (some (.string ByteArray.empty), 1, 16) := by kernel_rfl
theorem str_one9 (T : List ByteArray) : ∀ u ∈ T.map Value.string, u.oneCell' = true := by
  intro u hu
  obtain ⟨c, _, rfl⟩ := List.mem_map.1 hu
  rfl
/-- where append left its row -/
structure App9 (w w' : World) (base n : Nat) (T : List ByteArray) (A : Option Addr) (c : Nat) : Prop where
  own : w'.ownsRow base 9 1 (.slice A n c) n (T.map Value.string)
  below : Below base w w'
  cap : n ≤ c
  max : c ≤ maxLen
theorem app9_run (w : World) (ty base n m c cs B : Nat) (As A : Option Addr) (T T2 : List ByteArray) (hown : w.ownsRow base 9 1 (.slice As n cs) n (T.map Value.string)) (hr : Lies w B 1 A m (T2.map Value.string)) (h63 : n + m ≤ 1000000) (hbase : base ≤ w.heap.size) :
    ∃ A' c' w', (Builtin.append_ #[22, 22] ty #[.slice As n cs, .slice A m c]).run Tryz.prog w = .ok (.slice A' (n + m) c') w' ∧ App9 w w' base (n + m) (T ++ T2) A' c' ∧ w.grownBy w' (Value.slice As n cs).ownBlock := by
  obtain ⟨i0, hi, hz0, hz1, hz2⟩ := info_parts str_info9
  obtain ⟨v', w', hrun, h2, h3, h4⟩ := run_app (P := Tryz.prog) w base 22 ty 9 i0 _ 1 16 Tryz.underlying22 hi hz0 hz1 hz2 rfl (by decide) _ n _ hown B A m c _ hr (str_one9 T2) (by unfold maxLen; omega) (by omega) hbase
  obtain ⟨A', c', rfl, hn', hc', _⟩ := own_shape h2
  exact ⟨A', c', w', hrun, ⟨by rw [List.map_append]; exact h2, (Below.refl _ _).grown h3 hbase (fun k hk => (hown.lt k hk).1), hn', hc'⟩, h3⟩
theorem step_app9 (w : World) {ops : Array Oper} {o : Oper} {a : Act} {K : Act → World → Prop} {Q : Exit → Act → World → Prop} {E : Prop} (hgd : o.guard = none) (s x : Operand)
    (ho : o.op = .call { callee := .builtin .append, args := #[s, x], argTypes := #[22, 22] })
    (base n m c cs B : Nat) (As A : Option Addr) (T T2 : List ByteArray) (hs : a.eval s = .slice As n cs) (hx : a.eval x = .slice A m c) (hown : w.ownsRow base 9 1 (.slice As n cs) n (T.map Value.string)) (hr : Lies w B 1 A m (T2.map Value.string)) (h63 : n + m ≤ 1000000) (hbase : base ≤ w.heap.size)
    (h : ∀ A' c' w', App9 w w' base (n + m) (T ++ T2) A' c' → w.grownBy w' (Value.slice As n cs).ownBlock → K (a.put o.dst (.slice A' (n + m) c')) w') :
    if Region.wanted o (yielded ops a.tmps) = true then Oper.wp Tryz.prog o a w K Q else E := by
  have hw : Region.wanted o (yielded ops a.tmps) = true := by simp [Region.wanted, hgd]
  rw [if_pos hw]
  obtain ⟨A', c', w', hrun, h2, h3⟩ := app9_run w o.type base n m c cs B As A T T2 hown hr h63 hbase
  unfold Oper.wp execOp
  simp only [ho, resolve, invoke, builtin, Sem.run_bind, Sem.run_pure, Result.andThen_ok, List.map_toArray, List.map_cons, List.map_nil, hs, hx, hrun]
  exact h A' c' w' h2 h3
theorem wpList_appS (w : World) {ops : Array Oper} {rest : List Oper} {o : Oper} {a : Act} {Q : Exit → Act → World → Prop} (hw : Region.wanted o (yielded ops a.tmps) = true) (s x : Operand)
    (ho : o.op = .call { callee := .builtin .append, args := #[s, x], argTypes := #[22, 22] })
    (base n m c cs B : Nat) (As A : Option Addr) (T T2 : List ByteArray) (hs : a.eval s = .slice As n cs) (hx : a.eval x = .slice A m c) (hown : w.ownsRow base 9 1 (.slice As n cs) n (T.map Value.string)) (hr : Lies w B 1 A m (T2.map Value.string)) (h63 : n + m ≤ 1000000) (hbase : base ≤ w.heap.size)
    (h : ∀ A' c' w', App9 w w' base (n + m) (T ++ T2) A' c' → w.grownBy w' (Value.slice As n cs).ownBlock → wpList Tryz.prog ops Q rest (a.put o.dst (.slice A' (n + m) c')) w') : wpList Tryz.prog ops Q (o :: rest) a w := by
  obtain ⟨A', c', w', hrun, h2, h3⟩ := app9_run w o.type base n m c cs B As A T T2 hown hr h63 hbase
  unfold wpList
  rw [if_pos hw]
  refine .inl ?_
  unfold Oper.wp execOp
  simp only [ho, resolve, invoke, builtin, Sem.run_bind, Sem.run_pure, Result.andThen_ok, List.map_toArray, List.map_cons, List.map_nil, hs, hx, hrun]
  exact h A' c' w' h2 h3
/-- .. and where its row stands -/
theorem wpList_appP (w : World) {ops : Array Oper} {rest : List Oper} {o : Oper} {a : Act} {Q : Exit → Act → World → Prop} (hw : Region.wanted o (yielded ops a.tmps) = true) (s x : Operand)
    (ho : o.op = .call { callee := .builtin .append, args := #[s, x], argTypes := #[22, 22] })
    (base n m c cs B : Nat) (As A : Option Addr) (T T2 : List ByteArray) (hs : a.eval s = .slice As n cs) (hx : a.eval x = .slice A m c) (hown : w.ownsRow base 9 1 (.slice As n cs) n (T.map Value.string)) (hr : Lies w B 1 A m (T2.map Value.string)) (h63 : n + m ≤ 1000000) (hbase : base ≤ w.heap.size)
    (h : ∀ A' c' w', App9 w w' base (n + m) (T ++ T2) A' c' → w.grownBy w' (Value.slice As n cs).ownBlock → ((Value.slice A' (n + m) c').ownBlock = (Value.slice As n cs).ownBlock ∨ (Value.slice A' (n + m) c').ownBlock = some w.heap.size) → wpList Tryz.prog ops Q rest (a.put o.dst (.slice A' (n + m) c')) w') : wpList Tryz.prog ops Q (o :: rest) a w := by
  obtain ⟨i0, hi, hz0, hz1, hz2⟩ := info_parts str_info9
  obtain ⟨v', w', hrun, h2, h3, h4⟩ := run_app (P := Tryz.prog) w base 22 o.type 9 i0 _ 1 16 Tryz.underlying22 hi hz0 hz1 hz2 rfl (by decide) _ n _ hown B A m c _ hr (str_one9 T2) (by unfold maxLen; omega) (by omega) hbase
  obtain ⟨A', c', rfl, hn', hc', _⟩ := own_shape h2
  unfold wpList
  rw [if_pos hw]
  refine .inl ?_
  unfold Oper.wp execOp
  simp only [ho, resolve, invoke, builtin, Sem.run_bind, Sem.run_pure, Result.andThen_ok, List.map_toArray, List.map_cons, List.map_nil, hs, hx, hrun]
  exact h A' c' w' ⟨by rw [List.map_append]; exact h2, (Below.refl _ _).grown h3 hbase (fun k hk => (hown.lt k hk).1), hn', hc'⟩ h3 h4
/-- onto nil -/
theorem step_app9N (w : World) {ops : Array Oper} {o : Oper} {a : Act} {K : Act → World → Prop} {Q : Exit → Act → World → Prop} {E : Prop} (hgd : o.guard = none) (s x : Operand)
    (ho : o.op = .call { callee := .builtin .append, args := #[s, x], argTypes := #[22, 22] })
    (base m c B : Nat) (A : Option Addr) (T2 : List ByteArray) (hs : a.eval s = .slice none 0 0) (hx : a.eval x = .slice A m c) (hr : Lies w B 1 A m (T2.map Value.string)) (h63 : m ≤ 1000000) (hbase : base ≤ w.heap.size)
    (h : ∀ A' c' w', App9 w w' base m T2 A' c' → w.grownBy w' none → K (a.put o.dst (.slice A' m c')) w') :
    if Region.wanted o (yielded ops a.tmps) = true then Oper.wp Tryz.prog o a w K Q else E :=
  step_app9 w hgd s x ho base 0 m c 0 B none A [] T2 hs hx (World.ownsRow_nil _ _ _ _) hr (by omega) hbase fun A' c' w' h1 h2 => by
    rw [Nat.zero_add] at h1 ⊢; exact h A' c' w' h1 h2
theorem wpList_appSN (w : World) {ops : Array Oper} {rest : List Oper} {o : Oper} {a : Act} {Q : Exit → Act → World → Prop} (hw : Region.wanted o (yielded ops a.tmps) = true) (s x : Operand)
    (ho : o.op = .call { callee := .builtin .append, args := #[s, x], argTypes := #[22, 22] })
    (base m c B : Nat) (A : Option Addr) (T2 : List ByteArray) (hs : a.eval s = .slice none 0 0) (hx : a.eval x = .slice A m c) (hr : Lies w B 1 A m (T2.map Value.string)) (h63 : m ≤ 1000000) (hbase : base ≤ w.heap.size)
    (h : ∀ A' c' w', App9 w w' base m T2 A' c' → w.grownBy w' none → wpList Tryz.prog ops Q rest (a.put o.dst (.slice A' m c')) w') : wpList Tryz.prog ops Q (o :: rest) a w :=
  wpList_appS w hw s x ho base 0 m c 0 B none A [] T2 hs hx (World.ownsRow_nil _ _ _ _) hr (by omega) hbase fun A' c' w' h1 h2 => by
    rw [Nat.zero_add] at h1 ⊢; exact h A' c' w' h1 h2
theorem run_cutS (w : World) (A : Option Addr) (n c l : Nat) (h : l ≤ n) :
    (Instr.slice 22 (.slice A n c) (some (.int .i64 (l : Int))) none none).run Tryz.prog w = .ok (.slice (cutA A c l) (n - l) (c - l)) w := by
  obtain ⟨i0, hi, hz0, hz1, hz2⟩ := info_parts str_info9
  unfold Instr.slice cutA
  simp [run_underlying Tryz.underlying22, Instr.sliceBounds, Instr.sliceBound, asIntOf, sizeOf, typeInfo, hi, hz1, h]
theorem run_headS (w : World) (A : Option Addr) (n c h : Nat) (h3 : h ≤ c) :
    (Instr.slice 22 (.slice A n c) none (some (.int .i64 (h : Int))) none).run Tryz.prog w = .ok (.slice A h c) w := by
  obtain ⟨i0, hi, hz0, hz1, hz2⟩ := info_parts str_info9
  unfold Instr.slice
  simp [run_underlying Tryz.underlying22, Instr.sliceBounds, Instr.sliceBound, asIntOf, sizeOf, typeInfo, hi, h3]
  cases A <;> simp [Addr.add]
theorem Lies.cutS {w : World} {B n : Nat} {A : Option Addr} {T : List ByteArray} (h : Lies w B 1 A n (T.map Value.string)) {m c : Nat} (hm : m ≤ n) (hc : n ≤ c) : Lies w B 1 (Go.Proofs.YtjnmckchicmmgaaGreatDoor.cutA A c m) (n - m) ((T.drop m).map Value.string) := by
  rw [List.map_drop]; exact h.cut hm hc
theorem Lies.takeS {w : World} {A : Option Addr} {T : List ByteArray} {n B m : Nat} (h : Lies w B 1 A n (T.map Value.string)) (hm : m ≤ n) : Lies w B 1 A m ((T.take m).map Value.string) := by
  rw [List.map_take]; exact h.take_ hm
theorem one_str {w : World} (s : ByteArray) : Lies (w.alloc (.cells #[.string s] 9)) (w.heap.size + 1) 1 (some ⟨w.heap.size, 0, none⟩) 1 ([s].map Value.string) := one_lies rfl _ _
end Go.Proofs.YtjnmckchicmmgaaGreatDoor
