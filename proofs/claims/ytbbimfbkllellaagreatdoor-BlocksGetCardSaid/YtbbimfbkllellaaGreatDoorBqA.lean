/-
  The laws' Book: kinds of lists that may be parts of rows (a place in the row, room behind): what is known of them: kept, filled, grown.
-/
import Derived.Test.YtbbimfbkllellaaGreatDoorBkANO
import Derived.ArgAppend
namespace Go.Proofs.YtbbimfbkllellaaGreatDoor
open Go.RowKit
set_option linter.unusedVariables false

/-- a slice of the call's own: nil, or a part of a row of its own, from a place on -/
def OwnP (w : World) (base : Nat) (e : TypeId) (sz : Nat) (v : Value) (n : Nat) (xs : List Value) : Prop :=
  xs.length = n * sz ∧ ((v = .slice none 0 0 ∧ n = 0) ∨
    ∃ (g o cap : Nat) (cur : Array Value), v = .slice (some ⟨g, o, none⟩) n cap ∧ base ≤ g ∧ w.heap[g]? = some (.cells cur e (0, 0)) ∧ n ≤ cap ∧ cap ≤ maxLen ∧ o + cap * sz ≤ cur.size ∧ ∀ j, j < n * sz → cur[o + j]? = xs[j]?)
theorem own_p {w : World} {base e sz n : Nat} {v : Value} {xs : List Value} (h : w.ownsRow base e sz v n xs) : OwnP w base e sz v n xs := by
  refine ⟨h.1, ?_⟩
  rcases h.2 with h2 | ⟨g, cap, cur, hv, hb, hh, h1, h2, h3, h4⟩
  · exact .inl h2
  · refine .inr ⟨g, 0, cap, cur, hv, hb, hh, h1, h2, by omega, fun j hj => ?_⟩
    rw [Nat.zero_add, ← h4, List.getElem?_take, if_pos hj, Array.getElem?_toList]
section
variable {w w' : World} {base e sz n : Nat} {v : Value} {xs : List Value}
theorem OwnP.lt (h : OwnP w base e sz v n xs) : ∀ k, v.ownBlock = some k → base ≤ k ∧ k < w.heap.size := by
  intro k hk
  rcases h.2 with ⟨rfl, _⟩ | ⟨g, o, cap, cur, rfl, hb, hg, _⟩
  · simp [Value.ownBlock] at hk
  · simp [Value.ownBlock] at hk
    subst hk
    exact ⟨hb, (Array.getElem?_eq_some_iff.1 hg).1⟩
theorem OwnP.keep (h : OwnP w base e sz v n xs) (hk : ∀ k, v.ownBlock = some k → w'.heap[k]? = w.heap[k]?) : OwnP w' base e sz v n xs := by
  refine ⟨h.1, ?_⟩
  rcases h.2 with h2 | ⟨g, o, cap, cur, hv, hb, hg, r⟩
  · exact .inl h2
  · exact .inr ⟨g, o, cap, cur, hv, hb, (hk g (by rw [hv]; rfl)).trans hg, r⟩
theorem OwnP.kept {row : Option Nat} (h : OwnP w base e sz v n xs) (hg : w.grownBy w' row) (hne : v.ownBlock = none ∨ v.ownBlock ≠ row) : OwnP w' base e sz v n xs :=
  h.keep fun k hk => hg.block k (h.lt k hk).2 (by
    rcases hne with h0 | h0
    · rw [hk] at h0; cases h0
    · rw [hk] at h0; exact h0)
theorem OwnP.alloc (h : OwnP w base e sz v n xs) (o : Obj) : OwnP (w.alloc o) base e sz v n xs := h.keep fun k hk => Below.heap_alloc w o k (h.lt k hk).2
theorem OwnP.drew (h : OwnP w base e sz v n xs) : OwnP w.drew base e sz v n xs := h
theorem OwnP.drewN (h : OwnP w base e sz v n xs) (q : Nat) : OwnP (w.drewN q) base e sz v n xs := h
theorem ownP_below (h : OwnP w base e sz v n xs) (hb : Below w.heap.size w w') : OwnP w' base e sz v n xs := h.keep fun k hk => hb.block k (h.lt k hk).2
theorem ownP_none (h : OwnP w base e sz v n xs) (hg : w.grownBy w' none) : OwnP w' base e sz v n xs := h.kept hg (by cases v.ownBlock <;> simp)
theorem ownP_base {base' : Nat} (h : OwnP w base e sz v n xs) (hb : base' ≤ base) : OwnP w base' e sz v n xs := by
  refine ⟨h.1, ?_⟩
  rcases h.2 with h2 | ⟨g, o, cap, cur, hv, hg, r⟩
  · exact .inl h2
  · exact .inr ⟨g, o, cap, cur, hv, Nat.le_trans hb hg, r⟩
theorem ownP_shape (h : OwnP w base e sz v n xs) : ∃ A c, v = .slice A n c ∧ n ≤ c ∧ c ≤ maxLen ∧ (A = none → c = 0) ∧ ∀ ad, A = some ad → base ≤ ad.block ∧ ad.block < w.heap.size := by
  rcases h.2 with ⟨rfl, rfl⟩ | ⟨g, o, cap, cur, rfl, hb, hh, h1, h2, _⟩
  · exact ⟨none, 0, rfl, Nat.le_refl _, Nat.zero_le _, fun _ => rfl, (fun ad h => by cases h)⟩
  · refine ⟨some ⟨g, o, none⟩, cap, rfl, h1, h2, (fun h => by cases h), ?_⟩
    intro ad had
    injection had with had
    subst had
    exact ⟨hb, (Array.getElem?_eq_some_iff.1 hh).1⟩
theorem OwnP.ty {i : Nat} (h : OwnP w base e sz v n xs) (hi : v.ownBlock = some i) : Ty w e i := by
  rcases h.2 with ⟨h2, _⟩ | ⟨g', o, cap, cur, hv, _, hh, _⟩
  · rw [h2] at hi; cases hi
  · rw [hv] at hi; injection hi with hi; subst hi; exact ⟨_, _, hh⟩
theorem own_setOtherP (h : OwnP w base e sz v n xs) {p : Addr} (hp : some p.block ≠ v.ownBlock) (u : Value) : OwnP (w.setCell p u) base e sz v n xs :=
  h.keep fun k hk => Below.heap_setCell w p u k (fun e => hp (by rw [hk, e]))
/-- a row of another type is another block -/
theorem own_neP {b1 e1 k1 n1 : Nat} {v1 : Value} {x1 : List Value} (h1 : w.ownsRow b1 e1 k1 v1 n1 x1) (h2 : OwnP w base e sz v n xs) (hne : e1 ≠ e) : v1.ownBlock = none ∨ v1.ownBlock ≠ v.ownBlock := by
  cases hv : v1.ownBlock with
  | none => exact .inl rfl
  | some i =>
    refine .inr fun he => ?_
    exact hne ((ty_own h1 hv).uniq (h2.ty he.symm))
theorem BkIs.not_ownP {g : Nat} {cs : Array Value} (h : BkIs w g cs) (ho : OwnP w base e sz v n xs) (hne : e ≠ 48) : some g ≠ v.ownBlock := fun he =>
  hne ((ho.ty he.symm).ne h)
theorem Lies.of_ownP {A : Option Addr} {c : Nat} (h : OwnP w base e sz (.slice A n c) n xs) : Lies w w.heap.size sz A n xs := by
  refine ⟨h.1, fun j hj => ?_⟩
  rcases h.2 with ⟨_, h0⟩ | ⟨g, o, cap, cur, hv, _, hh, _, _, _, hc⟩
  · have := h.1; rw [h0, Nat.zero_mul] at this; omega
  · injection hv with hv _ _
    subst hv
    refine ⟨_, xs[j], rfl, (Array.getElem?_eq_some_iff.1 hh).1, List.getElem?_eq_getElem hj, ?_⟩
    rw [add_lit, cell_of_row _ _ _ _ _ _ hh, hc j (by have := h.1; omega), List.getElem?_eq_getElem hj]
end
section
variable {w w' : World} {base e sz n c g o : Nat} {xs : List Value}
theorem ownP_at (h : OwnP w base e sz (.slice (some ⟨g, o, none⟩) n c) n xs) : ∃ cur : Array Value, base ≤ g ∧ w.heap[g]? = some (.cells cur e (0, 0)) ∧ n ≤ c ∧ c ≤ maxLen ∧ o + c * sz ≤ cur.size ∧ ∀ j, j < n * sz → cur[o + j]? = xs[j]? := by
  rcases h.2 with ⟨h0, _⟩ | ⟨g', o', cap, cur, hv, hb, hh, h1, h2, h3, h4⟩
  · cases h0
  · injection hv with e1 e2 e3
    injection e1 with e1
    injection e1 with e1 e4
    subst e1 e3 e4
    exact ⟨cur, hb, hh, h1, h2, h3, h4⟩
theorem ownP_mk {cur : Array Value} (hl : xs.length = n * sz) (hb : base ≤ g) (hh : w.heap[g]? = some (.cells cur e (0, 0))) (h1 : n ≤ c) (h2 : c ≤ maxLen) (h3 : o + c * sz ≤ cur.size) (h4 : ∀ j, j < n * sz → cur[o + j]? = xs[j]?) : OwnP w base e sz (.slice (some ⟨g, o, none⟩) n c) n xs :=
  ⟨hl, .inr ⟨g, o, c, cur, rfl, hb, hh, h1, h2, h3, h4⟩⟩
theorem OwnP.cellAt (h : OwnP w base e sz (.slice (some ⟨g, o, none⟩) n c) n xs) (j : Nat) (hj : j < n * sz) : w.cell? ⟨g, o + j, none⟩ = xs[j]? := by
  obtain ⟨cur, _, hh, _, _, _, h4⟩ := ownP_at h
  rw [cell_of_row w g (o + j) cur e (0, 0) hh]; exact h4 j hj
theorem OwnP.frozenAt (h : OwnP w base e sz (.slice (some ⟨g, o, none⟩) n c) n xs) (j : Nat) : w.frozen? ⟨g, j, none⟩ = false := by
  obtain ⟨cur, _, hh, _⟩ := ownP_at h
  exact frozen_of_row w g j cur e hh
theorem OwnP.stored (h : OwnP w base e sz (.slice (some ⟨g, o, none⟩) n c) n xs) (j : Nat) (u : Value) :
    OwnP (w.setCell ⟨g, o + j, none⟩ u) base e sz (.slice (some ⟨g, o, none⟩) n c) n (xs.set j u) ∧ w.grownBy (w.setCell ⟨g, o + j, none⟩ u) (some g) := by
  obtain ⟨cur, hb, hh, h1, h2, h3, h4⟩ := ownP_at h
  refine ⟨ownP_mk (cur := cur.setIfInBounds (o + j) u) (by rw [List.length_set]; exact h.1) hb (heap_setCell_same w g (o + j) cur e u hh) h1 h2 (by simpa using h3) fun i hi => ?_, ?_⟩
  · have hm : n * sz ≤ c * sz := Nat.mul_le_mul_right _ h1
    rw [Array.getElem?_setIfInBounds, List.getElem?_set]
    by_cases e1 : j = i
    · subst e1
      have hl := h.1
      rw [if_pos rfl, if_pos (by omega), if_pos rfl, if_pos (by omega)]
    · rw [if_neg (by omega), if_neg e1]; exact h4 i hi
  · exact ⟨rfl, rfl, rfl, by simp [World.setCell], fun k hk hne => Below.heap_setCell w _ u k (fun e => hne (by rw [e]))⟩
theorem ownP_take {k : Nat} (h : OwnP w base e sz (.slice (some ⟨g, o, none⟩) n c) n xs) (hk : k ≤ n) : OwnP w base e sz (.slice (some ⟨g, o, none⟩) k c) k (xs.take (k * sz)) := by
  obtain ⟨cur, hb, hh, h1, h2, h3, h4⟩ := ownP_at h
  have hm : k * sz ≤ n * sz := Nat.mul_le_mul_right _ hk
  have hl := h.1
  refine ownP_mk (by rw [List.length_take]; omega) hb hh (by omega) h2 h3 fun i hi => ?_
  rw [List.getElem?_take, if_pos hi]; exact h4 i (by omega)
/-- cells that are set one by one: what becomes of the block -/
theorem setCells_heap (e : TypeId) (g : Nat) : ∀ (vs : List Value) (o : Nat) (w : World) (cur : Array Value), w.heap[g]? = some (.cells cur e (0, 0)) → o + vs.length ≤ cur.size →
    ∃ cur' : Array Value, (w.setCells g o vs).heap[g]? = some (.cells cur' e (0, 0)) ∧ cur'.size = cur.size ∧ (∀ i, i < o → cur'[i]? = cur[i]?) ∧ (∀ j, j < vs.length → cur'[o + j]? = vs[j]?) ∧ w.grownBy (w.setCells g o vs) (some g)
  | [], o, w, cur, hh, _ => ⟨cur, hh, rfl, fun _ _ => rfl, fun j hj => absurd hj (Nat.not_lt_zero _), World.grownBy.refl _ _⟩
  | v :: vs, o, w, cur, hh, hl => by
    obtain ⟨cur', h1, h2, h3, h4, h5⟩ := setCells_heap e g vs (o + 1) (w.setCell ⟨g, o, none⟩ v) (cur.setIfInBounds o v) (heap_setCell_same w g o cur e v hh) (by simp at hl ⊢; omega)
    have hg : w.grownBy (w.setCell ⟨g, o, none⟩ v) (some g) := ⟨rfl, rfl, rfl, by simp [World.setCell], fun k hk hne => Below.heap_setCell w _ v k (fun e => hne (by rw [e]))⟩
    refine ⟨cur', h1, by rw [h2]; simp, fun i hi => ?_, fun j hj => ?_, hg.trans h5⟩
    · rw [h3 i (by omega), Array.getElem?_setIfInBounds, if_neg (by omega)]
    · cases j with
      | zero =>
        rw [Nat.add_zero, h3 o (by omega), Array.getElem?_setIfInBounds, if_pos rfl, if_pos (by simp at hl; omega)]; rfl
      | succ j => rw [show o + (j + 1) = o + 1 + j by omega, h4 j (by simpa using hj)]; rfl
/-- append where there is room -/
theorem run_appendP {P : Program} (w : World) (t ty : TypeId) (i : TypeInfo) (ht : P.underlying t = some (.slice e)) (hi : P.info? e = some i) (hs : i.size = sz) (h : OwnP w base e sz (.slice (some ⟨g, o, none⟩) n c) n xs)
    (a : Addr) (m c2 : Nat) (news : List Value) (hl : news.length = m * sz) (hnews : ∀ j u, news[j]? = some u → w.cell? (a.add j) = some u) (h1c : ∀ u ∈ news, u.oneCell' = true) (hroom : n + m ≤ c) :
    ∃ w', (Builtin.append_ #[t, t] ty #[.slice (some ⟨g, o, none⟩) n c, .slice (some a) m c2]).run P w = .ok (.slice (some ⟨g, o, none⟩) (n + m) c) w' ∧ OwnP w' base e sz (.slice (some ⟨g, o, none⟩) (n + m) c) (n + m) (xs ++ news) ∧ w.grownBy w' (some g) := by
  obtain ⟨cur, hb, hh, h1, h2, h3, h4⟩ := ownP_at h
  subst hs
  have hm : (n + m) * i.size ≤ c * i.size := Nat.mul_le_mul_right _ hroom
  rw [Nat.add_mul] at hm
  have hsz : ∀ j, j < news.length → (w.cell? ⟨g, o + n * i.size + j, none⟩).isSome = true := fun j hj => by
    rw [cell_of_row w g _ cur e (0, 0) hh, Array.getElem?_eq_getElem (by omega)]; rfl
  have hrun := run_append_room_cells (P := P) w t ty e i ht hi g o n c a m c2 news hl hnews h1c hroom hsz (fun j hj => frozen_of_row w g _ cur e hh)
  obtain ⟨cur', k1, k2, k3, k4, k5⟩ := setCells_heap e g news (o + n * i.size) w cur hh (by omega)
  have hxl := h.1
  refine ⟨_, hrun, ownP_mk (by rw [List.length_append, hxl, hl, Nat.add_mul]) hb k1 hroom h2 (by rw [k2]; exact h3) fun j hj => ?_, k5⟩
  rw [Nat.add_mul] at hj
  by_cases hjn : j < n * i.size
  · rw [k3 _ (by omega), h4 j hjn, List.getElem?_append_left (by omega)]
  · rw [List.getElem?_append_right (by omega), hxl, show o + j = o + n * i.size + (j - n * i.size) by omega, k4 _ (by omega)]
theorem wpList_appendP {P : Program} (w : World) {ops : Array Oper} {rest : List Oper} {o' : Oper} {a : Act} {Q : Exit → Act → World → Prop} (hgd : o'.guard = none) (s x : Operand) (t : TypeId)
    (ho : o'.op = .call { callee := .builtin .append, args := #[s, x], argTypes := #[t, t] }) (i : TypeInfo) (ht : P.underlying t = some (.slice e)) (hi : P.info? e = some i) (hsz : i.size = sz)
    (hs : a.eval s = .slice (some ⟨g, o, none⟩) n c) (h : OwnP w base e sz (.slice (some ⟨g, o, none⟩) n c) n xs)
    (ad : Addr) (m c2 : Nat) (news : List Value) (hx : a.eval x = .slice (some ad) m c2) (hl : news.length = m * sz) (hnews : ∀ j u, news[j]? = some u → w.cell? (ad.add j) = some u) (h1c : ∀ u ∈ news, u.oneCell' = true) (hroom : n + m ≤ c)
    (hk : ∀ w', OwnP w' base e sz (.slice (some ⟨g, o, none⟩) (n + m) c) (n + m) (xs ++ news) → w.grownBy w' (some g) → wpList P ops Q rest (a.put o'.dst (.slice (some ⟨g, o, none⟩) (n + m) c)) w') : wpList P ops Q (o' :: rest) a w := by
  refine wpList_plain hgd fun K hK => ?_
  obtain ⟨w', hrun, h2, h3⟩ := run_appendP (P := P) w t o'.type i ht hi hsz h ad m c2 news hl hnews h1c hroom
  unfold Oper.wp execOp
  simp only [ho, resolve, invoke, builtin, Sem.run_bind, Sem.run_pure, Result.andThen_ok, List.map_toArray, List.map_cons, List.map_nil, hs, hx, hrun]
  exact hK _ _ (hk w' h2 h3)
end
theorem cells_atP {w : World} {base e k n m c : Nat} {A : Option Addr} {xs : List Value} {o : Obj} (h : OwnP w base e k (.slice A n c) m xs) : ∀ b, A = some b → ∀ (j : Nat) (u : Value), xs[j]? = some u → (w.alloc o).cell? (b.add j) = some u := by
  intro b hb j u hu
  have hn : m = n := by
    rcases h.2 with ⟨h0, h1⟩ | ⟨g', o', cap, cur, hv, _⟩
    · injection h0 with h2 _ _; rw [hb] at h2; cases h2
    · injection hv with _ h2 _; exact h2.symm
  subst hn
  obtain ⟨ad, v, e1, hbb, hx, hcc⟩ := (Lies.of_ownP h).spot j (by rcases List.getElem?_eq_some_iff.1 hu with ⟨h, _⟩; exact h)
  rw [hb] at e1
  injection e1 with e1
  subst e1
  rw [hu] at hx
  injection hx with hx
  subst hx
  rw [World.cell?_alloc_lt _ _ _ (by rw [add_block]; exact hbb)]
  exact hcc

section
variable (K : Kn)
/-- all are owned; the first m have their marks all over -/
def FilledP (w : World) (base : Nat) (ls : List BL) (m : Nat) : Prop := ∀ (i : Nat) (b : BL), ls[i]? = some b → ∃ xs, OwnP w base K.e K.sz b.v b.n xs ∧ (i < m → xs = rep (K.mark b.num) b.n)
/-- what the inner loop of fill keeps: the first q elements are marked -/
def QRelP (w0 : World) (base : Nat) (A : Option Addr) (n c : Nat) (xs : List Value) (num : Nat) (i : Value) (wr : World) : Prop :=
  ∃ q : Nat, q ≤ n ∧ i = .int .i64 (q : Int) ∧ OwnP wr base K.e K.sz (.slice A n c) n (rep (K.mark num) q ++ xs.drop (q * K.sz)) ∧ w0.grownBy wr (Value.slice A n c).ownBlock
/-- what the loops of fill keep -/
def FRelP (w : World) (base g : Nat) (cs : Array Value) (vb : Value) (ls : List BL) (i : Value) (wr : World) : Prop :=
  ∃ m : Nat, m ≤ ls.length ∧ i = .int .i64 (m : Int) ∧ BkIs wr g cs ∧ wr.ownsRow base K.h 3 vb ls.length (held0 ls) ∧ FilledP K wr base ls m ∧ Wrote (Bks ls) w wr
/-- a list's own cells are its marks -/
def MarkedP (w : World) (base : Nat) (b : BL) : Prop := OwnP w base K.e K.sz b.v b.n (rep (K.mark b.num) b.n)
/-- what is known of list number i when the first m are grown -/
def GrwP (w : World) (base : Nat) (gs : List (BL × Value)) (m : Nat) : Prop := ∀ (i : Nat) (b : BL) (lv : Value), gs[i]? = some (b, lv) →
  MarkedP K w base b ∧ (i < m → OwnP w base K.e K.sz lv (b.n + 40) (rep (K.mark b.num) (b.n + 40))) ∧ (m ≤ i → lv = nilS)
end
section
variable {K : Kn}
/-- what the inner loop of grow keeps -/
def GQP (K : Kn) (w0 : World) (base : Nat) (b : BL) (v i : Value) (wr : World) : Prop :=
  ∃ (q : Nat) (A : Option Addr) (c : Nat), q ≤ 40 ∧ i = .int .i64 (q : Int) ∧ v = .slice A (b.n + q) c ∧ OwnP wr base K.e K.sz v (b.n + q) (rep (K.mark b.num) (b.n + q)) ∧ MarkedP K wr base b ∧
    w0.grownBy wr b.v.ownBlock ∧ (A = b.A ∧ c = b.c ∨ ∀ j, v.ownBlock = some j → w0.heap.size ≤ j)

/-- one more mark, in its place -/
theorem GQP.fits {w0 wr w1 w' : World} {base q g o c : Nat} {b : BL} (hq : q < 40) (hlt : ∀ j, b.v.ownBlock = some j → j < w0.heap.size)
    (hM : MarkedP K wr base b) (hG : w0.grownBy wr b.v.ownBlock) (hF : some ⟨g, o, none⟩ = b.A ∧ c = b.c ∨ ∀ j, (Value.slice (some ⟨g, o, none⟩) (b.n + q) c).ownBlock = some j → w0.heap.size ≤ j)
    (h1 : wr.grownBy w1 none)
    (hown : OwnP w' base K.e K.sz (.slice (some ⟨g, o, none⟩) (b.n + q + 1) c) (b.n + q + 1) (rep (K.mark b.num) (b.n + q) ++ K.mark b.num)) (hg : w1.grownBy w' (some g)) :
    GQP K w0 base b (.slice (some ⟨g, o, none⟩) (b.n + q + 1) c) (.int .i64 ((q : Int) + 1)) w' := by
  rw [← rep_succ] at hown
  have hMa : MarkedP K w1 base b := OwnP.kept hM h1 (by cases b.v.ownBlock <;> simp)
  have hGa : w0.grownBy w1 b.v.ownBlock := ⟨h1.os.trans hG.os, h1.tape.trans hG.tape, h1.output.trans hG.output, Nat.le_trans hG.size h1.size, fun j hj hne => by
      rw [h1.block j (Nat.lt_of_lt_of_le hj hG.size) (by simp)]; exact hG.block j hj hne⟩
  refine ⟨q + 1, some ⟨g, o, none⟩, c, hq, by simp, rfl, hown, ?_, ?_, ?_⟩
  · rcases hF with ⟨h1, h2⟩ | h1
    · have h3 := ownP_take (k := b.n) hown (by omega)
      rw [← K.len b.num, rep_take _ (by omega), K.len b.num, h1, h2] at h3
      exact h3
    · refine OwnP.kept hMa hg ?_
      rcases hv : b.v.ownBlock with _ | j
      · exact .inl rfl
      · refine .inr fun he => ?_
        have h2 := hlt j hv
        have h3 := h1 g rfl
        injection he with he
        omega
  · refine ⟨hg.os.trans hGa.os, hg.tape.trans hGa.tape, hg.output.trans hGa.output, Nat.le_trans hGa.size hg.size, fun j hj hne => ?_⟩
    rw [hg.block j (Nat.lt_of_lt_of_le hj hGa.size) ?_]
    · exact hGa.block j hj hne
    · intro he
      injection he with he
      subst he
      rcases hF with ⟨h1, _⟩ | h1
      · apply hne
        unfold BL.v
        rw [← h1]; rfl
      · have := h1 j rfl
        omega
  · rcases hF with ⟨h1, h2⟩ | h1
    · exact .inl ⟨h1, h2⟩
    · exact .inr fun j hj => h1 j hj
/-- one more mark, elsewhere -/
theorem GQP.moves {w0 wr w1 w' : World} {base q : Nat} {b : BL} {v' : Value} (hq : q < 40) (hbase : base ≤ w1.heap.size) (hM : MarkedP K wr base b) (hG : w0.grownBy wr b.v.ownBlock)
    (h1 : wr.grownBy w1 none)
    (hown : OwnP w' w1.heap.size K.e K.sz v' (b.n + q + 1) (rep (K.mark b.num) (b.n + q) ++ K.mark b.num)) (hg : w1.grownBy w' none) :
    GQP K w0 base b v' (.int .i64 ((q : Int) + 1)) w' := by
  rw [← rep_succ] at hown
  have hGa : w0.grownBy w1 b.v.ownBlock := ⟨h1.os.trans hG.os, h1.tape.trans hG.tape, h1.output.trans hG.output, Nat.le_trans hG.size h1.size, fun j hj hne => by
      rw [h1.block j (Nat.lt_of_lt_of_le hj hG.size) (by simp)]; exact hG.block j hj hne⟩
  obtain ⟨A, c, rfl, _⟩ := ownP_shape hown
  refine ⟨q + 1, A, c, hq, by simp, rfl, ownP_base hown hbase, OwnP.kept (OwnP.kept hM h1 (by cases b.v.ownBlock <;> simp)) hg (by cases b.v.ownBlock <;> simp), ?_, .inr fun j hj => ?_⟩
  · exact ⟨hg.os.trans hGa.os, hg.tape.trans hGa.tape, hg.output.trans hGa.output, Nat.le_trans hGa.size hg.size, fun j hj hne => by
      rw [hg.block j (Nat.lt_of_lt_of_le hj hGa.size) (by simp)]; exact hGa.block j hj hne⟩
  · exact Nat.le_trans hGa.size (hown.lt j hj).1

/-- a list is grown: what is known of all -/
theorem grow_stepP {w0 wr : World} {base m gv cv k : Nat} {gs : List (BL × Value)} {b : BL} {A : Option Addr} {c : Nat} {hs : List Value} (hbase : base ≤ w0.heap.size) (hG : GrwP K w0 base gs m) (hD : DisG w0 gs) (hm : gs[m]? = some (b, nilS))
    (hown : OwnP wr base K.e K.sz (.slice A (b.n + 40) c) (b.n + 40) (rep (K.mark b.num) (b.n + 40))) (hM : MarkedP K wr base b) (hgr : w0.grownBy wr b.v.ownBlock)
    (hF : A = b.A ∧ c = b.c ∨ ∀ j, (Value.slice A (b.n + 40) c).ownBlock = some j → w0.heap.size ≤ j) (hbk : wr.ownsRow base K.h 3 (.slice (some ⟨gv, 0, none⟩) k cv) k hs) :
    GrwP K (wr.setCell ⟨gv, 3 * m + 1, none⟩ (.slice A (b.n + 40) c)) base (gs.set m (b, .slice A (b.n + 40) c)) (m + 1) ∧ DisG (wr.setCell ⟨gv, 3 * m + 1, none⟩ (.slice A (b.n + 40) c)) (gs.set m (b, .slice A (b.n + 40) c)) := by
  have hml : m < gs.length := by rcases List.getElem?_eq_some_iff.1 hm with ⟨h, _⟩; exact h
  have hset : ∀ {v : Value} {n : Nat} {xs : List Value}, OwnP wr base K.e K.sz v n xs → OwnP (wr.setCell ⟨gv, 3 * m + 1, none⟩ (.slice A (b.n + 40) c)) base K.e K.sz v n xs := by
    intro v n xs h
    refine own_setOtherP h ?_ _
    rcases own_neP hbk h (Ne.symm K.ne) with h1 | h1
    · cases h1
    · exact h1
  have hblk : ∀ {i o}, Has (gs.set m (b, .slice A (b.n + 40) c)) i o → Has gs i o ∨ i = m ∧ w0.heap.size ≤ o ∧ o < wr.heap.size := by
    rintro i o ⟨b', lv, hi, ho⟩
    by_cases him : i = m
    · subst him
      rw [List.getElem?_set_self hml] at hi
      injection hi with hi
      injection hi with h1 h2
      subst h1 h2
      rcases ho with ho | ho
      · exact .inl ⟨b, nilS, hm, .inl ho⟩
      · rcases hF with ⟨h1, h2⟩ | h1
        · refine .inl ⟨b, nilS, hm, .inl ?_⟩
          unfold BL.v
          rw [← h1]
          cases A with
          | none => cases ho
          | some a => exact ho
        · exact .inr ⟨rfl, h1 o ho, (hown.lt o ho).2⟩
    · rw [List.getElem?_set_ne (fun e => him e.symm)] at hi
      exact .inl ⟨b', lv, hi, ho⟩
  have hsz : (wr.setCell ⟨gv, 3 * m + 1, none⟩ (.slice A (b.n + 40) c)).heap.size = wr.heap.size := by simp [World.setCell]
  refine ⟨?_, ?_, ?_⟩
  · intro i b' lv hi
    by_cases him : i = m
    · subst him
      rw [List.getElem?_set_self hml] at hi
      injection hi with hi
      injection hi with h1 h2
      subst h1 h2
      exact ⟨hset hM, fun _ => hset hown, fun h => absurd h (by omega)⟩
    · rw [List.getElem?_set_ne (fun e => him e.symm)] at hi
      obtain ⟨g1, g2, g3⟩ := hG i b' lv hi
      have hne : ∀ v : Value, (∀ o, v.ownBlock = some o → Has gs i o) → v.ownBlock = none ∨ v.ownBlock ≠ b.v.ownBlock := by
        intro v hv
        rcases hvo : v.ownBlock with _ | o
        · exact .inl rfl
        · refine .inr fun he => him ?_
          exact hD.1 i m o (hv o hvo) ⟨b, nilS, hm, .inl he.symm⟩
      refine ⟨hset (OwnP.kept g1 hgr (hne _ fun o ho => ⟨b', lv, hi, .inl ho⟩)), fun h => hset ((g2 (by omega)).kept hgr (hne _ fun o ho => ⟨b', lv, hi, .inr ho⟩)), fun h => g3 (by omega)⟩
  · intro i j o hi hj
    rcases hblk hi with h1 | ⟨h1, h2, _⟩
    · rcases hblk hj with h3 | ⟨h3, h4, _⟩
      · exact hD.1 i j o h1 h3
      · have := hD.2 i o h1; omega
    · rcases hblk hj with h3 | ⟨h3, h4, _⟩
      · have := hD.2 j o h3; omega
      · omega
  · intro i o hi
    rw [hsz]
    rcases hblk hi with h1 | ⟨_, _, h3⟩
    · exact Nat.lt_of_lt_of_le (hD.2 i o h1) hgr.size
    · exact h3
/-- what the outer loop of grow keeps -/
def GRelBP (K : Kn) (w : World) (base g : Nat) (cs : Array Value) (vb : Value) (ls : List BL) (i : Value) (wr : World) : Prop :=
  ∃ (m : Nat) (gs : List (BL × Value)), m ≤ ls.length ∧ i = .int .i64 (m : Int) ∧ gs.map Prod.fst = ls ∧ BkIs wr g cs ∧ wr.ownsRow base K.h 3 vb ls.length (heldG gs) ∧ GrwP K wr base gs m ∧ DisG wr gs ∧ Wrote (fun i => Bks ls i ∨ vb.ownBlock = some i) w wr
theorem first_grwP {w : World} {base : Nat} {ls : List BL} (hF : FilledP K w base ls ls.length) (hD : Dis ls) : GrwP K w base (ls.map fun b => (b, nilS)) 0 ∧ DisG w (ls.map fun b => (b, nilS)) := by
  have key : ∀ {i : Nat} {b : BL} {lv : Value}, (ls.map fun b => (b, nilS))[i]? = some (b, lv) → ls[i]? = some b ∧ lv = nilS := by
    intro i b lv h
    rw [List.getElem?_map] at h
    cases hx : ls[i]? with
    | none => rw [hx] at h; cases h
    | some x => rw [hx] at h; injection h with h; injection h with h1 h2; subst h1; exact ⟨rfl, h2.symm⟩
  have hlt : ∀ {i : Nat} {b : BL}, ls[i]? = some b → i < ls.length := fun h => by rcases List.getElem?_eq_some_iff.1 h with ⟨h, _⟩; exact h
  refine ⟨fun i b lv h => ?_, fun i j o hi hj => ?_, fun i o hi => ?_⟩
  · obtain ⟨h1, h2⟩ := key h
    obtain ⟨xs, hx, he⟩ := hF i b h1
    rw [he (hlt h1)] at hx
    exact ⟨hx, fun h => by omega, fun _ => h2⟩
  · obtain ⟨bi, li, h1, h2⟩ := hi
    obtain ⟨bj, lj, h3, h4⟩ := hj
    obtain ⟨e1, e2⟩ := key h1
    obtain ⟨e3, e4⟩ := key h3
    subst e2 e4
    have o1 : bi.v.ownBlock = some o := by rcases h2 with h | h; exact h; cases h
    have o2 : bj.v.ownBlock = some o := by rcases h4 with h | h; exact h; cases h
    rcases Nat.decEq i j with hne | he
    · rcases hD i j bi bj hne e1 e3 with h | h
      · rw [o1] at h; cases h
      · exact absurd (o1.trans o2.symm) h
    · exact he
  · obtain ⟨bi, li, h1, h2⟩ := hi
    obtain ⟨e1, e2⟩ := key h1
    subst e2
    have o1 : bi.v.ownBlock = some o := by rcases h2 with h | h; exact h; cases h
    obtain ⟨xs, hx, _⟩ := hF i bi e1
    exact (hx.lt o o1).2
end
theorem Off.rowP {w w' : World} {e : TypeId} {S : Nat → Prop} (hS : Off w e S) (hw : Wrote S w w') {base k n : Nat} {v : Value} {xs : List Value} (h : OwnP w base e k v n xs) : OwnP w' base e k v n xs :=
  h.keep fun g hg => hw.block g (h.lt g hg).2 fun hs => by obtain ⟨t, hne, ht⟩ := hS g hs; exact hne (ht.uniq (h.ty hg))
theorem Off.filledP {K : Kn} {w w' : World} {S : Nat → Prop} (hS : Off w K.e S) (hw : Wrote S w w') {base m : Nat} {ls : List BL} (h : FilledP K w base ls m) : FilledP K w' base ls m := fun i b hi => by
  obtain ⟨xs, hx, he⟩ := h i b hi
  exact ⟨xs, hS.rowP hw hx, he⟩
theorem Off.grwP {K : Kn} {w w' : World} {S : Nat → Prop} (hS : Off w K.e S) (hw : Wrote S w w') {base m : Nat} {gs : List (BL × Value)} (h : GrwP K w base gs m) : GrwP K w' base gs m := fun i b lv hi => by
  obtain ⟨h1, h2, h3⟩ := h i b lv hi
  exact ⟨hS.rowP hw h1, fun hm => hS.rowP hw (h2 hm), h3⟩
theorem off_bksP {K : Kn} {w : World} {base m : Nat} {ls : List BL} {e : TypeId} (h : FilledP K w base ls m) (hne : K.e ≠ e) : Off w e (Bks ls) := fun i ⟨b, hb, hi⟩ => by
  obtain ⟨j, hj⟩ := List.getElem?_of_mem hb
  obtain ⟨xs, hx, _⟩ := h j b hj
  exact ⟨_, hne, hx.ty hi⟩
theorem off_bothP {K : Kn} {w : World} {base m n : Nat} {ls : List BL} {e : TypeId} {vb : Value} {xs : List Value} (h : FilledP K w base ls m) (ho : w.ownsRow base K.h 3 vb n xs) (h1 : K.e ≠ e) (h2 : K.h ≠ e) : Off w e (fun i => Bks ls i ∨ vb.ownBlock = some i) := fun i hi =>
  hi.elim (off_bksP h h1 i) fun hi => ⟨_, h2, ty_own ho hi⟩
theorem low_bksP {K : Kn} {w : World} {base m : Nat} {ls : List BL} (h : FilledP K w base ls m) : ∀ i, Bks ls i → base ≤ i := fun i ⟨b, hbm, hbi⟩ => by
  obtain ⟨j, hj⟩ := List.getElem?_of_mem hbm
  obtain ⟨xs, hx, _⟩ := h j b hj
  exact (hx.lt i hbi).1
/-- is it a list of the law's own, of that kind, or a part of one? -/
def KdkP (K : Kn) (w : World) (base : Nat) (b : BL) : Prop := ∃ xs, OwnP w base K.e K.sz b.v b.n xs
end Go.Proofs.YtbbimfbkllellaaGreatDoor
