/-
  Words about memory that all contracts of this seat use: bytes as values; a slice whose cells are known ('Lies'), nil let in; what the call itself made ('own' facts); one cell of a captured variable.
-/
import Derived.Test.YtoljldokehfokaaChecked
import Derived.WalkKit
import Derived.WalkSpells
import Derived.WalkLawsBesides
import Derived.Maps.AppendAt
import Derived.Deep.AppendLies
import Derived.Deep.Draws
import Derived.Deep.QuietTactic
import Derived.BigQuiet
import Derived.Lib.Hide
import Derived.KernelRfl
namespace Go.Proofs.Ytoljldokehfokaa
open Go.RowKit
set_option linter.unusedVariables false

/-- a byte as a value -/
abbrev bv (c : UInt8) : Value := .int .u8 (c.toNat : Int)

theorem add_block (a : Addr) (n : Nat) : (a.add n).block = a.block := by unfold Addr.add; split <;> rfl
theorem add_add (a : Addr) (i j : Nat) : (a.add i).add j = a.add (i + j) := by
  unfold Addr.add
  by_cases hi : i = 0 <;> by_cases hj : j = 0 <;> simp [hi, hj, Nat.add_assoc]
theorem add_lit (b o n : Nat) : (⟨b, o, none⟩ : Addr).add n = ⟨b, o + n, none⟩ := by
  unfold Addr.add; split
  · rename_i h; subst h; rfl
  · rfl

/-- The slice value '.slice A n c' of elements of k cells holds the cells xs, in blocks below B. -/
structure Lies (w : World) (B k : Nat) (A : Option Addr) (n : Nat) (xs : List Value) : Prop where
  len : xs.length = n * k
  spot : ∀ j, j < xs.length → ∃ ad u, A = some ad ∧ ad.block < B ∧ xs[j]? = some u ∧ w.cell? (ad.add j) = some u

section
variable {w w' : World} {B B' k n : Nat} {A : Option Addr} {xs : List Value}
theorem Lies.none_ (w : World) (B k : Nat) (A : Option Addr) : Lies w B k A 0 [] := ⟨by simp, fun j h => by simp at h⟩
theorem Lies.keep (h : Lies w B k A n xs) (hk : ∀ p : Addr, p.block < B → w'.cell? p = w.cell? p) : Lies w' B k A n xs :=
  ⟨h.len, fun j hj => by
    obtain ⟨ad, u, e, hb, hx, hc⟩ := h.spot j hj
    exact ⟨ad, u, e, hb, hx, (hk _ (by rw [add_block]; exact hb)).trans hc⟩⟩
theorem Lies.more (h : Lies w B k A n xs) (hB : B ≤ B') : Lies w B' k A n xs :=
  ⟨h.len, fun j hj => by
    obtain ⟨ad, u, e, hb, r⟩ := h.spot j hj
    exact ⟨ad, u, e, by omega, r⟩⟩
theorem Lies.below (h : Lies w B k A n xs) (hb : Below B w w') : Lies w' B k A n xs := h.keep fun _ hp => hb.cell hp
theorem Lies.drewN (h : Lies w B k A n xs) (m : Nat) : Lies (w.drewN m) B k A n xs := h.keep fun _ _ => rfl
theorem Lies.drew (h : Lies w B k A n xs) : Lies w.drew B k A n xs := h.keep fun _ _ => rfl
theorem Lies.alloc (h : Lies w B k A n xs) (hB : B ≤ w.heap.size) (o : Obj) : Lies (w.alloc o) B k A n xs := h.keep fun p hp => World.cell?_alloc_lt w o p (by omega)
theorem Lies.setCell (h : Lies w B k A n xs) {p : Addr} (hB : B ≤ p.block) (u : Value) : Lies (w.setCell p u) B k A n xs :=
  h.keep fun q hq => World.cell?_setCell_other w p q u (fun e => by subst e; omega)
theorem Lies.at_ (h : Lies w B 1 A n xs) {j : Nat} (hj : j < n) : ∃ b o u, A = some ⟨b, o, none⟩ ∧ b < B ∧ xs[j]? = some u ∧ w.cell? ⟨b, o + j, none⟩ = some u := by
  obtain ⟨ad, u0, e, hb, hx0, hc0⟩ := h.spot 0 (by have := h.len; omega)
  obtain ⟨ad', u, e', _, hx, hc⟩ := h.spot j (by have := h.len; omega)
  obtain ⟨b, o, sp⟩ := ad
  have hsp : sp = none := by simpa [Addr.add] using World.cell?_spot hc0
  subst hsp
  rw [e] at e'
  injection e' with e'
  subst e'
  rw [add_lit] at hc
  exact ⟨b, o, u, e, hb, hx, hc⟩
theorem Lies.take_ (h : Lies w B 1 A n xs) {m : Nat} (hm : m ≤ n) : Lies w B 1 A m (xs.take m) := by
  refine ⟨by have := h.len; simp; omega, fun j hj => ?_⟩
  have hj' : j < m := by simp at hj; omega
  obtain ⟨ad, u, e, hb, hx, hc⟩ := h.spot j (by have := h.len; omega)
  exact ⟨ad, u, e, hb, by rw [List.getElem?_take, if_pos hj']; exact hx, hc⟩
theorem Lies.drop_ (h : Lies w B 1 A n xs) {m : Nat} (hm : m ≤ n) : Lies w B 1 (A.map (·.add m)) (n - m) (xs.drop m) := by
  refine ⟨by have := h.len; simp; omega, fun j hj => ?_⟩
  obtain ⟨ad, u, rfl, hb, hx, hc⟩ := h.spot (m + j) (by simp at hj; omega)
  exact ⟨ad.add m, u, rfl, by rw [add_block]; exact hb, by rw [List.getElem?_drop]; exact hx, by rw [add_add]; exact hc⟩
/-- a cut 's[m:]' as the model has it: at the capacity the address stays -/
theorem Lies.cut (h : Lies w B 1 A n xs) {m c : Nat} (hm : m ≤ n) (hc : n ≤ c) : Lies w B 1 (if c = m then A else A.map (·.add m)) (n - m) (xs.drop m) := by
  by_cases e : c = m
  · rw [if_pos e]
    have : n - m = 0 := by omega
    rw [this, List.drop_eq_nil_of_le (by have := h.len; omega)]
    exact Lies.none_ _ _ _ _
  · rw [if_neg e]; exact h.drop_ hm
theorem Lies.nil_of (h : Lies w B 1 none n xs) : n = 0 ∧ xs = [] := by
  have h0 : xs.length = 0 := by
    rcases Nat.eq_zero_or_pos xs.length with h0 | h0
    · exact h0
    · obtain ⟨ad, u, e, _⟩ := h.spot 0 h0
      cases e
  exact ⟨by have := h.len; omega, List.eq_nil_of_length_eq_zero h0⟩
/-- what the call owns lies in the heap -/
theorem Lies.of_own {base e c : Nat} (h : w.ownsRow base e k (.slice A n c) n xs) : Lies w w.heap.size k A n xs := by
  refine ⟨h.1, fun j hj => ?_⟩
  have hn : 0 < n := by
    rcases Nat.eq_zero_or_pos n with h0 | h0
    · have := h.1; rw [h0, Nat.zero_mul] at this; omega
    · exact h0
  rcases h.2 with ⟨_, rfl⟩ | ⟨g, cap, cur, hv, _, hh, _⟩
  · omega
  · injection hv with hv _ _
    subst hv
    refine ⟨_, xs[j], rfl, (Array.getElem?_eq_some_iff.1 hh).1, List.getElem?_eq_getElem hj, ?_⟩
    exact h.cells (g := g) rfl j _ (List.getElem?_eq_getElem hj)
end

/-- the shape of an owned value -/
theorem own_shape {w : World} {base e k n : Nat} {v : Value} {xs : List Value} (h : w.ownsRow base e k v n xs) :
    ∃ A c, v = .slice A n c ∧ n ≤ c ∧ c ≤ maxLen ∧ (A = none → c = 0) ∧ ∀ ad, A = some ad → base ≤ ad.block ∧ ad.block < w.heap.size := by
  rcases h.2 with ⟨rfl, rfl⟩ | ⟨g, cap, cur, rfl, hb, hh, h1, h2, _⟩
  · exact ⟨none, 0, rfl, Nat.le_refl _, Nat.zero_le _, fun _ => rfl, (fun ad h => by cases h)⟩
  · refine ⟨some ⟨g, 0, none⟩, cap, rfl, h1, h2, (fun h => by cases h), ?_⟩
    intro ad had
    injection had with had
    subst had
    exact ⟨hb, (Array.getElem?_eq_some_iff.1 hh).1⟩

theorem below_drewN {B : Nat} {a w : World} (h : Below B a w) (n : Nat) : Below B a (w.drewN n) := ⟨h.os, h.tape, h.output, h.size, h.block⟩
/-- what is owned stays owned where everything below the heap's end stays -/
theorem own_below {w w' : World} {base e k n : Nat} {v : Value} {xs : List Value} (h : w.ownsRow base e k v n xs) (hb : Below w.heap.size w w') : w'.ownsRow base e k v n xs := by
  refine ⟨h.1, ?_⟩
  rcases h.2 with h2 | ⟨g, cap, cur, hv, hg, hh, r⟩
  · exact .inl h2
  · exact .inr ⟨g, cap, cur, hv, hg, (hb.block g (Array.getElem?_eq_some_iff.1 hh).1).trans hh, r⟩
theorem own_base {w : World} {base base' e k n : Nat} {v : Value} {xs : List Value} (h : w.ownsRow base e k v n xs) (hb : base' ≤ base) : w.ownsRow base' e k v n xs := by
  refine ⟨h.1, ?_⟩
  rcases h.2 with h2 | ⟨g, cap, cur, hv, hg, r⟩
  · exact .inl h2
  · exact .inr ⟨g, cap, cur, hv, Nat.le_trans hb hg, r⟩

/-- a variable that a closure holds: a block of one cell -/
def Box (w : World) (g : Nat) (t : TypeId) (v : Value) : Prop := w.heap[g]? = some (.cells #[v] t (0, 0))
section
variable {w w' : World} {g : Nat} {t : TypeId} {v : Value}
theorem Box.lt (h : Box w g t v) : g < w.heap.size := (Array.getElem?_eq_some_iff.1 h).1
theorem Box.cell (h : Box w g t v) : w.cell? ⟨g, 0, none⟩ = some v := cell_of_row w g 0 #[v] t (0, 0) h
theorem Box.frozen (h : Box w g t v) : w.frozen? ⟨g, 0, none⟩ = false := by
  unfold Box at h
  simp [World.frozen?, h]
theorem Box.new (w : World) (t : TypeId) (v : Value) : Box (w.alloc (.cells #[v] t)) w.heap.size t v := heap_alloc_new w _
theorem Box.alloc (h : Box w g t v) (o : Obj) : Box (w.alloc o) g t v := (Below.heap_alloc w o g h.lt).trans h
theorem Box.set (h : Box w g t v) (u : Value) : Box (w.setCell ⟨g, 0, none⟩ u) g t u := by
  unfold Box at h ⊢
  simp [World.setCell, Array.getElem?_modify, h]
theorem Box.far (h : Box w g t v) {p : Addr} (hp : g ≠ p.block) (u : Value) : Box (w.setCell p u) g t v := (Below.heap_setCell w p u g hp).trans h
theorem Box.below {B : Nat} (h : Box w g t v) (hb : Below B w w') (hg : g < B) : Box w' g t v := (hb.block g hg).trans h
theorem Box.grown {row : Option Nat} (h : Box w g t v) (hb : w.grownBy w' row) (hg : some g ≠ row) : Box w' g t v := (hb.block g h.lt hg).trans h
theorem Box.not_own {base e k n : Nat} {x : Value} {xs : List Value} (h : Box w g t v) (ho : w.ownsRow base e k x n xs) (hne : e ≠ t) : some g ≠ x.ownBlock := by
  rcases ho.2 with ⟨rfl, _⟩ | ⟨g', cap, cur, rfl, _, hh, _⟩
  · simp [Value.ownBlock]
  · intro he
    have : g = g' := by simpa [Value.ownBlock] using he
    subst this
    unfold Box at h
    rw [hh] at h
    injection h with h
    injection h with _ h
    exact hne h
theorem own_setBox {base e k n : Nat} {x : Value} {xs : List Value} (ho : w.ownsRow base e k x n xs) (h : Box w g t v) (hne : e ≠ t) (u : Value) : (w.setCell ⟨g, 0, none⟩ u).ownsRow base e k x n xs := by
  refine ⟨ho.1, ?_⟩
  have hn := h.not_own ho hne
  rcases ho.2 with h2 | ⟨g', cap, cur, hv, hg, hh, r⟩
  · exact .inl h2
  · refine .inr ⟨g', cap, cur, hv, hg, (Below.heap_setCell w _ u g' ?_).trans hh, r⟩
    rintro rfl
    rw [hv] at hn
    exact hn rfl
end

/-- append(v, s...) onto a row of the call's own, whatever s is -/
theorem run_app {P : Program} (w : World) (base : Nat) (t ty e : TypeId) (i : TypeInfo) (z : Value) (size bytes : Nat) (ht : P.underlying t = some (.slice e)) (hi : P.info? e = some i) (hz : i.zero = some z)
    (hsize : i.size = size) (hby : i.bytes = bytes) (hzs : z.cells.size = size) (hsz : 0 < size)
    (v : Value) (n : Nat) (xs : List Value) (hown : w.ownsRow base e size v n xs)
    (B : Nat) (A : Option Addr) (m c : Nat) (news : List Value) (hr : Lies w B size A m news) (h1 : ∀ u ∈ news, u.oneCell' = true)
    (h63 : n + m ≤ maxLen) (hbytes : (n + m) * bytes ≤ 140737488355328) (hbase : base ≤ w.heap.size) :
    ∃ v' w', (Builtin.append_ #[t, t] ty #[v, .slice A m c]).run P w = .ok v' w' ∧ w'.ownsRow base e size v' (n + m) (xs ++ news) ∧ w.grownBy w' v.ownBlock ∧
      (v'.ownBlock = v.ownBlock ∨ v'.ownBlock = some w.heap.size) := by
  have hnone : ∀ {j : Nat} {u : Value}, news[j]? = some u → ∃ ad, A = some ad ∧ w.cell? (ad.add j) = some u := by
    intro j u hu
    obtain ⟨ad, u', e, _, hx, hc⟩ := hr.spot j (by rcases List.getElem?_eq_some_iff.1 hu with ⟨h, _⟩; exact h)
    rw [hu] at hx
    injection hx with hx
    subst hx
    exact ⟨ad, e, hc⟩
  cases A with
  | none =>
    have hl0 : news = [] := by
      cases news with
      | nil => rfl
      | cons x l => obtain ⟨ad, h, _⟩ := hnone (j := 0) (u := x) rfl; cases h
    have hm : m = 0 := by
      have := hr.len
      rw [hl0] at this
      rcases Nat.eq_zero_or_pos m with h0 | h0
      · exact h0
      · have : 0 < m * size := Nat.mul_pos h0 hsz
        simp_all
    subst hl0 hm
    refine ⟨v, w, ?_, by simpa using hown, World.grownBy.refl w _, .inl rfl⟩
    rcases hown.2 with ⟨rfl, rfl⟩ | ⟨g, cap, cur, rfl, _, _, hnc, _⟩
    · simp [Builtin.append_, run_underlying ht, sizeOf, typeInfo, hi, Builtin.lenOf, Builtin.firstCells]
    · simp [Builtin.append_, run_underlying ht, sizeOf, typeInfo, hi, Builtin.lenOf, Builtin.firstCells, hnc, storeCells]
  | some ad =>
    obtain ⟨v', w', hrun, h2, h3, _, h5⟩ := run_append_own_at (P := P) w base t ty e i z size bytes ht hi hz hsize hby hzs hsz v n xs hown ad m c news hr.len
      (fun j u hu => by obtain ⟨ad', h, hc⟩ := hnone hu; injection h with h; subst h; exact hc) h1 h63 hbytes hbase
    exact ⟨v', w', hrun, h2, h3, h5⟩

theorem wpList_app {P : Program} (w : World) {ops : Array Oper} {rest : List Oper} {o : Oper} {a : Act} {Q : Exit → Act → World → Prop} (hgd : o.guard = none) (s x : Operand) (t : TypeId)
    (ho : o.op = .call { callee := .builtin .append, args := #[s, x], argTypes := #[t, t] })
    (base : Nat) (e : TypeId) (i : TypeInfo) (z : Value) (size bytes : Nat) (ht : P.underlying t = some (.slice e)) (hi : P.info? e = some i) (hz : i.zero = some z)
    (hsize : i.size = size) (hby : i.bytes = bytes) (hzs : z.cells.size = size) (hsz : 0 < size)
    (v : Value) (n : Nat) (xs : List Value) (hs : a.eval s = v) (hown : w.ownsRow base e size v n xs)
    (B : Nat) (A : Option Addr) (m c : Nat) (news : List Value) (hx : a.eval x = .slice A m c) (hr : Lies w B size A m news) (h1 : ∀ u ∈ news, u.oneCell' = true)
    (h63 : n + m ≤ maxLen) (hbytes : (n + m) * bytes ≤ 140737488355328) (hbase : base ≤ w.heap.size)
    (h : ∀ v' w', w'.ownsRow base e size v' (n + m) (xs ++ news) → w.grownBy w' v.ownBlock → (v'.ownBlock = v.ownBlock ∨ v'.ownBlock = some w.heap.size) → wpList P ops Q rest (a.put o.dst v') w') : wpList P ops Q (o :: rest) a w := by
  refine wpList_plain hgd fun K hK => ?_
  obtain ⟨v', w', hrun, h2, h3, h4⟩ := run_app (P := P) w base t o.type e i z size bytes ht hi hz hsize hby hzs hsz v n xs hown B A m c news hr h1 h63 hbytes hbase
  unfold Oper.wp execOp
  simp only [ho, resolve, invoke, builtin, Sem.run_bind, Sem.run_pure, Result.andThen_ok, List.map_toArray, List.map_cons, List.map_nil, hs, hx, hrun]
  exact hK _ _ (h v' w' h2 h3 h4)

/-- bytes are one cell each -/
theorem bv_one (l : List UInt8) : ∀ u ∈ l.map bv, u.oneCell' = true := by
  intro u hu
  obtain ⟨c, _, rfl⟩ := List.mem_map.1 hu
  rfl

theorem byte_info : (Try.prog.info? 5).map (fun i => (i.zero, i.size, i.bytes)) = some (some (.int .u8 0), 1, 1) := by kernel_rfl

end Go.Proofs.Ytoljldokehfokaa
