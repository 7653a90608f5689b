/-
  Words about memory that all contracts of this seat use: bytes as values; a slice whose cells are known ('Lies'), nil let in; what the call itself made ('own' facts); one cell of a captured variable.
  Words about memory that contracts of all layers share: what lies in a new block; cuts of slices; what a call handed back.
  Contracts of the laws' helpers: TwinBytes.
  Contracts of the laws' helpers: LeftBytes.
  append onto a row of the call's own, whatever is appended: at a step of a region that draws its order.
  Contracts of the laws' helpers: SameBytes.
  A string that is made of bytes that lie in memory.
-/
import Derived.Test.YtbpdonnneleeeaaGreatDoorChecked
import Derived.WalkKit
import Derived.WalkSpells
import Derived.WalkLawsBesides
import Derived.Maps.AppendAt
import Derived.Deep.AppendLies
import Derived.Deep.Draws
import Derived.Deep.QuietTactic
import Derived.BigQuiet
import Derived.Lib.Hide
import Derived.KernelRfl
import Derived.IntWalk
import Derived.Deep.RegionLaw
namespace Go.Proofs.YtbpdonnneleeeaaGreatDoor
open Go.RowKit
set_option linter.unusedVariables false

/-- a byte as a value -/
abbrev bv (c : UInt8) : Value := .int .u8 (c.toNat : Int)

theorem add_block (a : Addr) (n : Nat) : (a.add n).block = a.block := by unfold Addr.add; split <;> rfl
theorem add_add (a : Addr) (i j : Nat) : (a.add i).add j = a.add (i + j) := by
  unfold Addr.add
  by_cases hi : i = 0 <;> by_cases hj : j = 0 <;> simp [hi, hj, Nat.add_assoc]
theorem add_lit (b o n : Nat) : (⟨b, o, none⟩ : Addr).add n = ⟨b, o + n, none⟩ := by
  unfold Addr.add; split
  · rename_i h; subst h; rfl
  · rfl

/-- The slice value '.slice A n c' of elements of k cells holds the cells xs, in blocks below B. -/
structure Lies (w : World) (B k : Nat) (A : Option Addr) (n : Nat) (xs : List Value) : Prop where
  len : xs.length = n * k
  spot : ∀ j, j < xs.length → ∃ ad u, A = some ad ∧ ad.block < B ∧ xs[j]? = some u ∧ w.cell? (ad.add j) = some u

section
variable {w w' : World} {B B' k n : Nat} {A : Option Addr} {xs : List Value}
theorem Lies.none_ (w : World) (B k : Nat) (A : Option Addr) : Lies w B k A 0 [] := ⟨by simp, fun j h => by simp at h⟩
theorem Lies.keep (h : Lies w B k A n xs) (hk : ∀ p : Addr, p.block < B → w'.cell? p = w.cell? p) : Lies w' B k A n xs :=
  ⟨h.len, fun j hj => by
    obtain ⟨ad, u, e, hb, hx, hc⟩ := h.spot j hj
    exact ⟨ad, u, e, hb, hx, (hk _ (by rw [add_block]; exact hb)).trans hc⟩⟩
theorem Lies.more (h : Lies w B k A n xs) (hB : B ≤ B') : Lies w B' k A n xs :=
  ⟨h.len, fun j hj => by
    obtain ⟨ad, u, e, hb, r⟩ := h.spot j hj
    exact ⟨ad, u, e, by omega, r⟩⟩
theorem Lies.below (h : Lies w B k A n xs) (hb : Below B w w') : Lies w' B k A n xs := h.keep fun _ hp => hb.cell hp
theorem Lies.drewN (h : Lies w B k A n xs) (m : Nat) : Lies (w.drewN m) B k A n xs := h.keep fun _ _ => rfl
theorem Lies.drew (h : Lies w B k A n xs) : Lies w.drew B k A n xs := h.keep fun _ _ => rfl
theorem Lies.alloc (h : Lies w B k A n xs) (hB : B ≤ w.heap.size) (o : Obj) : Lies (w.alloc o) B k A n xs := h.keep fun p hp => World.cell?_alloc_lt w o p (by omega)
theorem Lies.setCell (h : Lies w B k A n xs) {p : Addr} (hB : B ≤ p.block) (u : Value) : Lies (w.setCell p u) B k A n xs :=
  h.keep fun q hq => World.cell?_setCell_other w p q u (fun e => by subst e; omega)
theorem Lies.at_ (h : Lies w B 1 A n xs) {j : Nat} (hj : j < n) : ∃ b o u, A = some ⟨b, o, none⟩ ∧ b < B ∧ xs[j]? = some u ∧ w.cell? ⟨b, o + j, none⟩ = some u := by
  obtain ⟨ad, u0, e, hb, hx0, hc0⟩ := h.spot 0 (by have := h.len; omega)
  obtain ⟨ad', u, e', _, hx, hc⟩ := h.spot j (by have := h.len; omega)
  obtain ⟨b, o, sp⟩ := ad
  have hsp : sp = none := by simpa [Addr.add] using World.cell?_spot hc0
  subst hsp
  rw [e] at e'
  injection e' with e'
  subst e'
  rw [add_lit] at hc
  exact ⟨b, o, u, e, hb, hx, hc⟩
theorem Lies.take_ (h : Lies w B 1 A n xs) {m : Nat} (hm : m ≤ n) : Lies w B 1 A m (xs.take m) := by
  refine ⟨by have := h.len; simp; omega, fun j hj => ?_⟩
  have hj' : j < m := by simp at hj; omega
  obtain ⟨ad, u, e, hb, hx, hc⟩ := h.spot j (by have := h.len; omega)
  exact ⟨ad, u, e, hb, by rw [List.getElem?_take, if_pos hj']; exact hx, hc⟩
theorem Lies.drop_ (h : Lies w B 1 A n xs) {m : Nat} (hm : m ≤ n) : Lies w B 1 (A.map (·.add m)) (n - m) (xs.drop m) := by
  refine ⟨by have := h.len; simp; omega, fun j hj => ?_⟩
  obtain ⟨ad, u, rfl, hb, hx, hc⟩ := h.spot (m + j) (by simp at hj; omega)
  exact ⟨ad.add m, u, rfl, by rw [add_block]; exact hb, by rw [List.getElem?_drop]; exact hx, by rw [add_add]; exact hc⟩
/-- a cut 's[m:]' as the model has it: at the capacity the address stays -/
theorem Lies.cut (h : Lies w B 1 A n xs) {m c : Nat} (hm : m ≤ n) (hc : n ≤ c) : Lies w B 1 (if c = m then A else A.map (·.add m)) (n - m) (xs.drop m) := by
  by_cases e : c = m
  · rw [if_pos e]
    have : n - m = 0 := by omega
    rw [this, List.drop_eq_nil_of_le (by have := h.len; omega)]
    exact Lies.none_ _ _ _ _
  · rw [if_neg e]; exact h.drop_ hm
theorem Lies.nil_of (h : Lies w B 1 none n xs) : n = 0 ∧ xs = [] := by
  have h0 : xs.length = 0 := by
    rcases Nat.eq_zero_or_pos xs.length with h0 | h0
    · exact h0
    · obtain ⟨ad, u, e, _⟩ := h.spot 0 h0
      cases e
  exact ⟨by have := h.len; omega, List.eq_nil_of_length_eq_zero h0⟩
/-- what the call owns lies in the heap -/
theorem Lies.of_own {base e c : Nat} (h : w.ownsRow base e k (.slice A n c) n xs) : Lies w w.heap.size k A n xs := by
  refine ⟨h.1, fun j hj => ?_⟩
  have hn : 0 < n := by
    rcases Nat.eq_zero_or_pos n with h0 | h0
    · have := h.1; rw [h0, Nat.zero_mul] at this; omega
    · exact h0
  rcases h.2 with ⟨_, rfl⟩ | ⟨g, cap, cur, hv, _, hh, _⟩
  · omega
  · injection hv with hv _ _
    subst hv
    refine ⟨_, xs[j], rfl, (Array.getElem?_eq_some_iff.1 hh).1, List.getElem?_eq_getElem hj, ?_⟩
    exact h.cells (g := g) rfl j _ (List.getElem?_eq_getElem hj)
end

/-- the shape of an owned value -/
theorem own_shape {w : World} {base e k n : Nat} {v : Value} {xs : List Value} (h : w.ownsRow base e k v n xs) :
    ∃ A c, v = .slice A n c ∧ n ≤ c ∧ c ≤ maxLen ∧ (A = none → c = 0) ∧ ∀ ad, A = some ad → base ≤ ad.block ∧ ad.block < w.heap.size := by
  rcases h.2 with ⟨rfl, rfl⟩ | ⟨g, cap, cur, rfl, hb, hh, h1, h2, _⟩
  · exact ⟨none, 0, rfl, Nat.le_refl _, Nat.zero_le _, fun _ => rfl, (fun ad h => by cases h)⟩
  · refine ⟨some ⟨g, 0, none⟩, cap, rfl, h1, h2, (fun h => by cases h), ?_⟩
    intro ad had
    injection had with had
    subst had
    exact ⟨hb, (Array.getElem?_eq_some_iff.1 hh).1⟩

theorem below_drewN {B : Nat} {a w : World} (h : Below B a w) (n : Nat) : Below B a (w.drewN n) := ⟨h.os, h.tape, h.output, h.size, h.block⟩
/-- what is owned stays owned where everything below the heap's end stays -/
theorem own_below {w w' : World} {base e k n : Nat} {v : Value} {xs : List Value} (h : w.ownsRow base e k v n xs) (hb : Below w.heap.size w w') : w'.ownsRow base e k v n xs := by
  refine ⟨h.1, ?_⟩
  rcases h.2 with h2 | ⟨g, cap, cur, hv, hg, hh, r⟩
  · exact .inl h2
  · exact .inr ⟨g, cap, cur, hv, hg, (hb.block g (Array.getElem?_eq_some_iff.1 hh).1).trans hh, r⟩
theorem own_base {w : World} {base base' e k n : Nat} {v : Value} {xs : List Value} (h : w.ownsRow base e k v n xs) (hb : base' ≤ base) : w.ownsRow base' e k v n xs := by
  refine ⟨h.1, ?_⟩
  rcases h.2 with h2 | ⟨g, cap, cur, hv, hg, r⟩
  · exact .inl h2
  · exact .inr ⟨g, cap, cur, hv, Nat.le_trans hb hg, r⟩

/-- a variable that a closure holds: a block of one cell -/
def Box (w : World) (g : Nat) (t : TypeId) (v : Value) : Prop := w.heap[g]? = some (.cells #[v] t (0, 0))
section
variable {w w' : World} {g : Nat} {t : TypeId} {v : Value}
theorem Box.lt (h : Box w g t v) : g < w.heap.size := (Array.getElem?_eq_some_iff.1 h).1
theorem Box.cell (h : Box w g t v) : w.cell? ⟨g, 0, none⟩ = some v := cell_of_row w g 0 #[v] t (0, 0) h
theorem Box.frozen (h : Box w g t v) : w.frozen? ⟨g, 0, none⟩ = false := by
  unfold Box at h
  simp [World.frozen?, h]
theorem Box.new (w : World) (t : TypeId) (v : Value) : Box (w.alloc (.cells #[v] t)) w.heap.size t v := heap_alloc_new w _
theorem Box.alloc (h : Box w g t v) (o : Obj) : Box (w.alloc o) g t v := (Below.heap_alloc w o g h.lt).trans h
theorem Box.set (h : Box w g t v) (u : Value) : Box (w.setCell ⟨g, 0, none⟩ u) g t u := by
  unfold Box at h ⊢
  simp [World.setCell, Array.getElem?_modify, h]
theorem Box.far (h : Box w g t v) {p : Addr} (hp : g ≠ p.block) (u : Value) : Box (w.setCell p u) g t v := (Below.heap_setCell w p u g hp).trans h
theorem Box.below {B : Nat} (h : Box w g t v) (hb : Below B w w') (hg : g < B) : Box w' g t v := (hb.block g hg).trans h
theorem Box.grown {row : Option Nat} (h : Box w g t v) (hb : w.grownBy w' row) (hg : some g ≠ row) : Box w' g t v := (hb.block g h.lt hg).trans h
theorem Box.not_own {base e k n : Nat} {x : Value} {xs : List Value} (h : Box w g t v) (ho : w.ownsRow base e k x n xs) (hne : e ≠ t) : some g ≠ x.ownBlock := by
  rcases ho.2 with ⟨rfl, _⟩ | ⟨g', cap, cur, rfl, _, hh, _⟩
  · simp [Value.ownBlock]
  · intro he
    have : g = g' := by simpa [Value.ownBlock] using he
    subst this
    unfold Box at h
    rw [hh] at h
    injection h with h
    injection h with _ h
    exact hne h
theorem own_setBox {base e k n : Nat} {x : Value} {xs : List Value} (ho : w.ownsRow base e k x n xs) (h : Box w g t v) (hne : e ≠ t) (u : Value) : (w.setCell ⟨g, 0, none⟩ u).ownsRow base e k x n xs := by
  refine ⟨ho.1, ?_⟩
  have hn := h.not_own ho hne
  rcases ho.2 with h2 | ⟨g', cap, cur, hv, hg, hh, r⟩
  · exact .inl h2
  · refine .inr ⟨g', cap, cur, hv, hg, (Below.heap_setCell w _ u g' ?_).trans hh, r⟩
    rintro rfl
    rw [hv] at hn
    exact hn rfl
end

/-- append(v, s...) onto a row of the call's own, whatever s is -/
theorem run_app {P : Program} (w : World) (base : Nat) (t ty e : TypeId) (i : TypeInfo) (z : Value) (size bytes : Nat) (ht : P.underlying t = some (.slice e)) (hi : P.info? e = some i) (hz : i.zero = some z)
    (hsize : i.size = size) (hby : i.bytes = bytes) (hzs : z.cells.size = size) (hsz : 0 < size)
    (v : Value) (n : Nat) (xs : List Value) (hown : w.ownsRow base e size v n xs)
    (B : Nat) (A : Option Addr) (m c : Nat) (news : List Value) (hr : Lies w B size A m news) (h1 : ∀ u ∈ news, u.oneCell' = true)
    (h63 : n + m ≤ maxLen) (hbytes : (n + m) * bytes ≤ 140737488355328) (hbase : base ≤ w.heap.size) :
    ∃ v' w', (Builtin.append_ #[t, t] ty #[v, .slice A m c]).run P w = .ok v' w' ∧ w'.ownsRow base e size v' (n + m) (xs ++ news) ∧ w.grownBy w' v.ownBlock ∧
      (v'.ownBlock = v.ownBlock ∨ v'.ownBlock = some w.heap.size) := by
  have hnone : ∀ {j : Nat} {u : Value}, news[j]? = some u → ∃ ad, A = some ad ∧ w.cell? (ad.add j) = some u := by
    intro j u hu
    obtain ⟨ad, u', e, _, hx, hc⟩ := hr.spot j (by rcases List.getElem?_eq_some_iff.1 hu with ⟨h, _⟩; exact h)
    rw [hu] at hx
    injection hx with hx
    subst hx
    exact ⟨ad, e, hc⟩
  cases A with
  | none =>
    have hl0 : news = [] := by
      cases news with
      | nil => rfl
      | cons x l => obtain ⟨ad, h, _⟩ := hnone (j := 0) (u := x) rfl; cases h
    have hm : m = 0 := by
      have := hr.len
      rw [hl0] at this
      rcases Nat.eq_zero_or_pos m with h0 | h0
      · exact h0
      · have : 0 < m * size := Nat.mul_pos h0 hsz
        simp_all
    subst hl0 hm
    refine ⟨v, w, ?_, by simpa using hown, World.grownBy.refl w _, .inl rfl⟩
    rcases hown.2 with ⟨rfl, rfl⟩ | ⟨g, cap, cur, rfl, _, _, hnc, _⟩
    · simp [Builtin.append_, run_underlying ht, sizeOf, typeInfo, hi, Builtin.lenOf, Builtin.firstCells]
    · simp [Builtin.append_, run_underlying ht, sizeOf, typeInfo, hi, Builtin.lenOf, Builtin.firstCells, hnc, storeCells]
  | some ad =>
    obtain ⟨v', w', hrun, h2, h3, _, h5⟩ := run_append_own_at (P := P) w base t ty e i z size bytes ht hi hz hsize hby hzs hsz v n xs hown ad m c news hr.len
      (fun j u hu => by obtain ⟨ad', h, hc⟩ := hnone hu; injection h with h; subst h; exact hc) h1 h63 hbytes hbase
    exact ⟨v', w', hrun, h2, h3, h5⟩

theorem wpList_app {P : Program} (w : World) {ops : Array Oper} {rest : List Oper} {o : Oper} {a : Act} {Q : Exit → Act → World → Prop} (hgd : o.guard = none) (s x : Operand) (t : TypeId)
    (ho : o.op = .call { callee := .builtin .append, args := #[s, x], argTypes := #[t, t] })
    (base : Nat) (e : TypeId) (i : TypeInfo) (z : Value) (size bytes : Nat) (ht : P.underlying t = some (.slice e)) (hi : P.info? e = some i) (hz : i.zero = some z)
    (hsize : i.size = size) (hby : i.bytes = bytes) (hzs : z.cells.size = size) (hsz : 0 < size)
    (v : Value) (n : Nat) (xs : List Value) (hs : a.eval s = v) (hown : w.ownsRow base e size v n xs)
    (B : Nat) (A : Option Addr) (m c : Nat) (news : List Value) (hx : a.eval x = .slice A m c) (hr : Lies w B size A m news) (h1 : ∀ u ∈ news, u.oneCell' = true)
    (h63 : n + m ≤ maxLen) (hbytes : (n + m) * bytes ≤ 140737488355328) (hbase : base ≤ w.heap.size)
    (h : ∀ v' w', w'.ownsRow base e size v' (n + m) (xs ++ news) → w.grownBy w' v.ownBlock → (v'.ownBlock = v.ownBlock ∨ v'.ownBlock = some w.heap.size) → wpList P ops Q rest (a.put o.dst v') w') : wpList P ops Q (o :: rest) a w := by
  refine wpList_plain hgd fun K hK => ?_
  obtain ⟨v', w', hrun, h2, h3, h4⟩ := run_app (P := P) w base t o.type e i z size bytes ht hi hz hsize hby hzs hsz v n xs hown B A m c news hr h1 h63 hbytes hbase
  unfold Oper.wp execOp
  simp only [ho, resolve, invoke, builtin, Sem.run_bind, Sem.run_pure, Result.andThen_ok, List.map_toArray, List.map_cons, List.map_nil, hs, hx, hrun]
  exact hK _ _ (h v' w' h2 h3 h4)

/-- bytes are one cell each -/
theorem bv_one (l : List UInt8) : ∀ u ∈ l.map bv, u.oneCell' = true := by
  intro u hu
  obtain ⟨c, _, rfl⟩ := List.mem_map.1 hu
  rfl

theorem byte_info : (Tryz.prog.info? 5).map (fun i => (i.zero, i.size, i.bytes)) = some (some (.int .u8 0), 1, 1) := by kernel_rfl

end Go.Proofs.YtbpdonnneleeeaaGreatDoor

namespace Go.Proofs.YtbpdonnneleeeaaGreatDoor
open Go.RowKit
set_option linter.unusedVariables false

theorem bv_ofNat (n : Nat) (h : n < 256) : bv (UInt8.ofNat n) = .int .u8 (n : Int) := by
  unfold bv; rw [show (UInt8.ofNat n).toNat = n from by rw [UInt8.toNat_ofNat']; omega]
theorem one_lies {w : World} {g : Nat} (hg : g = w.heap.size) (v : Value) (t : TypeId) : Lies (w.alloc (.cells #[v] t)) (g + 1) 1 (some ⟨g, 0, none⟩) 1 [v] := by
  subst hg
  refine ⟨rfl, fun j hj => ⟨_, v, rfl, by simp, ?_, ?_⟩⟩
  · have : j = 0 := by simpa using hj
    subst this; rfl
  · have : j = 0 := by simpa using hj
    subst this
    exact (Box.new w t v).cell
def lenV : Value → Nat | .slice _ n _ => n | _ => 0
@[simp] theorem lenV_slice (A : Option Addr) (n c : Nat) : lenV (.slice A n c) = n := rfl
/-- four values that a literal lays -/
theorem lits_lie {w : World} {g : Nat} (hg : g = w.heap.size) (vs : List Value) (t : TypeId) : Lies (w.alloc (.cells vs.toArray t)) (g + 1) 1 (some ⟨g, 0, none⟩) vs.length vs := by
  subst hg
  refine ⟨by simp, fun j hj => ⟨_, vs[j], rfl, by simp, List.getElem?_eq_getElem hj, ?_⟩⟩
  rw [add_lit]
  have h : (w.alloc (.cells vs.toArray t)).heap[w.heap.size]? = some (.cells vs.toArray t (0, 0)) := heap_alloc_new w _
  rw [Nat.zero_add, cell_of_row _ w.heap.size j vs.toArray t (0, 0) h]
  simp [hj]
/-- a byte of a list that lies in memory -/
theorem Lies.byte {w : World} {B n k : Nat} {A : Option Addr} {l : List UInt8} (h : Lies w B 1 A n (l.map bv)) (hk : k < n) :
    ∃ b o x, A = some ⟨b, o, none⟩ ∧ b < B ∧ l[k]? = some x ∧ w.cell? ⟨b, o + k, none⟩ = some (.int .u8 (x.toNat : Int)) := by
  obtain ⟨b, o, u, e, hb, hu, hc⟩ := h.at_ hk
  rw [List.getElem?_map] at hu
  cases hx : l[k]? with
  | none => rw [hx] at hu; cases hu
  | some x =>
    rw [hx] at hu
    injection hu with hu
    subst hu
    exact ⟨b, o, x, e, hb, rfl, hc⟩
theorem Lies.blen {w : World} {B n : Nat} {A : Option Addr} {l : List UInt8} (h : Lies w B 1 A n (l.map bv)) : l.length = n := by have := h.len; simp at this; exact this
/-- a slice of bytes that was answered: its length, its capacity, its bytes, in new memory -/
def Got (w : World) (n : Nat) (l : List UInt8) (e : Ending) (w' : World) : Prop :=
  ∃ A c, e = .returned (.slice A n c) ∧ n ≤ c ∧ c ≤ maxLen ∧ w'.ownsRow w.heap.size 5 1 (.slice A n c) n (l.map bv) ∧ Below w.heap.size w w'
theorem got_of {w w' : World} {v : Value} {n : Nat} {l : List UInt8} (h : w'.ownsRow w.heap.size 5 1 v n (l.map bv)) (hb : Below w.heap.size w w') : Got w n l (.returned v) w' := by
  obtain ⟨A, c, rfl, h1, h2, _⟩ := own_shape h
  exact ⟨A, c, rfl, h1, h2, h, hb⟩
/-- the same, of at least one byte: its address is known -/
def GotS (w : World) (n : Nat) (l : List UInt8) (e : Ending) (w' : World) : Prop :=
  ∃ g c, e = .returned (.slice (some ⟨g, 0, none⟩) n c) ∧ n ≤ c ∧ c ≤ maxLen ∧ w'.ownsRow w.heap.size 5 1 (.slice (some ⟨g, 0, none⟩) n c) n (l.map bv) ∧ Below w.heap.size w w'
theorem gotS_of {w w' : World} {v : Value} {n : Nat} {l : List UInt8} (hn : 0 < n) (h : w'.ownsRow w.heap.size 5 1 v n (l.map bv)) (hb : Below w.heap.size w w') : GotS w n l (.returned v) w' := by
  have h' := h
  rcases h'.2 with ⟨_, h0⟩ | ⟨g, cap, cur, rfl, _, _, h1, h2, _⟩
  · omega
  · exact ⟨g, cap, rfl, h1, h2, h, hb⟩
/-- a copy: what it owns, without its mark -/
theorem own_less {w : World} {base e n c g : Nat} {xs : List Value} {u : Value} (h : w.ownsRow base e 1 (.slice (some ⟨g, 0, none⟩) (n + 1) c) (n + 1) (xs ++ [u])) : w.ownsRow base e 1 (.slice (some ⟨g, 0, none⟩) n c) n xs := by
  have hl : xs.length = n := by have := h.1; simp at this; omega
  refine ⟨by omega, ?_⟩
  rcases h.2 with ⟨h0, _⟩ | ⟨g', cap, cur, hv, hb, hh, h1, h2, h3, h4⟩
  · cases h0
  · injection hv with e1 e2 e3
    injection e1 with e1
    injection e1 with e1
    subst e1 e3
    refine .inr ⟨g, c, cur, rfl, hb, hh, by omega, h2, h3, ?_⟩
    rw [Nat.mul_one]
    have h5 : cur.toList.take n = (cur.toList.take ((n + 1) * 1)).take n := by rw [List.take_take]; congr 1; omega
    rw [h5, h4, List.take_append_of_le_length (by omega), List.take_of_length_le (by omega)]
/-- where 's[l:]' lies -/
def cutA (A : Option Addr) (c l : Nat) : Option Addr := if c = l then A else A.map (·.add l)
theorem run_cut (w : World) (A : Option Addr) (n c l : Nat) (h : l ≤ n) :
    (Instr.slice 46 (.slice A n c) (some (.int .i64 (l : Int))) none none).run Tryz.prog w = .ok (.slice (cutA A c l) (n - l) (c - l)) w := by
  obtain ⟨i0, hi, hz0, hz1, hz2⟩ := info_parts byte_info
  unfold Instr.slice cutA
  simp [run_underlying Tryz.underlying46, Instr.sliceBounds, Instr.sliceBound, asIntOf, sizeOf, typeInfo, hi, hz1, h]
theorem Lies.cutA {w : World} {B n : Nat} {A : Option Addr} {l : List UInt8} (h : Lies w B 1 A n (l.map bv)) {m c : Nat} (hm : m ≤ n) (hc : n ≤ c) : Lies w B 1 (cutA A c m) (n - m) ((l.drop m).map bv) := by
  rw [List.map_drop]; exact h.cut hm hc
/-- what was answered lies there still -/
theorem got_lies {w w1 : World} {A : Option Addr} {n c base : Nat} {l : List UInt8} (h : w.ownsRow base 5 1 (.slice A n c) n (l.map bv)) (hb : Below w.heap.size w w1) : Lies w1 w1.heap.size 1 A n (l.map bv) :=
  ((Lies.of_own h).below hb).more hb.size
theorem lies_take {w : World} {A : Option Addr} {n B m : Nat} {l : List UInt8} (h : Lies w B 1 A n (l.map bv)) (hm : m ≤ n) : Lies w B 1 A m ((l.take m).map bv) := by
  rw [List.map_take]; exact h.take_ hm
theorem lit_lies (w : World) (l : List UInt8) : Lies (w.alloc (.cells (l.map bv).toArray 5)) (w.alloc (.cells (l.map bv).toArray 5)).heap.size 1 (some ⟨w.heap.size, 0, none⟩) l.length (l.map bv) := by
  have h := lits_lie (w := w) rfl (l.map bv) 5
  simp at h ⊢
  exact h
theorem lit_below (w : World) (o : Obj) {w' : World} (h : Below (w.alloc o).heap.size (w.alloc o) w') : Below w.heap.size w w' :=
  ((Below.refl _ _).alloc (Nat.le_refl _) o).trans (h.mono (by simp))
theorem lit_lies_fz (w : World) (l : List UInt8) (fz : Nat × Nat) : Lies (w.alloc (.cells (l.map bv).toArray 5 fz)) (w.alloc (.cells (l.map bv).toArray 5 fz)).heap.size 1 (some ⟨w.heap.size, 0, none⟩) l.length (l.map bv) := by
  refine ⟨by simp, fun j hj => ⟨_, (l.map bv)[j], rfl, by simp, List.getElem?_eq_getElem hj, ?_⟩⟩
  rw [add_lit]
  have h : (w.alloc (.cells (l.map bv).toArray 5 fz)).heap[w.heap.size]? = some (.cells (l.map bv).toArray 5 fz) := heap_alloc_new w _
  rw [Nat.zero_add, cell_of_row _ w.heap.size j (l.map bv).toArray 5 fz h, List.getElem?_toArray]
  exact List.getElem?_eq_getElem hj
end Go.Proofs.YtbpdonnneleeeaaGreatDoor

namespace Go.Proofs.YtbpdonnneleeeaaGreatDoor
open Go.RowKit
set_option linter.unusedVariables false

set_option maxHeartbeats 2000000 in
/-- a copy in memory of its own, with a mark in the room behind -/
theorem twin_any (A : Option Addr) (n c : Nat) (l : List UInt8) (w : World) (h : Lies w w.heap.size 1 A n (l.map bv)) (hn : n ≤ 1099511627776) :
    Calls Tryz.prog 8 #[.slice A n c] w fun e w' => ∃ g c', e = .returned (.slice (some ⟨g, 0, none⟩) n c') ∧ w'.ownsRow w.heap.size 5 1 (.slice (some ⟨g, 0, none⟩) (n + 1) c') (n + 1) ((l ++ [77]).map bv) ∧ Below w.heap.size w w' := by
  obtain ⟨i0, hi, hz0, hz1, hz2⟩ := info_parts byte_info
  have HN := Lib.hid h; clear h
  go_enter Tryz.func8, Tryz.ntmps8
  go_wp2_with (at_make; refine wpList_make_own _ rfl _ _ 46 rfl w.heap.size 5 i0 _ 1 Tryz.underlying46 hi hz0 hz1 _ _ _ (n + 1) rfl rfl (by omega) (by rw [hz2]; omega) (by unfold maxLen; omega) (Nat.le_refl _) ?_; intro w1 hown1 hgrow1)
  have hb1 : Below w.heap.size w w1 := (Below.refl _ _).grown hgrow1 (Nat.le_refl _) (by simp)
  clear hgrow1
  go_loopw [3, 4] (fun v i wr => ∃ k : Nat, k ≤ n ∧ i = .int .i64 (k : Int) ∧ wr.ownsRow w.heap.size 5 1 v k ((l.take k).map bv) ∧ Below w.heap.size w wr) (fun _ i _ => n - (intOf i).toNat)
  case atStart => exact ⟨0, Nat.zero_le _, rfl, hown1, hb1⟩
  case round =>
    clear hown1 hb1
    obtain ⟨k, hk, rfl, hown, hb⟩ := hrel
    have hbs := hb.size
    obtain ⟨A1, c1, rfl, hnc1, hcm1, hA1⟩ := own_shape hown
    by_cases hlt : k < n
    · obtain ⟨b, o, x, rfl, hbB, hx, hc0⟩ := HN.out.byte hlt
      have hcell : wr.cell? ⟨b, o + k, none⟩ = some (.int .u8 (x.toNat : Int)) := (hb.cell hbB).trans hc0
      have HX := Lib.hid (show l.take (k + 1) = l.take k ++ [x] from by rw [List.take_add_one, hx]; rfl)
      have hxl := x.toNat_lt
      clear hc0 hx
      go_wp2_with (at_builtin; refine wpList_app _ rfl (.tmp 15) (.tmp 20) 46 rfl w.heap.size 5 i0 _ 1 1 Tryz.underlying46 hi hz0 hz1 hz2 rfl (by decide) (.slice A1 k c1) k ((l.take k).map bv) rfl (hown.alloc _) (wr.heap.size + 1) (some ⟨wr.heap.size, 0, none⟩) 1 1 [.int .u8 (x.toNat : Int)] rfl ?c1 ?c2 ?c3 ?c4 ?c5 ?_)
      case c1 => exact one_lies rfl _ _
      case c2 => intro u hu; simp at hu; subst hu; rfl
      case c3 => unfold maxLen; omega
      case c4 => omega
      case c5 => simp; omega
      intro v2 w2 hown2 hg2 _
      have hb2 : Below w.heap.size w w2 := (hb.alloc hbs _).grown hg2 (by simp; omega) (fun j hj => (hown.lt j hj).1)
      have hown3 : w2.ownsRow w.heap.size 5 1 v2 (k + 1) ((l.take (k + 1)).map bv) := by rw [HX.out, List.map_append, List.map_take]; exact hown2
      clear hown2 hg2 hown HX
      go_wp2
      go_roundw
      case rel => exact ⟨k + 1, hlt, by go_num, hown3, hb2⟩
      case measure => simp [intOf]; omega
    · obtain rfl : n = k := by omega
      have hl : l.take n = l := List.take_of_length_le (by have := HN.out.blen; omega)
      rw [hl] at hown
      go_wp2_with (at_builtin; refine wpList_app _ rfl (.tmp 22) (.tmp 23) 46 rfl w.heap.size 5 i0 _ 1 1 Tryz.underlying46 hi hz0 hz1 hz2 rfl (by decide) (.slice A1 n c1) n (l.map bv) rfl (hown.alloc _) (wr.heap.size + 1) (some ⟨wr.heap.size, 0, none⟩) 1 1 [.int .u8 77] rfl ?d1 ?d2 ?d3 ?d4 ?d5 ?_)
      case d1 => exact one_lies rfl _ _
      case d2 => intro u hu; simp at hu; subst hu; rfl
      case d3 => unfold maxLen; omega
      case d4 => omega
      case d5 => simp; omega
      intro v2 w2 hown2 hg2 _
      have hb2 : Below w.heap.size w w2 := (hb.alloc hbs _).grown hg2 (by simp; omega) (fun j hj => (hown.lt j hj).1)
      have hown3 : w2.ownsRow w.heap.size 5 1 v2 (n + 1) ((l ++ [77]).map bv) := by rw [List.map_append]; exact hown2
      clear hown2 hg2 hown
      obtain ⟨g, c2, rfl, hnc2, hcm2⟩ : ∃ g c2, v2 = .slice (some ⟨g, 0, none⟩) (n + 1) c2 ∧ n + 1 ≤ c2 ∧ c2 ≤ maxLen := by
        rcases hown3.2 with ⟨_, h0⟩ | ⟨g, cap, cur, rfl, _, _, h1, h2, _⟩
        · omega
        · exact ⟨g, cap, rfl, h1, h2⟩
      unfold maxLen at hcm2
      go_wp2
      go_ret
      exact ⟨g, c2, rfl, hown3, hb2⟩
theorem twin_own (A : Option Addr) (n c : Nat) (l : List UInt8) (w : World) (h : Lies w w.heap.size 1 A n (l.map bv)) (hn : n ≤ 1099511627776) :
    Calls Tryz.prog 8 #[.slice A n c] w fun e w' => GotS w n l e w' :=
  (twin_any A n c l w h hn).mono fun e w' ⟨g, c', he, ho, hb⟩ => by
    have ho2 := ho
    rcases ho2.2 with ⟨h0, _⟩ | ⟨g', cap, cur, hv, _, hh, h1, h2, h3, h4⟩
    · cases h0
    injection hv with _ _ e3
    subst e3
    rw [List.map_append] at ho
    exact ⟨g, c', he, by omega, h2, own_less ho, hb⟩


end Go.Proofs.YtbpdonnneleeeaaGreatDoor

namespace Go.Proofs.YtbpdonnneleeeaaGreatDoor
open Go.RowKit
set_option linter.unusedVariables false

set_option maxHeartbeats 2000000 in
/-- a copy that nobody touched is still what it was made of, its mark too -/
theorem left_any (A : Option Addr) (g og n c c2 B : Nat) (l : List UInt8) (w : World) (h1 : Lies w B 1 (some ⟨g, og, none⟩) (n + 1) ((l ++ [77]).map bv)) (hc1 : n + 1 ≤ c) (hc2 : c ≤ maxLen) (h2 : Lies w B 1 A n (l.map bv)) :
    Calls Tryz.prog 32 #[.slice (some ⟨g, og, none⟩) n c, .slice A n c2] w fun e w' => e = .returned (.bool true) ∧ ∃ q, w' = w.drewN q := by
  unfold maxLen at hc2
  have H1 := Lib.hid h1; clear h1
  have H2 := Lib.hid h2; clear h2
  have hne : ((n : Int) != (n : Int)) = false := by simp
  have hle : decide ((c : Int) ≤ (n : Int)) = false := by simp; omega
  have hle2 : decide (c ≤ n) = false := by simp; omega
  go_enter Tryz.func32, Tryz.ntmps32
  go_wp2
  go_loopw [5] (fun i wr => ∃ k q : Nat, k ≤ n ∧ i = .int .i64 (k : Int) ∧ wr = w.drewN q) (fun i _ => n - (intOf i).toNat)
  case atStart => exact ⟨0, 0, Nat.zero_le _, rfl, rfl⟩
  case round =>
    obtain ⟨k, q, hk, rfl, rfl⟩ := hrel
    by_cases hlt : k < n
    · obtain ⟨b, o, x, hbo, _, hx, hc1'⟩ := H1.out.byte (k := k) (by omega)
      injection hbo with hbo
      injection hbo with hb0 ho0
      subst hb0 ho0
      obtain ⟨b2, o2, y, rfl, _, hy, hc2'⟩ := H2.out.byte hlt
      have hxy : x = y := by
        rw [List.getElem?_append_left (by have := H2.out.blen; omega), hy] at hx
        injection hx with hx
        exact hx.symm
      subst hxy
      have hi : (k : Int) < (n : Int) := by omega
      have hi0 : (0 : Int) ≤ (k : Int) := by omega
      have hbq : ((x.toNat : Int) != (x.toNat : Int)) = false := by simp
      have hl1 := x.toNat_lt
      generalize x.toNat = xn at *
      clear hx hy
      go_wp2
      go_quiet (fail)
      go_wp2
      go_roundw
      case rel => exact ⟨k + 1, _, hlt, by go_num, by first | rfl | (rw [World.drewN_drewN])⟩
      case measure => simp [intOf]; omega
    · obtain ⟨b, o, x, hbo, _, hx, hc1'⟩ := H1.out.byte (k := n) (by omega)
      injection hbo with hbo
      injection hbo with hb0 ho0
      subst hb0 ho0
      have hx77 : x = 77 := by
        rw [List.getElem?_append_right (by have := H2.out.blen; omega), H2.out.blen] at hx
        simp at hx
        exact hx.symm
      subst hx77
      have hc77 : w.cell? ⟨g, og + n, none⟩ = some (.int .u8 77) := hc1'
      clear hx hc1'
      go_wp2
      go_ret
      exact ⟨rfl, _, rfl⟩
end Go.Proofs.YtbpdonnneleeeaaGreatDoor

namespace Go.Proofs.YtbpdonnneleeeaaGreatDoor
open Go.RowKit
set_option linter.unusedVariables false


/-- append(v, s...) as a step of a region that draws -/
theorem step_app {P : Program} (w : World) {ops : Array Oper} {o : Oper} {a : Act} {K : Act → World → Prop} {Q : Exit → Act → World → Prop} {E : Prop} (hgd : o.guard = none) (s x : Operand) (t : TypeId)
    (ho : o.op = .call { callee := .builtin .append, args := #[s, x], argTypes := #[t, t] })
    (base : Nat) (e : TypeId) (i : TypeInfo) (z : Value) (size bytes : Nat) (ht : P.underlying t = some (.slice e)) (hi : P.info? e = some i) (hz : i.zero = some z)
    (hsize : i.size = size) (hby : i.bytes = bytes) (hzs : z.cells.size = size) (hsz : 0 < size)
    (v : Value) (n : Nat) (xs : List Value) (hs : a.eval s = v) (hown : w.ownsRow base e size v n xs)
    (B : Nat) (A : Option Addr) (m c : Nat) (news : List Value) (hx : a.eval x = .slice A m c) (hr : Lies w B size A m news) (h1 : ∀ u ∈ news, u.oneCell' = true)
    (h63 : n + m ≤ maxLen) (hbytes : (n + m) * bytes ≤ 140737488355328) (hbase : base ≤ w.heap.size)
    (h : ∀ v' w', w'.ownsRow base e size v' (n + m) (xs ++ news) → w.grownBy w' v.ownBlock → (v'.ownBlock = v.ownBlock ∨ v'.ownBlock = some w.heap.size) → K (a.put o.dst v') w') :
    if Region.wanted o (yielded ops a.tmps) = true then Oper.wp P o a w K Q else E := by
  have hw : Region.wanted o (yielded ops a.tmps) = true := by simp [Region.wanted, hgd]
  rw [if_pos hw]
  obtain ⟨v', w', hrun, h2, h3, h4⟩ := run_app (P := P) w base t o.type e i z size bytes ht hi hz hsize hby hzs hsz v n xs hown B A m c news hr h1 h63 hbytes hbase
  unfold Oper.wp execOp
  simp only [ho, resolve, invoke, builtin, Sem.run_bind, Sem.run_pure, Result.andThen_ok, List.map_toArray, List.map_cons, List.map_nil, hs, hx, hrun]
  exact h v' w' h2 h3 h4
end Go.Proofs.YtbpdonnneleeeaaGreatDoor

namespace Go.Proofs.YtbpdonnneleeeaaGreatDoor
open Go.RowKit
set_option linter.unusedVariables false

/-- are two lists of bytes the same? -/
def sameB (a b : List UInt8) : Bool := decide (a = b)
theorem sameB_self (a : List UInt8) : sameB a a = true := by simp [sameB]

set_option maxHeartbeats 2000000 in
theorem same_any (A A2 : Option Addr) (n m c c2 B : Nat) (l l2 : List UInt8) (w : World) (h1 : Lies w B 1 A n (l.map bv)) (h2 : Lies w B 1 A2 m (l2.map bv)) (hn : n ≤ 4611686018427387904) :
    Calls Tryz.prog 19 #[.slice A n c, .slice A2 m c2] w fun e w' => e = .returned (.bool (sameB l l2)) ∧ ∃ q, w' = w.drewN q := by
  have H1 := Lib.hid h1; clear h1
  have H2 := Lib.hid h2; clear h2
  by_cases hnm : n = m
  · subst hnm
    have hne : ((n : Int) != (n : Int)) = false := by simp
    go_enter Tryz.func19, Tryz.ntmps19
    go_wp2
    go_loopw [5] (fun i wr => ∃ k q : Nat, k ≤ n ∧ i = .int .i64 (k : Int) ∧ l.take k = l2.take k ∧ wr = w.drewN q) (fun i _ => n - (intOf i).toNat)
    case atStart => exact ⟨0, 0, Nat.zero_le _, rfl, by simp, rfl⟩
    case round =>
      obtain ⟨k, q, hk, rfl, heq, rfl⟩ := hrel
      have HE := Lib.hid heq; clear heq
      by_cases hlt : k < n
      · obtain ⟨b, o, x, rfl, _, hx, hc1⟩ := H1.out.byte hlt
        obtain ⟨b2, o2, y, rfl, _, hy, hc2⟩ := H2.out.byte hlt
        have g1 : (w.drewN q).cell? ⟨b, o + k, none⟩ = some (.int .u8 (x.toNat : Int)) := hc1
        have g2 : (w.drewN q).cell? ⟨b2, o2 + k, none⟩ = some (.int .u8 (y.toNat : Int)) := hc2
        have HX := Lib.hid hx; have HY := Lib.hid hy
        clear hx hy
        have hi : (k : Int) < (n : Int) := by omega
        have hi0 : (0 : Int) ≤ (k : Int) := by omega
        by_cases hxy : x = y
        · have hbq : ((x.toNat : Int) != (y.toNat : Int)) = false := by simp [hxy]
          have HT := Lib.hid (show l.take (k + 1) = l2.take (k + 1) from by rw [List.take_add_one, List.take_add_one, HE.out, HX.out, HY.out, hxy])
          have hl1 := x.toNat_lt
          generalize x.toNat = xn at *
          generalize y.toNat = yn at *
          clear hxy HX HY
          go_wp2
          go_quiet (fail)
          go_wp2
          go_roundw
          case rel => exact ⟨k + 1, _, hlt, by go_num, HT.out, by first | rfl | (rw [World.drewN_drewN])⟩
          case measure => simp [intOf]; omega
        · have hbq : ((x.toNat : Int) != (y.toNat : Int)) = true := by
            have : x.toNat ≠ y.toNat := fun h => hxy (UInt8.toNat_inj.1 h)
            simp; omega
          have HT := Lib.hid (show sameB l l2 = false from by
            unfold sameB
            have : l ≠ l2 := by
              rintro rfl
              rw [HX.out] at HY
              have := HY.out
              injection this with this
              exact hxy this
            simp [this])
          generalize x.toNat = xn at *
          generalize y.toNat = yn at *
          clear hxy HX HY
          go_wp2
          go_quiet (fail)
          go_wp2
          go_ret
          exact ⟨by rw [HT.out]; rfl, _, by first | rfl | (rw [World.drewN_drewN])⟩
      · have HT := Lib.hid (show sameB l l2 = true from by
          have e := HE.out
          rw [List.take_of_length_le (by have := H1.out.blen; omega), List.take_of_length_le (by have := H2.out.blen; omega)] at e
          rw [e]; exact sameB_self _)
        go_wp2
        go_ret
        exact ⟨by rw [HT.out]; rfl, _, rfl⟩
  · have hne : ((n : Int) != (m : Int)) = true := by simp; omega
    have HT := Lib.hid (show sameB l l2 = false from by
      unfold sameB
      have : l ≠ l2 := by
        rintro rfl
        have := H1.out.blen
        have := H2.out.blen
        omega
      simp [this])
    go_enter Tryz.func19, Tryz.ntmps19
    go_wp2
    go_ret
    exact ⟨by rw [HT.out]; rfl, 0, rfl⟩

end Go.Proofs.YtbpdonnneleeeaaGreatDoor

namespace Go.Proofs.YtbpdonnneleeeaaGreatDoor
open Go.RowKit
set_option linter.unusedVariables false
theorem foldl_push (l : List UInt8) (s : ByteArray) : (l.map fun c => (c.toNat : Int)).foldl (fun r n => r.push (UInt8.ofNat n.toNat)) s = ⟨s.data ++ l.toArray⟩ := by
  induction l generalizing s with
  | nil => simp
  | cons c l ih =>
    simp only [List.map_cons, List.foldl_cons]
    rw [ih]
    simp [ByteArray.push]
/-- a slice of bytes as a string -/
theorem run_str {P : Program} (w : World) (src dst e : TypeId) (hs : P.underlying src = some (.slice e)) (he : P.underlying e = some (.int .u8)) (hd : P.underlying dst = some .string)
    {B n : Nat} {A : Option Addr} {l : List UInt8} (c : Nat) (h : Lies w B 1 A n (l.map bv)) : (convert src dst (.slice A n c)).run P w = .ok (.string ⟨l.toArray⟩) w := by
  rw [run_convert_bytes_string w src dst e A n c hs he hd]
  cases A with
  | none =>
    obtain ⟨_, h2⟩ := h.nil_of
    have : l = [] := by simpa using h2
    subst this
    rfl
  | some ad =>
    have hn : (l.map bv).length = n := by have := h.len; omega
    have hload := run_loadCells_list (P := P) w ad (l.map bv) (fun j v hv => by
      obtain ⟨ad', u, e, _, hx, hc⟩ := h.spot j (by rcases List.getElem?_eq_some_iff.1 hv with ⟨h, _⟩; exact h)
      injection e with e
      subst e
      rw [hv] at hx
      injection hx with hx
      subst hx
      exact hc)
    rw [hn] at hload
    have h2 := run_bytesToString (P := P) w ad n c (l.map fun c => (c.toNat : Int)) (by
      rw [hload]; simp [bv])
    rw [h2, foldl_push]
    simp [ByteArray.empty, ByteArray.emptyWithCapacity]
    rfl
end Go.Proofs.YtbpdonnneleeeaaGreatDoor

