/-
  The laws' Book, whatever kinds of lists it keeps: its struct in memory; what is known of the lists of one kind: kept, filled, grown.
  The laws' Book: kinds of lists of which it keeps none.
  The laws' Book: kinds beside each other: blocks of other types are not written.
-/
import Derived.Test.YtbbimfbkllellaaGreatDoorStep
import Derived.Test.YtbbimfbkllellaaGreatDoorMemM
import Derived.Deep.RegionLaw
namespace Go.Proofs.YtbbimfbkllellaaGreatDoor
open Go.RowKit
set_option linter.unusedVariables false

abbrev nilS : Value := .slice none 0 0
def BkIs (w : World) (g : Nat) (cs : Array Value) : Prop := w.heap[g]? = some (.cells cs 48 (0, 0))
section
variable {w w' : World} {g : Nat} {cs : Array Value}
theorem BkIs.lt (h : BkIs w g cs) : g < w.heap.size := (Array.getElem?_eq_some_iff.1 h).1
theorem BkIs.frozen (h : BkIs w g cs) (i : Nat) : w.frozen? ⟨g, i, none⟩ = false := by
  unfold BkIs at h
  simp [World.frozen?, h]
theorem BkIs.cell (h : BkIs w g cs) (i : Nat) : w.cell? ⟨g, i, none⟩ = cs[i]? := cell_of_row w g i _ _ (0, 0) h
theorem BkIs.set (h : BkIs w g cs) (i : Nat) (v : Value) : BkIs (w.setCell ⟨g, i, none⟩ v) g (cs.setIfInBounds i v) := by
  unfold BkIs at h ⊢
  simp [World.setCell, Array.getElem?_modify, h]
theorem BkIs.alloc (h : BkIs w g cs) (o : Obj) : BkIs (w.alloc o) g cs := (Below.heap_alloc w o g h.lt).trans h
theorem BkIs.keep (h : BkIs w g cs) (e : w'.heap[g]? = w.heap[g]?) : BkIs w' g cs := e.trans h
theorem BkIs.grown {row : Option Nat} (h : BkIs w g cs) (hb : w.grownBy w' row) (hg : some g ≠ row) : BkIs w' g cs := (hb.block g h.lt hg).trans h
theorem BkIs.not_own {base e k m : Nat} {x : Value} {xs : List Value} (h : BkIs w g cs) (ho : w.ownsRow base e k x m xs) (hne : e ≠ 48) : some g ≠ x.ownBlock := by
  rcases ho.2 with ⟨rfl, _⟩ | ⟨g', cap, cur, rfl, _, hh, _⟩
  · simp [Value.ownBlock]
  · intro he
    have : g = g' := by simpa [Value.ownBlock] using he
    subst this
    unfold BkIs at h
    rw [hh] at h
    injection h with h
    injection h with _ h
    exact hne h
end
/-- what is owned stays, if another block is written -/
theorem own_setOther {w : World} {base e k n : Nat} {x : Value} {xs : List Value} (ho : w.ownsRow base e k x n xs) {p : Addr} (hp : some p.block ≠ x.ownBlock) (u : Value) : (w.setCell p u).ownsRow base e k x n xs := by
  refine ⟨ho.1, ?_⟩
  rcases ho.2 with h2 | ⟨g', cap, cur, hv, hg, hh, r⟩
  · exact .inl h2
  · refine .inr ⟨g', cap, cur, hv, hg, (Below.heap_setCell w _ u g' ?_).trans hh, r⟩
    rintro rfl
    rw [hv] at hp
    exact hp rfl
/-- rows of unlike element types are unlike blocks -/
theorem own_neB {w : World} {b1 e1 k1 n1 b2 e2 k2 n2 : Nat} {v1 v2 : Value} {x1 x2 : List Value} (h1 : w.ownsRow b1 e1 k1 v1 n1 x1) (h2 : w.ownsRow b2 e2 k2 v2 n2 x2) (hne : e1 ≠ e2) : v1.ownBlock = none ∨ v1.ownBlock ≠ v2.ownBlock := by
  rcases h1.2 with ⟨rfl, _⟩ | ⟨g1, cap1, cur1, rfl, _, hh1, _⟩
  · exact .inl rfl
  · rcases h2.2 with ⟨rfl, _⟩ | ⟨g2, cap2, cur2, rfl, _, hh2, _⟩
    · exact .inr (by simp [Value.ownBlock])
    · refine .inr fun he => ?_
      have : g1 = g2 := by simpa [Value.ownBlock] using he
      subst this
      rw [hh1] at hh2
      injection hh2 with hh2
      injection hh2 with _ hh2
      exact hne hh2
theorem lits3 {w : World} {g : Nat} (hg : g = w.heap.size) (a b c : Value) (t : TypeId) : Lies (w.alloc (.cells #[a, b, c] t)) (g + 1) 3 (some ⟨g, 0, none⟩) 1 [a, b, c] := by
  subst hg
  refine ⟨rfl, fun j hj => ⟨_, [a, b, c][j], rfl, by simp, List.getElem?_eq_getElem hj, ?_⟩⟩
  rw [add_lit]
  have h : (w.alloc (.cells #[a, b, c] t)).heap[w.heap.size]? = some (.cells #[a, b, c] t (0, 0)) := heap_alloc_new w _
  rw [Nat.zero_add, cell_of_row _ w.heap.size j #[a, b, c] t (0, 0) h]
  match j, hj with
  | 0, _ => rfl
  | 1, _ => rfl
  | 2, _ => rfl
theorem three_one (A : Option Addr) (n c : Nat) (x : Int) : ∀ u ∈ [Value.slice A n c, nilS, .int .i64 x], u.oneCell' = true := by
  intro u hu
  simp at hu
  rcases hu with rfl | rfl | rfl <;> rfl

/-- a list that the Book keeps: its slice, and its number -/
structure BL where
  A : Option Addr
  n : Nat
  c : Nat
  num : Nat
def BL.v (b : BL) : Value := .slice b.A b.n b.c
/-- the blocks that lists lie in -/
def Bks (ls : List BL) (i : Nat) : Prop := ∃ b ∈ ls, b.v.ownBlock = some i
/-- the cells of what is kept, with what was grown -/
def heldG (gs : List (BL × Value)) : List Value := gs.flatMap fun p => [p.1.v, p.2, .int .i64 (p.1.num : Int)]
def held0 (ls : List BL) : List Value := heldG (ls.map fun b => (b, nilS))
theorem heldG_cons (y : BL × Value) (l : List (BL × Value)) : heldG (y :: l) = [y.1.v, y.2, .int .i64 (y.1.num : Int)] ++ heldG l := by simp [heldG]
theorem heldG_len (gs : List (BL × Value)) : (heldG gs).length = gs.length * 3 := by
  induction gs with
  | nil => rfl
  | cons b gs ih =>
    rw [heldG_cons, List.length_append, ih]
    simp; omega
theorem heldG_app (a b : List (BL × Value)) : heldG (a ++ b) = heldG a ++ heldG b := by unfold heldG; simp
theorem held0_snoc (ls : List BL) (b : BL) : held0 (ls ++ [b]) = held0 ls ++ [b.v, nilS, .int .i64 (b.num : Int)] := by
  unfold held0; rw [List.map_append, heldG_app]; rfl
theorem heldG_at (gs : List (BL × Value)) (i j : Nat) (p : BL × Value) (h : gs[i]? = some p) (hj : j < 3) : (heldG gs)[3 * i + j]? = [p.1.v, p.2, .int .i64 (p.1.num : Int)][j]? := by
  induction gs generalizing i with
  | nil => simp at h
  | cons x gs ih =>
    rw [heldG_cons]
    cases i with
    | zero =>
      simp at h
      subst h
      rw [List.getElem?_append_left (by simp; omega)]
      simp
    | succ i =>
      simp at h
      rw [List.getElem?_append_right (by simp; omega)]
      have e2 : 3 * (i + 1) + j - [x.1.v, x.2, Value.int .i64 (x.1.num : Int)].length = 3 * i + j := by simp; omega
      rw [e2]
      exact ih i h
theorem held0_at (ls : List BL) (i j : Nat) (b : BL) (h : ls[i]? = some b) (hj : j < 3) : (held0 ls)[3 * i + j]? = [b.v, nilS, .int .i64 (b.num : Int)][j]? :=
  heldG_at _ i j (b, nilS) (by rw [List.getElem?_map, h]; rfl) hj
theorem heldG_set (gs : List (BL × Value)) (i : Nat) (b : BL) (lv u : Value) (h : gs[i]? = some (b, lv)) : (heldG gs).set (3 * i + 1) u = heldG (gs.set i (b, u)) := by
  induction gs generalizing i with
  | nil => simp at h
  | cons x gs ih =>
    cases i with
    | zero =>
      simp at h
      subst h
      rw [List.set_cons_zero, heldG_cons, heldG_cons]
      rfl
    | succ i =>
      simp at h
      rw [List.set_cons_succ, heldG_cons, heldG_cons, ← ih i h, List.set_append_right _ _ (by simp; omega)]
      congr 2

/-- a list, so many times -/
def rep (m : List Value) (q : Nat) : List Value := (List.replicate q m).flatten
theorem rep_zero (m : List Value) : rep m 0 = [] := rfl
theorem rep_len (m : List Value) (q : Nat) : (rep m q).length = q * m.length := by
  unfold rep; rw [List.length_flatten]; simp
theorem rep_succ (m : List Value) (q : Nat) : rep m (q + 1) = rep m q ++ m := by
  unfold rep; rw [List.replicate_succ', List.flatten_append]; simp
theorem rep_add (m : List Value) (a b : Nat) : rep m (a + b) = rep m a ++ rep m b := by
  induction b with
  | zero => simp [rep_zero]
  | succ b ih => rw [← Nat.add_assoc, rep_succ, rep_succ, ih, List.append_assoc]
theorem rep_take (m : List Value) {a b : Nat} (h : a ≤ b) : (rep m b).take (a * m.length) = rep m a := by
  obtain ⟨d, rfl⟩ := Nat.exists_eq_add_of_le h
  rw [rep_add, ← rep_len m a, List.take_left']
  rfl
theorem rep_get (m : List Value) {i q j : Nat} (hi : i < q) (hj : j < m.length) : (rep m q)[i * m.length + j]? = m[j]? := by
  obtain ⟨d, rfl⟩ := Nat.exists_eq_add_of_le (Nat.succ_le_of_lt hi)
  rw [rep_add, List.getElem?_append_left (by rw [rep_len, Nat.succ_mul]; omega), rep_succ, List.getElem?_append_right (by rw [rep_len]; omega), rep_len]
  congr 1; omega

/-- a kind of lists: what its elements are, how many cells one has; what the Book holds of a list; a list's mark -/
structure Kn where
  e : TypeId
  sz : Nat
  h : TypeId
  mark : Nat → List Value
  pos : 0 < sz
  len : ∀ n, (mark n).length = sz
  one : ∀ n, ∀ u ∈ mark n, u.oneCell' = true
  ne : e ≠ h
  nb : e ≠ 48
  nh : h ≠ 48
/-- no two lists share a block -/
def Dis (ls : List BL) : Prop := ∀ (i j : Nat) (bi bj : BL), i ≠ j → ls[i]? = some bi → ls[j]? = some bj → bi.v.ownBlock = none ∨ bi.v.ownBlock ≠ bj.v.ownBlock
section
variable (K : Kn)
/-- all are owned; the first m have their marks all over -/
def Filled (w : World) (base : Nat) (ls : List BL) (m : Nat) : Prop := ∀ (i : Nat) (b : BL), ls[i]? = some b → ∃ xs, w.ownsRow base K.e K.sz b.v b.n xs ∧ (i < m → xs = rep (K.mark b.num) b.n)
/-- what the inner loop of fill keeps: the first q elements are marked -/
def QRel (w0 : World) (base : Nat) (A : Option Addr) (n c : Nat) (xs : List Value) (num : Nat) (i : Value) (wr : World) : Prop :=
  ∃ q : Nat, q ≤ n ∧ i = .int .i64 (q : Int) ∧ wr.ownsRow base K.e K.sz (.slice A n c) n (rep (K.mark num) q ++ xs.drop (q * K.sz)) ∧ w0.grownBy wr (Value.slice A n c).ownBlock
/-- what the loops of fill keep -/
def FRel (w : World) (base g : Nat) (cs : Array Value) (vb : Value) (ls : List BL) (i : Value) (wr : World) : Prop :=
  ∃ m : Nat, m ≤ ls.length ∧ i = .int .i64 (m : Int) ∧ BkIs wr g cs ∧ wr.ownsRow base K.h 3 vb ls.length (held0 ls) ∧ Filled K wr base ls m ∧ Wrote (Bks ls) w wr
/-- a list's own cells are its marks -/
def Marked (w : World) (base : Nat) (b : BL) : Prop := w.ownsRow base K.e K.sz b.v b.n (rep (K.mark b.num) b.n)
/-- what is known of list number i when the first m are grown -/
def Grw (w : World) (base : Nat) (gs : List (BL × Value)) (m : Nat) : Prop := ∀ (i : Nat) (b : BL) (lv : Value), gs[i]? = some (b, lv) →
  Marked K w base b ∧ (i < m → w.ownsRow base K.e K.sz lv (b.n + 40) (rep (K.mark b.num) (b.n + 40))) ∧ (m ≤ i → lv = nilS)
end
/-- 'o' is a block of list i -/
def Has (gs : List (BL × Value)) (i : Nat) (o : Nat) : Prop := ∃ b lv, gs[i]? = some (b, lv) ∧ (b.v.ownBlock = some o ∨ lv.ownBlock = some o)
/-- the blocks of unlike lists are unlike -/
def DisG (w : World) (gs : List (BL × Value)) : Prop := (∀ i j o, Has gs i o → Has gs j o → i = j) ∧ ∀ i o, Has gs i o → o < w.heap.size

/-- fewer elements of an owned row -/
theorem own_takeK {w : World} {base e sz m c g k : Nat} {xs : List Value} (h : w.ownsRow base e sz (.slice (some ⟨g, 0, none⟩) m c) m xs) (hk : k ≤ m) : w.ownsRow base e sz (.slice (some ⟨g, 0, none⟩) k c) k (xs.take (k * sz)) := by
  have hl := h.1
  have hkm : k * sz ≤ m * sz := Nat.mul_le_mul_right _ hk
  refine ⟨by rw [List.length_take]; omega, ?_⟩
  rcases h.2 with ⟨h0, _⟩ | ⟨g', cap, cur, hv, hb, hh, h1, h2, h3, h4⟩
  · cases h0
  · injection hv with e1 e2 e3
    injection e1 with e1
    injection e1 with e1
    subst e1 e3
    refine .inr ⟨g, c, cur, rfl, hb, hh, by omega, h2, h3, ?_⟩
    rw [← h4, List.take_take]
    congr 1
    omega
section
variable {K : Kn}
/-- what the inner loop of grow keeps -/
def GQ (K : Kn) (w0 : World) (base : Nat) (b : BL) (v i : Value) (wr : World) : Prop :=
  ∃ (q : Nat) (A : Option Addr) (c : Nat), q ≤ 40 ∧ i = .int .i64 (q : Int) ∧ v = .slice A (b.n + q) c ∧ wr.ownsRow base K.e K.sz v (b.n + q) (rep (K.mark b.num) (b.n + q)) ∧ Marked K wr base b ∧
    w0.grownBy wr b.v.ownBlock ∧ (A = b.A ∧ c = b.c ∨ ∀ j, v.ownBlock = some j → w0.heap.size ≤ j)

/-- one more mark, in its place -/
theorem GQ.fits {w0 wr w1 w' : World} {base q g c : Nat} {b : BL} (hq : q < 40) (hlt : ∀ j, b.v.ownBlock = some j → j < w0.heap.size)
    (hM : Marked K wr base b) (hG : w0.grownBy wr b.v.ownBlock) (hF : some ⟨g, 0, none⟩ = b.A ∧ c = b.c ∨ ∀ j, (Value.slice (some ⟨g, 0, none⟩) (b.n + q) c).ownBlock = some j → w0.heap.size ≤ j)
    (h1 : wr.grownBy w1 none)
    (hown : w'.ownsRow base K.e K.sz (.slice (some ⟨g, 0, none⟩) (b.n + q + 1) c) (b.n + q + 1) (rep (K.mark b.num) (b.n + q) ++ K.mark b.num)) (hg : w1.grownBy w' (some g)) :
    GQ K w0 base b (.slice (some ⟨g, 0, none⟩) (b.n + q + 1) c) (.int .i64 ((q : Int) + 1)) w' := by
  rw [← rep_succ] at hown
  have hMa : Marked K w1 base b := World.ownsRow.kept hM h1 (by cases b.v.ownBlock <;> simp)
  have hGa : w0.grownBy w1 b.v.ownBlock := ⟨h1.os.trans hG.os, h1.tape.trans hG.tape, h1.output.trans hG.output, Nat.le_trans hG.size h1.size, fun j hj hne => by
      rw [h1.block j (Nat.lt_of_lt_of_le hj hG.size) (by simp)]; exact hG.block j hj hne⟩
  refine ⟨q + 1, some ⟨g, 0, none⟩, c, hq, by simp, rfl, hown, ?_, ?_, ?_⟩
  · rcases hF with ⟨h1, h2⟩ | h1
    · have h3 := own_takeK (k := b.n) hown (by omega)
      rw [← K.len b.num, rep_take _ (by omega), K.len b.num, h1, h2] at h3
      exact h3
    · refine World.ownsRow.kept hMa hg ?_
      rcases hv : b.v.ownBlock with _ | j
      · exact .inl rfl
      · refine .inr fun he => ?_
        have h2 := hlt j hv
        have h3 := h1 g rfl
        injection he with he
        omega
  · refine ⟨hg.os.trans hGa.os, hg.tape.trans hGa.tape, hg.output.trans hGa.output, Nat.le_trans hGa.size hg.size, fun j hj hne => ?_⟩
    rw [hg.block j (Nat.lt_of_lt_of_le hj hGa.size) ?_]
    · exact hGa.block j hj hne
    · intro he
      injection he with he
      subst he
      rcases hF with ⟨h1, _⟩ | h1
      · apply hne
        unfold BL.v
        rw [← h1]; rfl
      · have := h1 j rfl
        omega
  · rcases hF with ⟨h1, h2⟩ | h1
    · exact .inl ⟨h1, h2⟩
    · exact .inr fun j hj => h1 j hj
/-- one more mark, elsewhere -/
theorem GQ.moves {w0 wr w1 w' : World} {base q : Nat} {b : BL} {v' : Value} (hq : q < 40) (hbase : base ≤ w1.heap.size) (hM : Marked K wr base b) (hG : w0.grownBy wr b.v.ownBlock)
    (h1 : wr.grownBy w1 none)
    (hown : w'.ownsRow w1.heap.size K.e K.sz v' (b.n + q + 1) (rep (K.mark b.num) (b.n + q) ++ K.mark b.num)) (hg : w1.grownBy w' none) :
    GQ K w0 base b v' (.int .i64 ((q : Int) + 1)) w' := by
  rw [← rep_succ] at hown
  have hGa : w0.grownBy w1 b.v.ownBlock := ⟨h1.os.trans hG.os, h1.tape.trans hG.tape, h1.output.trans hG.output, Nat.le_trans hG.size h1.size, fun j hj hne => by
      rw [h1.block j (Nat.lt_of_lt_of_le hj hG.size) (by simp)]; exact hG.block j hj hne⟩
  obtain ⟨A, c, rfl, _⟩ := own_shape hown
  refine ⟨q + 1, A, c, hq, by simp, rfl, own_base hown hbase, World.ownsRow.kept (World.ownsRow.kept hM h1 (by cases b.v.ownBlock <;> simp)) hg (by cases b.v.ownBlock <;> simp), ?_, .inr fun j hj => ?_⟩
  · exact ⟨hg.os.trans hGa.os, hg.tape.trans hGa.tape, hg.output.trans hGa.output, Nat.le_trans hGa.size hg.size, fun j hj hne => by
      rw [hg.block j (Nat.lt_of_lt_of_le hj hGa.size) (by simp)]; exact hGa.block j hj hne⟩
  · exact Nat.le_trans hGa.size (hown.lt j hj).1

/-- a list is grown: what is known of all -/
theorem grow_step {w0 wr : World} {base m gv cv k : Nat} {gs : List (BL × Value)} {b : BL} {A : Option Addr} {c : Nat} {hs : List Value} (hbase : base ≤ w0.heap.size) (hG : Grw K w0 base gs m) (hD : DisG w0 gs) (hm : gs[m]? = some (b, nilS))
    (hown : wr.ownsRow base K.e K.sz (.slice A (b.n + 40) c) (b.n + 40) (rep (K.mark b.num) (b.n + 40))) (hM : Marked K wr base b) (hgr : w0.grownBy wr b.v.ownBlock)
    (hF : A = b.A ∧ c = b.c ∨ ∀ j, (Value.slice A (b.n + 40) c).ownBlock = some j → w0.heap.size ≤ j) (hbk : wr.ownsRow base K.h 3 (.slice (some ⟨gv, 0, none⟩) k cv) k hs) :
    Grw K (wr.setCell ⟨gv, 3 * m + 1, none⟩ (.slice A (b.n + 40) c)) base (gs.set m (b, .slice A (b.n + 40) c)) (m + 1) ∧ DisG (wr.setCell ⟨gv, 3 * m + 1, none⟩ (.slice A (b.n + 40) c)) (gs.set m (b, .slice A (b.n + 40) c)) := by
  have hml : m < gs.length := by rcases List.getElem?_eq_some_iff.1 hm with ⟨h, _⟩; exact h
  have hset : ∀ {v : Value} {n : Nat} {xs : List Value}, wr.ownsRow base K.e K.sz v n xs → (wr.setCell ⟨gv, 3 * m + 1, none⟩ (.slice A (b.n + 40) c)).ownsRow base K.e K.sz v n xs := by
    intro v n xs h
    refine own_setOther h ?_ _
    rcases own_neB hbk h (Ne.symm K.ne) with h1 | h1
    · cases h1
    · exact h1
  have hblk : ∀ {i o}, Has (gs.set m (b, .slice A (b.n + 40) c)) i o → Has gs i o ∨ i = m ∧ w0.heap.size ≤ o ∧ o < wr.heap.size := by
    rintro i o ⟨b', lv, hi, ho⟩
    by_cases him : i = m
    · subst him
      rw [List.getElem?_set_self hml] at hi
      injection hi with hi
      injection hi with h1 h2
      subst h1 h2
      rcases ho with ho | ho
      · exact .inl ⟨b, nilS, hm, .inl ho⟩
      · rcases hF with ⟨h1, h2⟩ | h1
        · refine .inl ⟨b, nilS, hm, .inl ?_⟩
          unfold BL.v
          rw [← h1]
          cases A with
          | none => cases ho
          | some a => exact ho
        · exact .inr ⟨rfl, h1 o ho, (hown.lt o ho).2⟩
    · rw [List.getElem?_set_ne (fun e => him e.symm)] at hi
      exact .inl ⟨b', lv, hi, ho⟩
  have hsz : (wr.setCell ⟨gv, 3 * m + 1, none⟩ (.slice A (b.n + 40) c)).heap.size = wr.heap.size := by simp [World.setCell]
  refine ⟨?_, ?_, ?_⟩
  · intro i b' lv hi
    by_cases him : i = m
    · subst him
      rw [List.getElem?_set_self hml] at hi
      injection hi with hi
      injection hi with h1 h2
      subst h1 h2
      exact ⟨hset hM, fun _ => hset hown, fun h => absurd h (by omega)⟩
    · rw [List.getElem?_set_ne (fun e => him e.symm)] at hi
      obtain ⟨g1, g2, g3⟩ := hG i b' lv hi
      have hne : ∀ v : Value, (∀ o, v.ownBlock = some o → Has gs i o) → v.ownBlock = none ∨ v.ownBlock ≠ b.v.ownBlock := by
        intro v hv
        rcases hvo : v.ownBlock with _ | o
        · exact .inl rfl
        · refine .inr fun he => him ?_
          exact hD.1 i m o (hv o hvo) ⟨b, nilS, hm, .inl he.symm⟩
      refine ⟨hset (World.ownsRow.kept g1 hgr (hne _ fun o ho => ⟨b', lv, hi, .inl ho⟩)), fun h => hset ((g2 (by omega)).kept hgr (hne _ fun o ho => ⟨b', lv, hi, .inr ho⟩)), fun h => g3 (by omega)⟩
  · intro i j o hi hj
    rcases hblk hi with h1 | ⟨h1, h2, _⟩
    · rcases hblk hj with h3 | ⟨h3, h4, _⟩
      · exact hD.1 i j o h1 h3
      · have := hD.2 i o h1; omega
    · rcases hblk hj with h3 | ⟨h3, h4, _⟩
      · have := hD.2 j o h3; omega
      · omega
  · intro i o hi
    rw [hsz]
    rcases hblk hi with h1 | ⟨_, _, h3⟩
    · exact Nat.lt_of_lt_of_le (hD.2 i o h1) hgr.size
    · exact h3
/-- what the outer loop of grow keeps -/
def GRelB (K : Kn) (w : World) (base g : Nat) (cs : Array Value) (vb : Value) (ls : List BL) (i : Value) (wr : World) : Prop :=
  ∃ (m : Nat) (gs : List (BL × Value)), m ≤ ls.length ∧ i = .int .i64 (m : Int) ∧ gs.map Prod.fst = ls ∧ BkIs wr g cs ∧ wr.ownsRow base K.h 3 vb ls.length (heldG gs) ∧ Grw K wr base gs m ∧ DisG wr gs ∧ Wrote (fun i => Bks ls i ∨ vb.ownBlock = some i) w wr
theorem first_grw {w : World} {base : Nat} {ls : List BL} (hF : Filled K w base ls ls.length) (hD : Dis ls) : Grw K w base (ls.map fun b => (b, nilS)) 0 ∧ DisG w (ls.map fun b => (b, nilS)) := by
  have key : ∀ {i : Nat} {b : BL} {lv : Value}, (ls.map fun b => (b, nilS))[i]? = some (b, lv) → ls[i]? = some b ∧ lv = nilS := by
    intro i b lv h
    rw [List.getElem?_map] at h
    cases hx : ls[i]? with
    | none => rw [hx] at h; cases h
    | some x => rw [hx] at h; injection h with h; injection h with h1 h2; subst h1; exact ⟨rfl, h2.symm⟩
  have hlt : ∀ {i : Nat} {b : BL}, ls[i]? = some b → i < ls.length := fun h => by rcases List.getElem?_eq_some_iff.1 h with ⟨h, _⟩; exact h
  refine ⟨fun i b lv h => ?_, fun i j o hi hj => ?_, fun i o hi => ?_⟩
  · obtain ⟨h1, h2⟩ := key h
    obtain ⟨xs, hx, he⟩ := hF i b h1
    rw [he (hlt h1)] at hx
    exact ⟨hx, fun h => by omega, fun _ => h2⟩
  · obtain ⟨bi, li, h1, h2⟩ := hi
    obtain ⟨bj, lj, h3, h4⟩ := hj
    obtain ⟨e1, e2⟩ := key h1
    obtain ⟨e3, e4⟩ := key h3
    subst e2 e4
    have o1 : bi.v.ownBlock = some o := by rcases h2 with h | h; exact h; cases h
    have o2 : bj.v.ownBlock = some o := by rcases h4 with h | h; exact h; cases h
    rcases Nat.decEq i j with hne | he
    · rcases hD i j bi bj hne e1 e3 with h | h
      · rw [o1] at h; cases h
      · exact absurd (o1.trans o2.symm) h
    · exact he
  · obtain ⟨bi, li, h1, h2⟩ := hi
    obtain ⟨e1, e2⟩ := key h1
    subst e2
    have o1 : bi.v.ownBlock = some o := by rcases h2 with h | h; exact h; cases h
    obtain ⟨xs, hx, _⟩ := hF i bi e1
    exact (hx.lt o o1).2
end
/-- what is new is written by nobody -/
theorem grown_of_below {w w' : World} (h : Below w.heap.size w w') (row : Option Nat) : w.grownBy w' row := ⟨h.os, h.tape, h.output, h.size, fun j hj _ => h.block j hj⟩
theorem grown_transB {a b c : World} {row : Option Nat} (h : a.grownBy b row) (k : b.grownBy c row) : a.grownBy c row := h.trans k
theorem wrote_grown {S : Nat → Prop} {a b c : World} (h : Wrote S a b) {row : Option Nat} (k : b.grownBy c row) (hr : ∀ i, row = some i → S i ∨ a.heap.size ≤ i) : Wrote S a c :=
  ⟨k.os.trans h.os, k.tape.trans h.tape, k.output.trans h.output, Nat.le_trans h.size k.size, fun i hi hs => (k.block i (Nat.lt_of_lt_of_le hi h.size) fun e => by
    rcases hr i e.symm with q | q
    · exact hs q
    · omega).trans (h.block i hi hs)⟩
theorem ga {w w1 : World} (h : Below w.heap.size w w1) (o : Obj) : w.grownBy (w1.alloc o) none := (grown_of_below h none).trans (World.grownBy_alloc w1 o none)
theorem cells_at {w : World} {base e k n m c : Nat} {A : Option Addr} {xs : List Value} {o : Obj} (h : w.ownsRow base e k (.slice A n c) m xs) : ∀ b, A = some b → ∀ (j : Nat) (u : Value), xs[j]? = some u → (w.alloc o).cell? (b.add j) = some u := by
  intro b hb j u hu
  have hn : m = n := by
    rcases h.2 with ⟨h0, h1⟩ | ⟨g', cap, cur, hv, _⟩
    · injection h0 with h2 _ _; rw [hb] at h2; cases h2
    · injection hv with _ h2 _; exact h2.symm
  subst hn
  obtain ⟨ad, v, e1, hbb, hx, hcc⟩ := (Lies.of_own h).spot j (by rcases List.getElem?_eq_some_iff.1 hu with ⟨h, _⟩; exact h)
  rw [hb] at e1
  injection e1 with e1
  subst e1
  rw [hu] at hx
  injection hx with hx
  subst hx
  rw [World.cell?_alloc_lt _ _ _ (by rw [add_block]; exact hbb)]
  exact hcc
theorem own_none {w w' : World} {base e k n : Nat} {v : Value} {xs : List Value} (h : w.ownsRow base e k v n xs) (hg : w.grownBy w' none) : w'.ownsRow base e k v n xs := h.kept hg (by cases v.ownBlock <;> simp)
theorem below_drew1 (w : World) : Below w.heap.size w w.drew := ⟨rfl, rfl, rfl, Nat.le_refl _, fun _ _ => rfl⟩
end Go.Proofs.YtbbimfbkllellaaGreatDoor

namespace Go.Proofs.YtbbimfbkllellaaGreatDoor
open Go.RowKit
set_option linter.unusedVariables false
set_option maxRecDepth 100000

theorem fillByte_no (g : Nat) (cs : Array Value) (w : World) (hB : BkIs w g cs) (hcs : cs[1]? = some nilS) : Calls Tryz.prog 27 #[.pointer (some ⟨g, 0, none⟩)] w fun e w' => e = .returned (.tuple #[]) ∧ w = w' := by
  have hc : w.cell? ⟨g, 1, none⟩ = some (.slice none 0 0) := (hB.cell 1).trans hcs
  clear hB hcs
  go_enter Tryz.func27, Tryz.ntmps27
  go_wp2
  refine wp_loop_rounds 1 ?_
  rw [rounds_succ]
  go_wp2
  go_end0
  exact ⟨rfl, rfl⟩
theorem growByte_no (g : Nat) (cs : Array Value) (w : World) (hB : BkIs w g cs) (hcs : cs[1]? = some nilS) : Calls Tryz.prog 40 #[.pointer (some ⟨g, 0, none⟩)] w fun e w' => e = .returned (.tuple #[]) ∧ w = w' := by
  have hc : w.cell? ⟨g, 1, none⟩ = some (.slice none 0 0) := (hB.cell 1).trans hcs
  clear hB hcs
  go_enter Tryz.func40, Tryz.ntmps40
  go_wp2
  refine wp_loop_rounds 1 ?_
  rw [rounds_succ]
  go_wp2
  go_end0
  exact ⟨rfl, rfl⟩
theorem lookByte_no (g : Nat) (cs : Array Value) (w : World) (hB : BkIs w g cs) (hcs : cs[1]? = some nilS) : Calls Tryz.prog 53 #[.pointer (some ⟨g, 0, none⟩)] w fun e w' => e = .returned (.bool true) ∧ w = w' := by
  have hc : w.cell? ⟨g, 1, none⟩ = some (.slice none 0 0) := (hB.cell 1).trans hcs
  clear hB hcs
  go_enter Tryz.func53, Tryz.ntmps53
  go_wp2
  refine wp_loop_rounds 1 ?_
  rw [rounds_succ]
  go_wp2
  go_ret
  exact ⟨rfl, rfl⟩
theorem fillId_no (g : Nat) (cs : Array Value) (w : World) (hB : BkIs w g cs) (hcs : cs[2]? = some nilS) : Calls Tryz.prog 28 #[.pointer (some ⟨g, 0, none⟩)] w fun e w' => e = .returned (.tuple #[]) ∧ w = w' := by
  have hc : w.cell? ⟨g, 2, none⟩ = some (.slice none 0 0) := (hB.cell 2).trans hcs
  clear hB hcs
  go_enter Tryz.func28, Tryz.ntmps28
  go_wp2
  refine wp_loop_rounds 1 ?_
  rw [rounds_succ]
  go_wp2
  go_end0
  exact ⟨rfl, rfl⟩
theorem growId_no (g : Nat) (cs : Array Value) (w : World) (hB : BkIs w g cs) (hcs : cs[2]? = some nilS) : Calls Tryz.prog 41 #[.pointer (some ⟨g, 0, none⟩)] w fun e w' => e = .returned (.tuple #[]) ∧ w = w' := by
  have hc : w.cell? ⟨g, 2, none⟩ = some (.slice none 0 0) := (hB.cell 2).trans hcs
  clear hB hcs
  go_enter Tryz.func41, Tryz.ntmps41
  go_wp2
  refine wp_loop_rounds 1 ?_
  rw [rounds_succ]
  go_wp2
  go_end0
  exact ⟨rfl, rfl⟩
theorem lookId_no (g : Nat) (cs : Array Value) (w : World) (hB : BkIs w g cs) (hcs : cs[2]? = some nilS) : Calls Tryz.prog 54 #[.pointer (some ⟨g, 0, none⟩)] w fun e w' => e = .returned (.bool true) ∧ w = w' := by
  have hc : w.cell? ⟨g, 2, none⟩ = some (.slice none 0 0) := (hB.cell 2).trans hcs
  clear hB hcs
  go_enter Tryz.func54, Tryz.ntmps54
  go_wp2
  refine wp_loop_rounds 1 ?_
  rw [rounds_succ]
  go_wp2
  go_ret
  exact ⟨rfl, rfl⟩
theorem fillNum_no (g : Nat) (cs : Array Value) (w : World) (hB : BkIs w g cs) (hcs : cs[3]? = some nilS) : Calls Tryz.prog 29 #[.pointer (some ⟨g, 0, none⟩)] w fun e w' => e = .returned (.tuple #[]) ∧ w = w' := by
  have hc : w.cell? ⟨g, 3, none⟩ = some (.slice none 0 0) := (hB.cell 3).trans hcs
  clear hB hcs
  go_enter Tryz.func29, Tryz.ntmps29
  go_wp2
  refine wp_loop_rounds 1 ?_
  rw [rounds_succ]
  go_wp2
  go_end0
  exact ⟨rfl, rfl⟩
theorem growNum_no (g : Nat) (cs : Array Value) (w : World) (hB : BkIs w g cs) (hcs : cs[3]? = some nilS) : Calls Tryz.prog 42 #[.pointer (some ⟨g, 0, none⟩)] w fun e w' => e = .returned (.tuple #[]) ∧ w = w' := by
  have hc : w.cell? ⟨g, 3, none⟩ = some (.slice none 0 0) := (hB.cell 3).trans hcs
  clear hB hcs
  go_enter Tryz.func42, Tryz.ntmps42
  go_wp2
  refine wp_loop_rounds 1 ?_
  rw [rounds_succ]
  go_wp2
  go_end0
  exact ⟨rfl, rfl⟩
theorem lookNum_no (g : Nat) (cs : Array Value) (w : World) (hB : BkIs w g cs) (hcs : cs[3]? = some nilS) : Calls Tryz.prog 55 #[.pointer (some ⟨g, 0, none⟩)] w fun e w' => e = .returned (.bool true) ∧ w = w' := by
  have hc : w.cell? ⟨g, 3, none⟩ = some (.slice none 0 0) := (hB.cell 3).trans hcs
  clear hB hcs
  go_enter Tryz.func55, Tryz.ntmps55
  go_wp2
  refine wp_loop_rounds 1 ?_
  rw [rounds_succ]
  go_wp2
  go_ret
  exact ⟨rfl, rfl⟩
theorem fillInt_no (g : Nat) (cs : Array Value) (w : World) (hB : BkIs w g cs) (hcs : cs[4]? = some nilS) : Calls Tryz.prog 30 #[.pointer (some ⟨g, 0, none⟩)] w fun e w' => e = .returned (.tuple #[]) ∧ w = w' := by
  have hc : w.cell? ⟨g, 4, none⟩ = some (.slice none 0 0) := (hB.cell 4).trans hcs
  clear hB hcs
  go_enter Tryz.func30, Tryz.ntmps30
  go_wp2
  refine wp_loop_rounds 1 ?_
  rw [rounds_succ]
  go_wp2
  go_end0
  exact ⟨rfl, rfl⟩
theorem growInt_no (g : Nat) (cs : Array Value) (w : World) (hB : BkIs w g cs) (hcs : cs[4]? = some nilS) : Calls Tryz.prog 43 #[.pointer (some ⟨g, 0, none⟩)] w fun e w' => e = .returned (.tuple #[]) ∧ w = w' := by
  have hc : w.cell? ⟨g, 4, none⟩ = some (.slice none 0 0) := (hB.cell 4).trans hcs
  clear hB hcs
  go_enter Tryz.func43, Tryz.ntmps43
  go_wp2
  refine wp_loop_rounds 1 ?_
  rw [rounds_succ]
  go_wp2
  go_end0
  exact ⟨rfl, rfl⟩
theorem lookInt_no (g : Nat) (cs : Array Value) (w : World) (hB : BkIs w g cs) (hcs : cs[4]? = some nilS) : Calls Tryz.prog 56 #[.pointer (some ⟨g, 0, none⟩)] w fun e w' => e = .returned (.bool true) ∧ w = w' := by
  have hc : w.cell? ⟨g, 4, none⟩ = some (.slice none 0 0) := (hB.cell 4).trans hcs
  clear hB hcs
  go_enter Tryz.func56, Tryz.ntmps56
  go_wp2
  refine wp_loop_rounds 1 ?_
  rw [rounds_succ]
  go_wp2
  go_ret
  exact ⟨rfl, rfl⟩
theorem fillText_no (g : Nat) (cs : Array Value) (w : World) (hB : BkIs w g cs) (hcs : cs[5]? = some nilS) : Calls Tryz.prog 31 #[.pointer (some ⟨g, 0, none⟩)] w fun e w' => e = .returned (.tuple #[]) ∧ w = w' := by
  have hc : w.cell? ⟨g, 5, none⟩ = some (.slice none 0 0) := (hB.cell 5).trans hcs
  clear hB hcs
  go_enter Tryz.func31, Tryz.ntmps31
  go_wp2
  refine wp_loop_rounds 1 ?_
  rw [rounds_succ]
  go_wp2
  go_end0
  exact ⟨rfl, rfl⟩
theorem growText_no (g : Nat) (cs : Array Value) (w : World) (hB : BkIs w g cs) (hcs : cs[5]? = some nilS) : Calls Tryz.prog 44 #[.pointer (some ⟨g, 0, none⟩)] w fun e w' => e = .returned (.tuple #[]) ∧ w = w' := by
  have hc : w.cell? ⟨g, 5, none⟩ = some (.slice none 0 0) := (hB.cell 5).trans hcs
  clear hB hcs
  go_enter Tryz.func44, Tryz.ntmps44
  go_wp2
  refine wp_loop_rounds 1 ?_
  rw [rounds_succ]
  go_wp2
  go_end0
  exact ⟨rfl, rfl⟩
theorem lookText_no (g : Nat) (cs : Array Value) (w : World) (hB : BkIs w g cs) (hcs : cs[5]? = some nilS) : Calls Tryz.prog 57 #[.pointer (some ⟨g, 0, none⟩)] w fun e w' => e = .returned (.bool true) ∧ w = w' := by
  have hc : w.cell? ⟨g, 5, none⟩ = some (.slice none 0 0) := (hB.cell 5).trans hcs
  clear hB hcs
  go_enter Tryz.func57, Tryz.ntmps57
  go_wp2
  refine wp_loop_rounds 1 ?_
  rw [rounds_succ]
  go_wp2
  go_ret
  exact ⟨rfl, rfl⟩
theorem fillRow_no (g : Nat) (cs : Array Value) (w : World) (hB : BkIs w g cs) (hcs : cs[6]? = some nilS) : Calls Tryz.prog 32 #[.pointer (some ⟨g, 0, none⟩)] w fun e w' => e = .returned (.tuple #[]) ∧ w = w' := by
  have hc : w.cell? ⟨g, 6, none⟩ = some (.slice none 0 0) := (hB.cell 6).trans hcs
  clear hB hcs
  go_enter Tryz.func32, Tryz.ntmps32
  go_wp2
  refine wp_loop_rounds 1 ?_
  rw [rounds_succ]
  go_wp2
  go_end0
  exact ⟨rfl, rfl⟩
theorem growRow_no (g : Nat) (cs : Array Value) (w : World) (hB : BkIs w g cs) (hcs : cs[6]? = some nilS) : Calls Tryz.prog 45 #[.pointer (some ⟨g, 0, none⟩)] w fun e w' => e = .returned (.tuple #[]) ∧ w = w' := by
  have hc : w.cell? ⟨g, 6, none⟩ = some (.slice none 0 0) := (hB.cell 6).trans hcs
  clear hB hcs
  go_enter Tryz.func45, Tryz.ntmps45
  go_wp2
  refine wp_loop_rounds 1 ?_
  rw [rounds_succ]
  go_wp2
  go_end0
  exact ⟨rfl, rfl⟩
theorem lookRow_no (g : Nat) (cs : Array Value) (w : World) (hB : BkIs w g cs) (hcs : cs[6]? = some nilS) : Calls Tryz.prog 58 #[.pointer (some ⟨g, 0, none⟩)] w fun e w' => e = .returned (.bool true) ∧ w = w' := by
  have hc : w.cell? ⟨g, 6, none⟩ = some (.slice none 0 0) := (hB.cell 6).trans hcs
  clear hB hcs
  go_enter Tryz.func58, Tryz.ntmps58
  go_wp2
  refine wp_loop_rounds 1 ?_
  rw [rounds_succ]
  go_wp2
  go_ret
  exact ⟨rfl, rfl⟩
theorem fillChange_no (g : Nat) (cs : Array Value) (w : World) (hB : BkIs w g cs) (hcs : cs[7]? = some nilS) : Calls Tryz.prog 33 #[.pointer (some ⟨g, 0, none⟩)] w fun e w' => e = .returned (.tuple #[]) ∧ w = w' := by
  have hc : w.cell? ⟨g, 7, none⟩ = some (.slice none 0 0) := (hB.cell 7).trans hcs
  clear hB hcs
  go_enter Tryz.func33, Tryz.ntmps33
  go_wp2
  refine wp_loop_rounds 1 ?_
  rw [rounds_succ]
  go_wp2
  go_end0
  exact ⟨rfl, rfl⟩
theorem growChange_no (g : Nat) (cs : Array Value) (w : World) (hB : BkIs w g cs) (hcs : cs[7]? = some nilS) : Calls Tryz.prog 46 #[.pointer (some ⟨g, 0, none⟩)] w fun e w' => e = .returned (.tuple #[]) ∧ w = w' := by
  have hc : w.cell? ⟨g, 7, none⟩ = some (.slice none 0 0) := (hB.cell 7).trans hcs
  clear hB hcs
  go_enter Tryz.func46, Tryz.ntmps46
  go_wp2
  refine wp_loop_rounds 1 ?_
  rw [rounds_succ]
  go_wp2
  go_end0
  exact ⟨rfl, rfl⟩
theorem lookChange_no (g : Nat) (cs : Array Value) (w : World) (hB : BkIs w g cs) (hcs : cs[7]? = some nilS) : Calls Tryz.prog 59 #[.pointer (some ⟨g, 0, none⟩)] w fun e w' => e = .returned (.bool true) ∧ w = w' := by
  have hc : w.cell? ⟨g, 7, none⟩ = some (.slice none 0 0) := (hB.cell 7).trans hcs
  clear hB hcs
  go_enter Tryz.func59, Tryz.ntmps59
  go_wp2
  refine wp_loop_rounds 1 ?_
  rw [rounds_succ]
  go_wp2
  go_ret
  exact ⟨rfl, rfl⟩
theorem fillEntry_no (g : Nat) (cs : Array Value) (w : World) (hB : BkIs w g cs) (hcs : cs[8]? = some nilS) : Calls Tryz.prog 34 #[.pointer (some ⟨g, 0, none⟩)] w fun e w' => e = .returned (.tuple #[]) ∧ w = w' := by
  have hc : w.cell? ⟨g, 8, none⟩ = some (.slice none 0 0) := (hB.cell 8).trans hcs
  clear hB hcs
  go_enter Tryz.func34, Tryz.ntmps34
  go_wp2
  refine wp_loop_rounds 1 ?_
  rw [rounds_succ]
  go_wp2
  go_end0
  exact ⟨rfl, rfl⟩
theorem growEntry_no (g : Nat) (cs : Array Value) (w : World) (hB : BkIs w g cs) (hcs : cs[8]? = some nilS) : Calls Tryz.prog 47 #[.pointer (some ⟨g, 0, none⟩)] w fun e w' => e = .returned (.tuple #[]) ∧ w = w' := by
  have hc : w.cell? ⟨g, 8, none⟩ = some (.slice none 0 0) := (hB.cell 8).trans hcs
  clear hB hcs
  go_enter Tryz.func47, Tryz.ntmps47
  go_wp2
  refine wp_loop_rounds 1 ?_
  rw [rounds_succ]
  go_wp2
  go_end0
  exact ⟨rfl, rfl⟩
theorem lookEntry_no (g : Nat) (cs : Array Value) (w : World) (hB : BkIs w g cs) (hcs : cs[8]? = some nilS) : Calls Tryz.prog 60 #[.pointer (some ⟨g, 0, none⟩)] w fun e w' => e = .returned (.bool true) ∧ w = w' := by
  have hc : w.cell? ⟨g, 8, none⟩ = some (.slice none 0 0) := (hB.cell 8).trans hcs
  clear hB hcs
  go_enter Tryz.func60, Tryz.ntmps60
  go_wp2
  refine wp_loop_rounds 1 ?_
  rw [rounds_succ]
  go_wp2
  go_ret
  exact ⟨rfl, rfl⟩
theorem fillFile_no (g : Nat) (cs : Array Value) (w : World) (hB : BkIs w g cs) (hcs : cs[9]? = some nilS) : Calls Tryz.prog 35 #[.pointer (some ⟨g, 0, none⟩)] w fun e w' => e = .returned (.tuple #[]) ∧ w = w' := by
  have hc : w.cell? ⟨g, 9, none⟩ = some (.slice none 0 0) := (hB.cell 9).trans hcs
  clear hB hcs
  go_enter Tryz.func35, Tryz.ntmps35
  go_wp2
  refine wp_loop_rounds 1 ?_
  rw [rounds_succ]
  go_wp2
  go_end0
  exact ⟨rfl, rfl⟩
theorem growFile_no (g : Nat) (cs : Array Value) (w : World) (hB : BkIs w g cs) (hcs : cs[9]? = some nilS) : Calls Tryz.prog 48 #[.pointer (some ⟨g, 0, none⟩)] w fun e w' => e = .returned (.tuple #[]) ∧ w = w' := by
  have hc : w.cell? ⟨g, 9, none⟩ = some (.slice none 0 0) := (hB.cell 9).trans hcs
  clear hB hcs
  go_enter Tryz.func48, Tryz.ntmps48
  go_wp2
  refine wp_loop_rounds 1 ?_
  rw [rounds_succ]
  go_wp2
  go_end0
  exact ⟨rfl, rfl⟩
theorem lookFile_no (g : Nat) (cs : Array Value) (w : World) (hB : BkIs w g cs) (hcs : cs[9]? = some nilS) : Calls Tryz.prog 61 #[.pointer (some ⟨g, 0, none⟩)] w fun e w' => e = .returned (.bool true) ∧ w = w' := by
  have hc : w.cell? ⟨g, 9, none⟩ = some (.slice none 0 0) := (hB.cell 9).trans hcs
  clear hB hcs
  go_enter Tryz.func61, Tryz.ntmps61
  go_wp2
  refine wp_loop_rounds 1 ?_
  rw [rounds_succ]
  go_wp2
  go_ret
  exact ⟨rfl, rfl⟩
theorem fillItem_no (g : Nat) (cs : Array Value) (w : World) (hB : BkIs w g cs) (hcs : cs[10]? = some nilS) : Calls Tryz.prog 36 #[.pointer (some ⟨g, 0, none⟩)] w fun e w' => e = .returned (.tuple #[]) ∧ w = w' := by
  have hc : w.cell? ⟨g, 10, none⟩ = some (.slice none 0 0) := (hB.cell 10).trans hcs
  clear hB hcs
  go_enter Tryz.func36, Tryz.ntmps36
  go_wp2
  refine wp_loop_rounds 1 ?_
  rw [rounds_succ]
  go_wp2
  go_end0
  exact ⟨rfl, rfl⟩
theorem growItem_no (g : Nat) (cs : Array Value) (w : World) (hB : BkIs w g cs) (hcs : cs[10]? = some nilS) : Calls Tryz.prog 49 #[.pointer (some ⟨g, 0, none⟩)] w fun e w' => e = .returned (.tuple #[]) ∧ w = w' := by
  have hc : w.cell? ⟨g, 10, none⟩ = some (.slice none 0 0) := (hB.cell 10).trans hcs
  clear hB hcs
  go_enter Tryz.func49, Tryz.ntmps49
  go_wp2
  refine wp_loop_rounds 1 ?_
  rw [rounds_succ]
  go_wp2
  go_end0
  exact ⟨rfl, rfl⟩
theorem lookItem_no (g : Nat) (cs : Array Value) (w : World) (hB : BkIs w g cs) (hcs : cs[10]? = some nilS) : Calls Tryz.prog 62 #[.pointer (some ⟨g, 0, none⟩)] w fun e w' => e = .returned (.bool true) ∧ w = w' := by
  have hc : w.cell? ⟨g, 10, none⟩ = some (.slice none 0 0) := (hB.cell 10).trans hcs
  clear hB hcs
  go_enter Tryz.func62, Tryz.ntmps62
  go_wp2
  refine wp_loop_rounds 1 ?_
  rw [rounds_succ]
  go_wp2
  go_ret
  exact ⟨rfl, rfl⟩
theorem fillSaid_no (g : Nat) (cs : Array Value) (w : World) (hB : BkIs w g cs) (hcs : cs[11]? = some nilS) : Calls Tryz.prog 37 #[.pointer (some ⟨g, 0, none⟩)] w fun e w' => e = .returned (.tuple #[]) ∧ w = w' := by
  have hc : w.cell? ⟨g, 11, none⟩ = some (.slice none 0 0) := (hB.cell 11).trans hcs
  clear hB hcs
  go_enter Tryz.func37, Tryz.ntmps37
  go_wp2
  refine wp_loop_rounds 1 ?_
  rw [rounds_succ]
  go_wp2
  go_end0
  exact ⟨rfl, rfl⟩
theorem growSaid_no (g : Nat) (cs : Array Value) (w : World) (hB : BkIs w g cs) (hcs : cs[11]? = some nilS) : Calls Tryz.prog 50 #[.pointer (some ⟨g, 0, none⟩)] w fun e w' => e = .returned (.tuple #[]) ∧ w = w' := by
  have hc : w.cell? ⟨g, 11, none⟩ = some (.slice none 0 0) := (hB.cell 11).trans hcs
  clear hB hcs
  go_enter Tryz.func50, Tryz.ntmps50
  go_wp2
  refine wp_loop_rounds 1 ?_
  rw [rounds_succ]
  go_wp2
  go_end0
  exact ⟨rfl, rfl⟩
theorem lookSaid_no (g : Nat) (cs : Array Value) (w : World) (hB : BkIs w g cs) (hcs : cs[11]? = some nilS) : Calls Tryz.prog 63 #[.pointer (some ⟨g, 0, none⟩)] w fun e w' => e = .returned (.bool true) ∧ w = w' := by
  have hc : w.cell? ⟨g, 11, none⟩ = some (.slice none 0 0) := (hB.cell 11).trans hcs
  clear hB hcs
  go_enter Tryz.func63, Tryz.ntmps63
  go_wp2
  refine wp_loop_rounds 1 ?_
  rw [rounds_succ]
  go_wp2
  go_ret
  exact ⟨rfl, rfl⟩
theorem fillMsg_no (g : Nat) (cs : Array Value) (w : World) (hB : BkIs w g cs) (hcs : cs[12]? = some nilS) : Calls Tryz.prog 38 #[.pointer (some ⟨g, 0, none⟩)] w fun e w' => e = .returned (.tuple #[]) ∧ w = w' := by
  have hc : w.cell? ⟨g, 12, none⟩ = some (.slice none 0 0) := (hB.cell 12).trans hcs
  clear hB hcs
  go_enter Tryz.func38, Tryz.ntmps38
  go_wp2
  refine wp_loop_rounds 1 ?_
  rw [rounds_succ]
  go_wp2
  go_end0
  exact ⟨rfl, rfl⟩
theorem growMsg_no (g : Nat) (cs : Array Value) (w : World) (hB : BkIs w g cs) (hcs : cs[12]? = some nilS) : Calls Tryz.prog 51 #[.pointer (some ⟨g, 0, none⟩)] w fun e w' => e = .returned (.tuple #[]) ∧ w = w' := by
  have hc : w.cell? ⟨g, 12, none⟩ = some (.slice none 0 0) := (hB.cell 12).trans hcs
  clear hB hcs
  go_enter Tryz.func51, Tryz.ntmps51
  go_wp2
  refine wp_loop_rounds 1 ?_
  rw [rounds_succ]
  go_wp2
  go_end0
  exact ⟨rfl, rfl⟩
theorem lookMsg_no (g : Nat) (cs : Array Value) (w : World) (hB : BkIs w g cs) (hcs : cs[12]? = some nilS) : Calls Tryz.prog 64 #[.pointer (some ⟨g, 0, none⟩)] w fun e w' => e = .returned (.bool true) ∧ w = w' := by
  have hc : w.cell? ⟨g, 12, none⟩ = some (.slice none 0 0) := (hB.cell 12).trans hcs
  clear hB hcs
  go_enter Tryz.func64, Tryz.ntmps64
  go_wp2
  refine wp_loop_rounds 1 ?_
  rw [rounds_succ]
  go_wp2
  go_ret
  exact ⟨rfl, rfl⟩
theorem fillEvent_no (g : Nat) (cs : Array Value) (w : World) (hB : BkIs w g cs) (hcs : cs[13]? = some nilS) : Calls Tryz.prog 39 #[.pointer (some ⟨g, 0, none⟩)] w fun e w' => e = .returned (.tuple #[]) ∧ w = w' := by
  have hc : w.cell? ⟨g, 13, none⟩ = some (.slice none 0 0) := (hB.cell 13).trans hcs
  clear hB hcs
  go_enter Tryz.func39, Tryz.ntmps39
  go_wp2
  refine wp_loop_rounds 1 ?_
  rw [rounds_succ]
  go_wp2
  go_end0
  exact ⟨rfl, rfl⟩
theorem growEvent_no (g : Nat) (cs : Array Value) (w : World) (hB : BkIs w g cs) (hcs : cs[13]? = some nilS) : Calls Tryz.prog 52 #[.pointer (some ⟨g, 0, none⟩)] w fun e w' => e = .returned (.tuple #[]) ∧ w = w' := by
  have hc : w.cell? ⟨g, 13, none⟩ = some (.slice none 0 0) := (hB.cell 13).trans hcs
  clear hB hcs
  go_enter Tryz.func52, Tryz.ntmps52
  go_wp2
  refine wp_loop_rounds 1 ?_
  rw [rounds_succ]
  go_wp2
  go_end0
  exact ⟨rfl, rfl⟩
theorem lookEvent_no (g : Nat) (cs : Array Value) (w : World) (hB : BkIs w g cs) (hcs : cs[13]? = some nilS) : Calls Tryz.prog 65 #[.pointer (some ⟨g, 0, none⟩)] w fun e w' => e = .returned (.bool true) ∧ w = w' := by
  have hc : w.cell? ⟨g, 13, none⟩ = some (.slice none 0 0) := (hB.cell 13).trans hcs
  clear hB hcs
  go_enter Tryz.func65, Tryz.ntmps65
  go_wp2
  refine wp_loop_rounds 1 ?_
  rw [rounds_succ]
  go_wp2
  go_ret
  exact ⟨rfl, rfl⟩
end Go.Proofs.YtbbimfbkllellaaGreatDoor

namespace Go.Proofs.YtbbimfbkllellaaGreatDoor
open Go.RowKit
set_option linter.unusedVariables false
set_option maxRecDepth 100000

/-- is i a block of that type? -/
def Ty (w : World) (t : TypeId) (i : Nat) : Prop := ∃ c fz, w.heap[i]? = some (.cells c t fz)
theorem Ty.ne {w : World} {t t' : TypeId} {i : Nat} {c : Array Value} {fz : Nat × Nat} (h : Ty w t i) (h' : w.heap[i]? = some (.cells c t' fz)) : t = t' := by
  obtain ⟨c2, fz2, e⟩ := h
  rw [h'] at e
  injection e with e
  injection e with _ e
  exact e.symm
theorem own_ty {w w' : World} {base e k n : Nat} {v : Value} {xs : List Value} (h : w.ownsRow base e k v n xs) (hk : ∀ i, Ty w e i → w'.heap[i]? = w.heap[i]?) : w'.ownsRow base e k v n xs := by
  refine ⟨h.1, ?_⟩
  rcases h.2 with h2 | ⟨g, cap, cur, hv, hg, hh, r⟩
  · exact .inl h2
  · exact .inr ⟨g, cap, cur, hv, hg, (hk g ⟨_, _, hh⟩).trans hh, r⟩
theorem Ty.lt {w : World} {t : TypeId} {i : Nat} (h : Ty w t i) : i < w.heap.size := by obtain ⟨c, fz, e⟩ := h; exact (Array.getElem?_eq_some_iff.1 e).1
theorem ty_own {w : World} {base e k n i : Nat} {v : Value} {xs : List Value} (h : w.ownsRow base e k v n xs) (hi : v.ownBlock = some i) : Ty w e i := by
  rcases h.2 with ⟨h2, _⟩ | ⟨g', cap, cur, hv, _, hh, _⟩
  · rw [h2] at hi; cases hi
  · rw [hv] at hi; injection hi with hi; subst hi; exact ⟨_, _, hh⟩
theorem Ty.uniq {w : World} {t t' : TypeId} {i : Nat} (h : Ty w t i) (h' : Ty w t' i) : t = t' := by obtain ⟨c, fz, e⟩ := h'; exact h.ne e
/-- all of these blocks are of other types -/
def Off (w : World) (e : TypeId) (S : Nat → Prop) : Prop := ∀ i, S i → ∃ t, t ≠ e ∧ Ty w t i
theorem Off.row {w w' : World} {e : TypeId} {S : Nat → Prop} (hS : Off w e S) (hw : Wrote S w w') {base k n : Nat} {v : Value} {xs : List Value} (h : w.ownsRow base e k v n xs) : w'.ownsRow base e k v n xs :=
  hw.row h fun g hg hs => by obtain ⟨t, hne, ht⟩ := hS g hs; exact hne (ht.uniq (ty_own h hg))
theorem Off.filled {K : Kn} {w w' : World} {S : Nat → Prop} (hS : Off w K.e S) (hw : Wrote S w w') {base m : Nat} {ls : List BL} (h : Filled K w base ls m) : Filled K w' base ls m := fun i b hi => by
  obtain ⟨xs, hx, he⟩ := h i b hi
  exact ⟨xs, hS.row hw hx, he⟩
theorem Off.grw {K : Kn} {w w' : World} {S : Nat → Prop} (hS : Off w K.e S) (hw : Wrote S w w') {base m : Nat} {gs : List (BL × Value)} (h : Grw K w base gs m) : Grw K w' base gs m := fun i b lv hi => by
  obtain ⟨h1, h2, h3⟩ := h i b lv hi
  exact ⟨hS.row hw h1, fun hm => hS.row hw (h2 hm), h3⟩
theorem off_bks {K : Kn} {w : World} {base m : Nat} {ls : List BL} {e : TypeId} (h : Filled K w base ls m) (hne : K.e ≠ e) : Off w e (Bks ls) := fun i ⟨b, hb, hi⟩ => by
  obtain ⟨j, hj⟩ := List.getElem?_of_mem hb
  obtain ⟨xs, hx, _⟩ := h j b hj
  exact ⟨_, hne, ty_own hx hi⟩
theorem off_both {K : Kn} {w : World} {base m n : Nat} {ls : List BL} {e : TypeId} {vb : Value} {xs : List Value} (h : Filled K w base ls m) (ho : w.ownsRow base K.h 3 vb n xs) (h1 : K.e ≠ e) (h2 : K.h ≠ e) : Off w e (fun i => Bks ls i ∨ vb.ownBlock = some i) := fun i hi =>
  hi.elim (off_bks h h1 i) fun hi => ⟨_, h2, ty_own ho hi⟩
theorem off_none (w : World) (e : TypeId) : Off w e (fun i => (none : Option Nat) = some i) := fun i hi => by cases hi
theorem low_bks {K : Kn} {w : World} {base m : Nat} {ls : List BL} (h : Filled K w base ls m) : ∀ i, Bks ls i → base ≤ i := fun i ⟨b, hbm, hbi⟩ => by
  obtain ⟨j, hj⟩ := List.getElem?_of_mem hbm
  obtain ⟨xs, hx, _⟩ := h j b hj
  exact (hx.lt i hbi).1

/-- is it a list of the law's own, of that kind? -/
def Kdk (K : Kn) (w : World) (base : Nat) (b : BL) : Prop := ∃ xs, w.ownsRow base K.e K.sz b.v b.n xs
theorem own_keep {w w' : World} {base e k n : Nat} {v : Value} {xs : List Value} (h : w.ownsRow base e k v n xs) (hk : ∀ i, v.ownBlock = some i → w'.heap[i]? = w.heap[i]?) : w'.ownsRow base e k v n xs := by
  refine ⟨h.1, ?_⟩
  rcases h.2 with h2 | ⟨g, cap, cur, hv, hg, hh, r⟩
  · exact .inl h2
  · exact .inr ⟨g, cap, cur, hv, hg, (hk g (by rw [hv]; rfl)).trans hh, r⟩
theorem dis_snoc {ls : List BL} {b : BL} (h : Dis ls) (hK : ∀ b' ∈ ls, b'.v.ownBlock = none ∨ b'.v.ownBlock ≠ b.v.ownBlock) : Dis (ls ++ [b]) := by
  have hno : ∀ b' ∈ ls, b.v.ownBlock = none ∨ b.v.ownBlock ≠ b'.v.ownBlock := fun b' hb => by
    cases hv : b.v.ownBlock with
    | none => exact .inl rfl
    | some i =>
      refine .inr fun e => ?_
      rcases hK b' hb with q | q
      · rw [q] at e; cases e
      · exact q (e.symm.trans hv.symm)
  intro i j bi bj hij hi hj
  by_cases h1 : i < ls.length
  · rw [List.getElem?_append_left h1] at hi
    by_cases h2 : j < ls.length
    · rw [List.getElem?_append_left h2] at hj
      exact h i j bi bj hij hi hj
    · rw [List.getElem?_append_right (by omega)] at hj
      obtain ⟨_, hj⟩ := List.getElem?_eq_some_iff.1 hj
      simp at hj
      rw [← hj]
      exact hK bi (List.mem_of_getElem? hi)
  · rw [List.getElem?_append_right (by omega)] at hi
    obtain ⟨h3, hi⟩ := List.getElem?_eq_some_iff.1 hi
    simp at hi h3
    by_cases h2 : j < ls.length
    · rw [List.getElem?_append_left h2] at hj
      rw [← hi]
      exact hno bj (List.mem_of_getElem? hj)
    · rw [List.getElem?_append_right (by omega)] at hj
      obtain ⟨h4, hj⟩ := List.getElem?_eq_some_iff.1 hj
      simp at h4
      omega
end Go.Proofs.YtbbimfbkllellaaGreatDoor

