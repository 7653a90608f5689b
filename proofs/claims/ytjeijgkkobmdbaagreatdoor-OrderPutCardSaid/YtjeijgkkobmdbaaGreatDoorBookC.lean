/-
  The laws' Book: growByte.
-/
import Derived.Test.YtjeijgkkobmdbaaGreatDoorBookB
import Derived.ArgAppend
namespace Go.Proofs.YtjeijgkkobmdbaaGreatDoor
open Go.RowKit
set_option linter.unusedVariables false

/-- the cells of what is kept, with what was grown -/
def heldG (gs : List (BL × Value)) : List Value := gs.flatMap fun p => [p.1.v, p.2, .int .i64 (p.1.num : Int)]
theorem heldG_len (gs : List (BL × Value)) : (heldG gs).length = gs.length * 3 := by
  induction gs with
  | nil => rfl
  | cons b gs ih =>
    have : heldG (b :: gs) = [b.1.v, b.2, .int .i64 (b.1.num : Int)] ++ heldG gs := by simp [heldG]
    rw [this, List.length_append, ih]
    simp; omega
theorem heldG_at (gs : List (BL × Value)) (i j : Nat) (p : BL × Value) (h : gs[i]? = some p) (hj : j < 3) : (heldG gs)[3 * i + j]? = [p.1.v, p.2, .int .i64 (p.1.num : Int)][j]? := by
  induction gs generalizing i with
  | nil => simp at h
  | cons x gs ih =>
    have e : heldG (x :: gs) = [x.1.v, x.2, .int .i64 (x.1.num : Int)] ++ heldG gs := by simp [heldG]
    rw [e]
    cases i with
    | zero =>
      simp at h
      subst h
      rw [List.getElem?_append_left (by simp; omega)]
      simp
    | succ i =>
      simp at h
      rw [List.getElem?_append_right (by simp; omega)]
      have e2 : 3 * (i + 1) + j - [x.1.v, x.2, Value.int .i64 (x.1.num : Int)].length = 3 * i + j := by simp; omega
      rw [e2]
      exact ih i h
theorem heldG_set (gs : List (BL × Value)) (i : Nat) (b : BL) (lv u : Value) (h : gs[i]? = some (b, lv)) : (heldG gs).set (3 * i + 1) u = heldG (gs.set i (b, u)) := by
  induction gs generalizing i with
  | nil => simp at h
  | cons x gs ih =>
    have e : ∀ (y : BL × Value) (l : List (BL × Value)), heldG (y :: l) = [y.1.v, y.2, .int .i64 (y.1.num : Int)] ++ heldG l := by intro y l; simp [heldG]
    cases i with
    | zero =>
      simp at h
      subst h
      rw [List.set_cons_zero, e, e]
      rfl
    | succ i =>
      simp at h
      rw [List.set_cons_succ, e, e, ← ih i h, List.set_append_right _ _ (by simp; omega)]
      congr 2
theorem heldG_of0 (ls : List BL) : held0 ls = heldG (ls.map fun b => (b, nilS)) := by
  induction ls with
  | nil => rfl
  | cons b ls ih =>
    have e1 : held0 (b :: ls) = [b.v, nilS, .int .i64 (b.num : Int)] ++ held0 ls := by simp [held0]
    have e2 : heldG ((b :: ls).map fun b => (b, nilS)) = [b.v, nilS, .int .i64 (b.num : Int)] ++ heldG (ls.map fun b => (b, nilS)) := by simp [heldG]
    rw [e1, e2, ih]

/-- fewer elements of an owned row -/
theorem own_take {w : World} {base e m c g k : Nat} {xs : List Value} (h : w.ownsRow base e 1 (.slice (some ⟨g, 0, none⟩) m c) m xs) (hk : k ≤ m) : w.ownsRow base e 1 (.slice (some ⟨g, 0, none⟩) k c) k (xs.take k) := by
  have hl := h.1
  refine ⟨by simp; omega, ?_⟩
  rcases h.2 with ⟨h0, _⟩ | ⟨g', cap, cur, hv, hb, hh, h1, h2, h3, h4⟩
  · cases h0
  · injection hv with e1 e2 e3
    injection e1 with e1
    injection e1 with e1
    subst e1 e3
    refine .inr ⟨g, c, cur, rfl, hb, hh, by omega, h2, h3, ?_⟩
    rw [← h4, List.take_take]
    congr 1
    omega
/-- a list's own cells are its marks -/
def Marked (w : World) (base : Nat) (b : BL) : Prop := w.ownsRow base 5 1 b.v b.n (List.replicate b.n (mk b.num))

/-- what is known of list number i when the first m are grown -/
def Grw (w : World) (base : Nat) (gs : List (BL × Value)) (m : Nat) : Prop := ∀ (i : Nat) (b : BL) (lv : Value), gs[i]? = some (b, lv) →
  Marked w base b ∧ (i < m → w.ownsRow base 5 1 lv (b.n + 40) (List.replicate (b.n + 40) (mk b.num))) ∧ (m ≤ i → lv = nilS)
/-- 'o' is a block of list i -/
def Has (gs : List (BL × Value)) (i : Nat) (o : Nat) : Prop := ∃ b lv, gs[i]? = some (b, lv) ∧ (b.v.ownBlock = some o ∨ lv.ownBlock = some o)
/-- the blocks of unlike lists are unlike -/
def DisG (w : World) (gs : List (BL × Value)) : Prop := (∀ i j o, Has gs i o → Has gs j o → i = j) ∧ ∀ i o, Has gs i o → o < w.heap.size

/-- what the inner loop of growByte keeps -/
def GQ (w0 : World) (base : Nat) (b : BL) (v i : Value) (wr : World) : Prop :=
  ∃ (q : Nat) (A : Option Addr) (c : Nat), q ≤ 40 ∧ i = .int .i64 (q : Int) ∧ v = .slice A (b.n + q) c ∧ wr.ownsRow base 5 1 v (b.n + q) (List.replicate (b.n + q) (mk b.num)) ∧ Marked wr base b ∧
    w0.grownBy wr b.v.ownBlock ∧ (A = b.A ∧ c = b.c ∨ ∀ j, v.ownBlock = some j → w0.heap.size ≤ j)

/-- one more mark, in its place -/
theorem GQ.fits {w0 wr w' : World} {base q g c : Nat} {b : BL} {o : Obj} (hq : q < 40) (hlt : ∀ j, b.v.ownBlock = some j → j < w0.heap.size)
    (hM : Marked wr base b) (hG : w0.grownBy wr b.v.ownBlock) (hF : some ⟨g, 0, none⟩ = b.A ∧ c = b.c ∨ ∀ j, (Value.slice (some ⟨g, 0, none⟩) (b.n + q) c).ownBlock = some j → w0.heap.size ≤ j)
    (hown : w'.ownsRow base 5 1 (.slice (some ⟨g, 0, none⟩) (b.n + q + 1) c) (b.n + q + 1) (List.replicate (b.n + q) (mk b.num) ++ [mk b.num])) (hg : (wr.alloc o).grownBy w' (some g)) :
    GQ w0 base b (.slice (some ⟨g, 0, none⟩) (b.n + q + 1) c) (.int .i64 ((q : Int) + 1)) w' := by
  have hrep : List.replicate (b.n + q) (mk b.num) ++ [mk b.num] = List.replicate (b.n + (q + 1)) (mk b.num) := by rw [← List.replicate_succ']; rfl
  rw [hrep] at hown
  have hMa : Marked (wr.alloc o) base b := World.ownsRow.alloc hM o
  have hGa : w0.grownBy (wr.alloc o) b.v.ownBlock := hG.trans (World.grownBy_alloc wr o _)
  refine ⟨q + 1, some ⟨g, 0, none⟩, c, hq, by simp, rfl, hown, ?_, ?_, ?_⟩
  · rcases hF with ⟨h1, h2⟩ | h1
    · have h3 := own_take (k := b.n) hown (by omega)
      rw [List.take_replicate, Nat.min_eq_left (by omega), h1, h2] at h3
      exact h3
    · refine World.ownsRow.kept hMa hg ?_
      rcases hv : b.v.ownBlock with _ | j
      · exact .inl rfl
      · refine .inr fun he => ?_
        have h2 := hlt j hv
        have h3 := h1 g rfl
        injection he with he
        omega
  · refine ⟨hg.os.trans hGa.os, hg.tape.trans hGa.tape, hg.output.trans hGa.output, Nat.le_trans hGa.size hg.size, fun j hj hne => ?_⟩
    rw [hg.block j (Nat.lt_of_lt_of_le hj hGa.size) ?_]
    · exact hGa.block j hj hne
    · intro he
      injection he with he
      subst he
      rcases hF with ⟨h1, _⟩ | h1
      · apply hne
        unfold BL.v
        rw [← h1]; rfl
      · have := h1 j rfl
        omega
  · rcases hF with ⟨h1, h2⟩ | h1
    · exact .inl ⟨h1, h2⟩
    · exact .inr fun j hj => h1 j hj
/-- one more mark, elsewhere -/
theorem GQ.moves {w0 wr w' : World} {base q : Nat} {b : BL} {v' : Value} {o : Obj} (hq : q < 40) (hbase : base ≤ (wr.alloc o).heap.size) (hM : Marked wr base b) (hG : w0.grownBy wr b.v.ownBlock)
    (hown : w'.ownsRow (wr.alloc o).heap.size 5 1 v' (b.n + q + 1) (List.replicate (b.n + q) (mk b.num) ++ [mk b.num])) (hg : (wr.alloc o).grownBy w' none) :
    GQ w0 base b v' (.int .i64 ((q : Int) + 1)) w' := by
  have hrep : List.replicate (b.n + q) (mk b.num) ++ [mk b.num] = List.replicate (b.n + (q + 1)) (mk b.num) := by rw [← List.replicate_succ']; rfl
  rw [hrep] at hown
  have hGa : w0.grownBy (wr.alloc o) b.v.ownBlock := hG.trans (World.grownBy_alloc wr o _)
  obtain ⟨A, c, rfl, _⟩ := own_shape hown
  refine ⟨q + 1, A, c, hq, by simp, rfl, own_base hown hbase, World.ownsRow.kept (World.ownsRow.alloc hM o) hg (by cases b.v.ownBlock <;> simp), ?_, .inr fun j hj => ?_⟩
  · exact ⟨hg.os.trans hGa.os, hg.tape.trans hGa.tape, hg.output.trans hGa.output, Nat.le_trans hGa.size hg.size, fun j hj hne => by
      rw [hg.block j (Nat.lt_of_lt_of_le hj hGa.size) (by simp)]; exact hGa.block j hj hne⟩
  · exact Nat.le_trans hGa.size (hown.lt j hj).1

/-- a list is grown: what is known of all -/
theorem grow_step {w0 wr : World} {base m gv cv k : Nat} {gs : List (BL × Value)} {b : BL} {A : Option Addr} {c : Nat} {hs : List Value} (hbase : base ≤ w0.heap.size) (hG : Grw w0 base gs m) (hD : DisG w0 gs) (hm : gs[m]? = some (b, nilS))
    (hown : wr.ownsRow base 5 1 (.slice A (b.n + 40) c) (b.n + 40) (List.replicate (b.n + 40) (mk b.num))) (hM : Marked wr base b) (hgr : w0.grownBy wr b.v.ownBlock)
    (hF : A = b.A ∧ c = b.c ∨ ∀ j, (Value.slice A (b.n + 40) c).ownBlock = some j → w0.heap.size ≤ j) (hbk : wr.ownsRow base 61 3 (.slice (some ⟨gv, 0, none⟩) k cv) k hs) :
    Grw (wr.setCell ⟨gv, 3 * m + 1, none⟩ (.slice A (b.n + 40) c)) base (gs.set m (b, .slice A (b.n + 40) c)) (m + 1) ∧ DisG (wr.setCell ⟨gv, 3 * m + 1, none⟩ (.slice A (b.n + 40) c)) (gs.set m (b, .slice A (b.n + 40) c)) := by
  have hml : m < gs.length := by rcases List.getElem?_eq_some_iff.1 hm with ⟨h, _⟩; exact h
  have hset : ∀ {v : Value} {n : Nat} {xs : List Value}, wr.ownsRow base 5 1 v n xs → (wr.setCell ⟨gv, 3 * m + 1, none⟩ (.slice A (b.n + 40) c)).ownsRow base 5 1 v n xs := by
    intro v n xs h
    refine own_setOther h ?_ _
    rcases own_ne hbk h (by decide) with h1 | h1
    · cases h1
    · exact h1
  have hblk : ∀ {i o}, Has (gs.set m (b, .slice A (b.n + 40) c)) i o → Has gs i o ∨ i = m ∧ w0.heap.size ≤ o ∧ o < wr.heap.size := by
    rintro i o ⟨b', lv, hi, ho⟩
    by_cases him : i = m
    · subst him
      rw [List.getElem?_set_self hml] at hi
      injection hi with hi
      injection hi with h1 h2
      subst h1 h2
      rcases ho with ho | ho
      · exact .inl ⟨b, nilS, hm, .inl ho⟩
      · rcases hF with ⟨h1, h2⟩ | h1
        · refine .inl ⟨b, nilS, hm, .inl ?_⟩
          unfold BL.v
          rw [← h1]
          cases A with
          | none => cases ho
          | some a => exact ho
        · exact .inr ⟨rfl, h1 o ho, (hown.lt o ho).2⟩
    · rw [List.getElem?_set_ne (fun e => him e.symm)] at hi
      exact .inl ⟨b', lv, hi, ho⟩
  have hsz : (wr.setCell ⟨gv, 3 * m + 1, none⟩ (.slice A (b.n + 40) c)).heap.size = wr.heap.size := by simp [World.setCell]
  refine ⟨?_, ?_, ?_⟩
  · intro i b' lv hi
    by_cases him : i = m
    · subst him
      rw [List.getElem?_set_self hml] at hi
      injection hi with hi
      injection hi with h1 h2
      subst h1 h2
      exact ⟨hset hM, fun _ => hset hown, fun h => absurd h (by omega)⟩
    · rw [List.getElem?_set_ne (fun e => him e.symm)] at hi
      obtain ⟨g1, g2, g3⟩ := hG i b' lv hi
      have hne : ∀ v : Value, (∀ o, v.ownBlock = some o → Has gs i o) → v.ownBlock = none ∨ v.ownBlock ≠ b.v.ownBlock := by
        intro v hv
        rcases hvo : v.ownBlock with _ | o
        · exact .inl rfl
        · refine .inr fun he => him ?_
          exact hD.1 i m o (hv o hvo) ⟨b, nilS, hm, .inl he.symm⟩
      refine ⟨hset (World.ownsRow.kept g1 hgr (hne _ fun o ho => ⟨b', lv, hi, .inl ho⟩)), fun h => hset ((g2 (by omega)).kept hgr (hne _ fun o ho => ⟨b', lv, hi, .inr ho⟩)), fun h => g3 (by omega)⟩
  · intro i j o hi hj
    rcases hblk hi with h1 | ⟨h1, h2, _⟩
    · rcases hblk hj with h3 | ⟨h3, h4, _⟩
      · exact hD.1 i j o h1 h3
      · have := hD.2 i o h1; omega
    · rcases hblk hj with h3 | ⟨h3, h4, _⟩
      · have := hD.2 j o h3; omega
      · omega
  · intro i o hi
    rw [hsz]
    rcases hblk hi with h1 | ⟨_, _, h3⟩
    · exact Nat.lt_of_lt_of_le (hD.2 i o h1) hgr.size
    · exact h3

end Go.Proofs.YtjeijgkkobmdbaaGreatDoor
