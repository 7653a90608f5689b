/-
  Contract of package journals' read: the records of a file, and where they end.
-/
import Derived.Test.YtopcnlophmplgaaPartD
import Derived.Test.YtopcnlophmplgaaRcdO
import Derived.Shelf.RegionOpen
import Derived.Scope
namespace Go.Proofs.Ytopcnlophmplgaa
open Go.RowKit
set_option linter.unusedVariables false
set_option maxRecDepth 100000
attribute [local go_sem] Oper.semAt_some

/-- append, as a step that the walk does not lay open -/
def appQ (ats : Array TypeId) (ty : TypeId) (args : Array Value) : Sem Value := Builtin.append_ ats ty args
theorem builtin_appQ {ats : Array TypeId} {ty : TypeId} {cs : Array Bool} {args : Array Value} : builtin .append ats ty cs args = (do pure (.value (← appQ ats ty args))) := rfl
attribute [local go_sem ↓ 100000] builtin_appQ

theorem parts_stops (m n₀ Bn n c : Nat) (A : Option Addr) (f : List UInt8) (w : World) (G : Nat → Prop) (hG : G Bn) (hL : Lies w n₀ 1 A n (f.map bv)) (hnc : n ≤ c) (hcc : c ≤ 9223372036854775807) (hn : n ≤ 1073741824) (hn₀ : n₀ ≤ w.heap.size) (hBn : w.cell? ⟨Bn, 0, none⟩ = some (.slice A n c)) :
    SeqStopsK Fence.wide m Try.prog 88 #[.pointer (some ⟨Bn, 0, none⟩)] (fun x : PX w n₀ => #[Value.agg #[.int .i64 (x.1.pos : Int), bv x.1.k, .slice x.1.A x.1.n x.1.c]]) (KpJ n₀ G) (fun xs => ∃ b, Jr.Path f 0 (pts xs) b ∧ Jr.getP f (Jr.nextP b) = none) (fun pre => ∃ b, Jr.Path f 0 (pts pre) b) (n + 1) w := fun l J Jx W hW hJ _ hY h0 =>
  callsIn_wide.2 (parts1_any w n₀ (m - 1) l Bn n c A f G hG hL hnc hcc hn J Jx W hJ hY ⟨Nat.le_trans hn₀ hW.size, fun i hi => hW.block i (Nat.lt_of_lt_of_le hi hn₀)⟩ ((hW.cell (p := ⟨Bn, 0, none⟩) (World.block_lt_of_cell? w _ hBn)).trans hBn) h0)

theorem RecsAt.keepS {S : Nat → Prop} {A B : World} {base : Nat} {vr vb : Value} {rs : List Rcd} {bl : List UInt8} (h : RecsAt A base vr vb rs bl) (hw : Wrote S A B) (hs : ∀ i o, S i → base ≤ i → A.heap[i]? = some o → o.isCells = false) : RecsAt B base vr vb rs bl := by
  have hq : ∀ {e k n : Nat} {v : Value} {xs : List Value}, A.ownsRow base e k v n xs → B.ownsRow base e k v n xs := fun hr => hw.row hr fun g hg hS => by
    rcases hr.2 with ⟨rfl, _⟩ | ⟨g', cap, cur, rfl, hb, hh, _⟩
    · cases hg
    · have : g' = g := by simpa [Value.ownBlock] using hg
      subst this
      have := hs g' _ hS hb hh
      cases this
  exact ⟨hq h.row, fun r hr => hq (h.each r hr), h.apart, hq h.cur, h.curApart⟩
theorem k_ne {k c : UInt8} (h : k ≠ c) (j : Nat) (hj : c.toNat = j) : ¬ (k.toNat : Int) = (j : Int) := fun e => h (UInt8.toNat_inj.1 (by rw [hj]; omega))
theorem Wrote.boxed {S : Nat → Prop} {A B : World} (h : Wrote S A B) {i : Nat} {t : TypeId} {v : Value} (hb : Boxed A i t v) (hs : ¬ S i) : Boxed B i t v := (h.block i hb.lt hs).trans hb
theorem kpJ_alloc (n₀ : Nat) (G : Nat → Prop) (W : World) (o : Obj) : KpJ n₀ G W (W.alloc o) := ⟨by simp, fun i x hx _ => (Below.heap_alloc W o i (Array.getElem?_eq_some_iff.1 hx).1).trans hx⟩
/-- what the reader's variables hold -/
structure RdAt (w W : World) (s : Nat) (st : Jr.JS) (rs : List Rcd) (vr vb : Value) : Prop where
  b0 : Boxed W s 22 vr
  b1 : Boxed W (s + 1) 3 (.int .i64 (st.fin : Int))
  b2 : Boxed W (s + 1 + 1) 33 vb
  b3 : Boxed W (s + 1 + 1 + 1) 4 (.bool st.begun.isSome)
  recs : RecsAt W (s + 5) vr vb rs (st.begun.getD [])
  out : rs.map Rcd.l = st.out
  low : Below s w W
  sz : s + 5 ≤ W.heap.size
theorem RdAt.own {w W W' : World} {s : Nat} {st : Jr.JS} {rs : List Rcd} {vr vb : Value} {row : Option Nat} (h : RdAt w W s st rs vr vb) (hs : s ≤ w.heap.size) (hg : W.grownBy W' row) (hr : ∀ r, row = some r → s + 5 ≤ r ∧ ∃ o : Obj, W.heap[r]? = some o ∧ o.isCells = false) : RdAt w W' s st rs vr vb := by
  have hb : ∀ {i : Nat} {t : TypeId} {v : Value}, Boxed W i t v → Boxed W' i t v := fun hbx => hbx.kept hg (fun e => by
    obtain ⟨_, o, ho, hc⟩ := hr _ e.symm
    rw [show W.heap[_]? = _ from hbx] at ho
    injection ho with ho
    subst ho
    cases hc)
  refine ⟨hb h.b0, hb h.b1, hb h.b2, hb h.b3, h.recs.keepS (Wrote.grown hg) (fun i o hi _ ho => ?_), h.out, h.low.grown hg (Nat.le_trans hs h.low.size) (fun k e => by have := (hr k e).1; omega), Nat.le_trans h.sz hg.size⟩
  obtain ⟨_, o', ho', hc⟩ := hr i hi
  rw [ho] at ho'
  injection ho' with ho'
  subst ho'
  exact hc
/-- what a round writes -/
def SR (s : Nat) (vr vb : Value) (i : Nat) : Prop := i = s ∨ i = s + 1 ∨ i = s + 1 + 1 ∨ i = s + 1 + 1 + 1 ∨ (s + 5 ≤ i ∧ (vb.ownBlock = some i ∨ vr.ownBlock = some i))
theorem own_cells {W : World} {base e k n g : Nat} {v : Value} {xs : List Value} (h : W.ownsRow base e k v n xs) (hg : v.ownBlock = some g) : ∃ cur, W.heap[g]? = some (.cells cur e (0, 0)) := by
  rcases h.2 with ⟨rfl, _⟩ | ⟨g', cap, cur, rfl, _, hh, _⟩
  · cases hg
  · have : g' = g := by simpa [Value.ownBlock] using hg
    subst this
    exact ⟨cur, hh⟩
theorem RdAt.round {w W W' : World} {s : Nat} {st : Jr.JS} {vr vb : Value} {rs : List Rcd} (hR : RdAt w W s st rs vr vb) (hw : Wrote (SR s vr vb) W W') (hs : s ≤ W.heap.size) : KeepsFrom (s + 5) W W' ∧ KpJ s (fun i => i = s + 1 + 1 + 1 + 1) W W' ∧ Below s W W' := by
  have h := hR.recs
  have hc : ∀ i, (vb.ownBlock = some i ∨ vr.ownBlock = some i) → ∃ cur e, W.heap[i]? = some (.cells cur e (0, 0)) ∧ (e = 5 ∨ e = 33) := by
    intro i hi
    rcases hi with hi | hi
    · obtain ⟨cur, hh⟩ := own_cells h.cur hi; exact ⟨cur, _, hh, .inl rfl⟩
    · obtain ⟨cur, hh⟩ := own_cells h.row hi; exact ⟨cur, _, hh, .inr rfl⟩
  have hk : ∀ i, SR s vr vb i → ∃ cur e, W.heap[i]? = some (.cells cur e (0, 0)) ∧ e ≠ 123 ∧ e ≠ 117 := by
    intro i hi
    rcases hi with e | e | e | e | ⟨_, e⟩
    · subst e; exact ⟨_, _, hR.b0, by decide, by decide⟩
    · subst e; exact ⟨_, _, hR.b1, by decide, by decide⟩
    · subst e; exact ⟨_, _, hR.b2, by decide, by decide⟩
    · subst e; exact ⟨_, _, hR.b3, by decide, by decide⟩
    · obtain ⟨cur, t, hh, ht⟩ := hc i e
      rcases ht with rfl | rfl
      · exact ⟨_, _, hh, by decide, by decide⟩
      · exact ⟨_, _, hh, by decide, by decide⟩
  refine ⟨⟨hw.size, fun k o hkk ho hoc => (hw.block k (Array.getElem?_eq_some_iff.1 ho).1 fun hS => ?_).trans ho⟩, ⟨hw.size, fun i o ho hi => (hw.block i (Array.getElem?_eq_some_iff.1 ho).1 fun hS => ?_).trans ho⟩, hw.below (fun i hi => ?_) hs⟩
  · obtain ⟨cur, t, hh, _⟩ := hk k hS
    rw [ho] at hh
    injection hh with hh
    subst hh
    cases hoc
  · obtain ⟨cur, t, hh, h1, h2⟩ := hk i hS
    rw [ho] at hh
    injection hh with hh
    subst hh
    rcases hi with hi | hi | hi
    · rcases hS with e | e | e | e | ⟨e, _⟩ <;> omega
    · rcases hS with e | e | e | e | ⟨e, _⟩ <;> omega
    · rcases hi with hi | hi
      · exact h1 hi
      · exact h2 hi
  · rcases hi with e | e | e | e | ⟨e, _⟩ <;> omega

theorem SR.not_row {w W : World} {s : Nat} {st : Jr.JS} {rs : List Rcd} {vr vb : Value} (h : RdAt w W s st rs vr vb) {Bx : Nat} {cs : Array Value} (hBx : s + 4 < Bx) (hrow : W.heap[Bx]? = some (.cells cs 123 (0, 0))) : ¬ SR s vr vb Bx := by
  intro hS
  rcases hS with e | e | e | e | ⟨_, e⟩
  · omega
  · omega
  · omega
  · omega
  · rcases e with e | e
    · obtain ⟨cur, hh⟩ := own_cells h.recs.cur e
      rw [hrow] at hh
      injection hh with hh
      injection hh with _ hh
      exact absurd hh (by decide)
    · obtain ⟨cur, hh⟩ := own_cells h.recs.row e
      rw [hrow] at hh
      injection hh with hh
      injection hh with _ hh
      exact absurd hh (by decide)
theorem RecsAt.drew {W : World} {base : Nat} {vr vb : Value} {rs : List Rcd} {bl : List UInt8} (h : RecsAt W base vr vb rs bl) : RecsAt W.drew base vr vb rs bl := ⟨h.row, h.each, h.apart, h.cur, h.curApart⟩
/-- a record is put behind the others: what the appends answer, and what is known of the world where their answer was stored -/
theorem RdAt.push {w W : World} {s : Nat} {st : Jr.JS} {rs : List Rcd} {Ar Ab : Option Addr} {nr cr nb cb : Nat} (h : RdAt w W s st rs (.slice Ar nr cr) (.slice Ab nb cb)) {bl : List UInt8} (hbl : st.begun.getD [] = bl) (hnb : bl.length = nb) (hnr : rs.length = nr)
    {B n1 c1 : Nat} {A1 : Option Addr} {d : List UInt8} (hd : Lies W B 1 A1 n1 (d.map bv)) (hb1 : nb ≤ 274877906944) (hn1 : n1 ≤ 65535) (hr1 : nr ≤ 1073741824) {Bx : Nat} {cs : Array Value} (hBx : s + 4 < Bx) (hrow : W.heap[Bx]? = some (.cells cs 123 (0, 0))) :
    ∃ A2 c2 W1 A3 c3 W2 rs', (Builtin.append_ #[33, 33] 33 #[.slice Ab nb cb, .slice A1 n1 c1]).run Try.prog W.drew = .ok (.slice A2 (nb + n1) c2) W1 ∧
      (Builtin.append_ #[22, 22] 22 #[.slice Ar nr cr, .slice (some ⟨W1.heap.size, 0, none⟩) 1 1]).run Try.prog (W1.alloc (.cells #[.slice A2 (nb + n1) c2] 33)) = .ok (.slice A3 (nr + 1) c3) W2 ∧
      ∃ W3, W2.setCell ⟨s, 0, none⟩ (.slice A3 (nr + 1) c3) = W3 ∧ Wrote (SR s (.slice Ar nr cr) (.slice Ab nb cb)) W W3 ∧ RecsAt W3 (s + 5) (.slice A3 (nr + 1) c3) (.slice none 0 0) rs' [] ∧ rs'.map Rcd.l = st.out ++ [bl ++ d] ∧
      Boxed W3 s 22 (.slice A3 (nr + 1) c3) ∧ Boxed W3 (s + 1) 3 (.int .i64 (st.fin : Int)) ∧ Boxed W3 (s + 1 + 1) 33 (.slice Ab nb cb) ∧ Boxed W3 (s + 1 + 1 + 1) 4 (.bool st.begun.isSome) ∧ W3.heap[Bx]? = some (.cells cs 123 (0, 0)) ∧ W2.cell? ⟨s, 0, none⟩ = some (.slice Ar nr cr) ∧ W2.frozen? ⟨s, 0, none⟩ = false ∧ W1.cell? ⟨s, 0, none⟩ = some (.slice Ar nr cr) ∧ (W1.alloc (.cells #[.slice A2 (nb + n1) c2] 33)).cell? ⟨s, 0, none⟩ = some (.slice Ar nr cr) := by
  subst hbl hnb hnr
  have hsz := h.sz
  obtain ⟨A2, c2, W1, run1, w1, R1, _⟩ := h.recs.drew.app (B := B) (A := A1) (n := n1) (c := c1) (d := d) (by exact hsz) hd.drew (by omega)
  have w1' : Wrote (SR s (.slice Ar rs.length cr) (.slice Ab (st.begun.getD []).length cb)) W W1 := ((Wrote.refl _ W).drew).trans (w1.mono fun i _ hi => .inr (.inr (.inr (.inr ⟨hi.1, .inl hi.2⟩))))
  have hdl : (st.begun.getD [] ++ d).length = (st.begun.getD []).length + n1 := by rw [List.length_append, hd.blen]
  obtain ⟨A3, c3, W2, run2, w2, R2⟩ := R1.push hdl (Nat.le_trans hsz w1'.size) hr1
  have w2' : Wrote (SR s (.slice Ar rs.length cr) (.slice Ab (st.begun.getD []).length cb)) W W2 := w1'.trans (w2.mono fun i _ hi => .inr (.inr (.inr (.inr ⟨hi.1, .inr hi.2⟩))))
  -- boxes are no rows
  have hno : ∀ i, i < s + 5 → ∀ {X Y : World}, Wrote (fun j => s + 5 ≤ j ∧ True) X Y → i < X.heap.size → Y.heap[i]? = X.heap[i]? := fun i hi X Y hw hlt => hw.block i hlt (fun hh => by omega)
  have hWW2 : Wrote (fun j => s + 5 ≤ j ∧ True) W W2 := (((Wrote.refl _ W).drew).trans (w1.mono fun i _ hi => ⟨hi.1, trivial⟩)).trans (w2.mono fun i _ hi => ⟨hi.1, trivial⟩)
  have q0 : Boxed W2 s 22 (.slice Ar rs.length cr) := (hno s (by omega) hWW2 h.b0.lt).trans h.b0
  have qq : Boxed W1 s 22 (.slice Ar rs.length cr) := (hno s (by omega) (((Wrote.refl _ W).drew).trans (w1.mono fun i _ hi => ⟨hi.1, trivial⟩)) h.b0.lt).trans h.b0
  have q1 : Boxed W2 (s + 1) 3 (.int .i64 (st.fin : Int)) := (hno (s + 1) (by omega) hWW2 h.b1.lt).trans h.b1
  have q2 : Boxed W2 (s + 1 + 1) 33 (.slice Ab (st.begun.getD []).length cb) := (hno (s + 1 + 1) (by omega) hWW2 h.b2.lt).trans h.b2
  have q3 : Boxed W2 (s + 1 + 1 + 1) 4 (.bool st.begun.isSome) := (hno (s + 1 + 1 + 1) (by omega) hWW2 h.b3.lt).trans h.b3
  have w3 : Wrote (SR s (.slice Ar rs.length cr) (.slice Ab (st.begun.getD []).length cb)) W (W2.setCell ⟨s, 0, none⟩ (.slice A3 (rs.length + 1) c3)) := w2'.set (p := ⟨s, 0, none⟩) (.inl rfl) _
  refine ⟨A2, c2, W1, A3, c3, W2, _, run1, run2, _, rfl, w3, R2.keep ((Wrote.refl (fun i => i = s) W2).set (p := ⟨s, 0, none⟩) rfl _) (fun i hi => by omega), ?_, q0.set _, q1.other (by omega) _, q2.other (by omega) _, q3.other (by omega) _, (w3.block Bx (Array.getElem?_eq_some_iff.1 hrow).1 (SR.not_row h hBx hrow)).trans hrow, q0.cell, q0.frozen, qq.cell, (qq.alloc _).cell⟩
  rw [List.map_append, h.out]; rfl
/-- the round's end -/
theorem RdAt.pushed {w W W3 W4 : World} {s : Nat} {st : Jr.JS} {rs rs' : List Rcd} {vr vb vr' : Value} (h : RdAt w W s st rs vr vb) {out : List (List UInt8)} (fin : Nat) (hw : Wrote (SR s vr vb) W W3) (hr : RecsAt W3 (s + 5) vr' (.slice none 0 0) rs' []) (ho : rs'.map Rcd.l = out)
    (b0 : Boxed W3 s 22 vr') {x1 : Value} (b1 : Boxed W3 (s + 1) 3 x1) {x2 : Value} (b2 : Boxed W3 (s + 1 + 1) 33 x2) {x3 : Value} (b3 : Boxed W3 (s + 1 + 1 + 1) 4 x3) (hb : Below W3.heap.size W3 W4) (hs : s ≤ W.heap.size) :
    (W4.cell? ⟨s + 1, 0, none⟩ = some x1 ∧ W4.frozen? ⟨s + 1, 0, none⟩ = false ∧ W4.cell? ⟨s + 1 + 1, 0, none⟩ = some x2 ∧ W4.frozen? ⟨s + 1 + 1, 0, none⟩ = false ∧ W4.cell? ⟨s + 1 + 1 + 1, 0, none⟩ = some x3 ∧ W4.frozen? ⟨s + 1 + 1 + 1, 0, none⟩ = false) ∧
    Hid (RdAt w (((W4.setCell ⟨s + 1 + 1, 0, none⟩ (.slice none 0 0)).setCell ⟨s + 1 + 1 + 1, 0, none⟩ (.bool false)).setCell ⟨s + 1, 0, none⟩ (.int .i64 (fin : Int))) s ⟨out, none, fin⟩ rs' vr' (.slice none 0 0) ∧
    Wrote (SR s vr vb) W (((W4.setCell ⟨s + 1 + 1, 0, none⟩ (.slice none 0 0)).setCell ⟨s + 1 + 1 + 1, 0, none⟩ (.bool false)).setCell ⟨s + 1, 0, none⟩ (.int .i64 (fin : Int)))) := by
  have w4 : Wrote (SR s vr vb) W W4 := hw.trans (Wrote.of_below hb)
  have k0 : Boxed W4 s 22 vr' := (hb.block _ b0.lt).trans b0
  have k1 : Boxed W4 (s + 1) 3 x1 := (hb.block _ b1.lt).trans b1
  have k2 : Boxed W4 (s + 1 + 1) 33 x2 := (hb.block _ b2.lt).trans b2
  have k3 : Boxed W4 (s + 1 + 1 + 1) 4 x3 := (hb.block _ b3.lt).trans b3
  refine ⟨⟨k1.cell, k1.frozen, k2.cell, k2.frozen, k3.cell, k3.frozen⟩, ?_⟩
  have hw9 : Wrote (SR s vr vb) W (((W4.setCell ⟨s + 1 + 1, 0, none⟩ (.slice none 0 0)).setCell ⟨s + 1 + 1 + 1, 0, none⟩ (.bool false)).setCell ⟨s + 1, 0, none⟩ (.int .i64 (fin : Int))) :=
    ((w4.set (p := ⟨s + 1 + 1, 0, none⟩) (.inr (.inr (.inl rfl))) _).set (p := ⟨s + 1 + 1 + 1, 0, none⟩) (.inr (.inr (.inr (.inl rfl)))) _).set (p := ⟨s + 1, 0, none⟩) (.inr (.inl rfl)) _
  have hk : RecsAt W4 (s + 5) vr' (.slice none 0 0) rs' [] := hr.keep (S := fun _ => False) (Wrote.of_below hb) (fun i hi => hi.elim)
  have hk9 := hk.keep ((((Wrote.refl (fun i => i < s + 5) W4).set (p := ⟨s + 1 + 1, 0, none⟩) (by show s + 1 + 1 < s + 5; omega) (.slice none 0 0)).set (p := ⟨s + 1 + 1 + 1, 0, none⟩) (by show s + 1 + 1 + 1 < s + 5; omega) (.bool false)).set (p := ⟨s + 1, 0, none⟩) (by show s + 1 < s + 5; omega) (.int .i64 (fin : Int))) (fun i hi => hi)
  refine Lib.hid ⟨⟨((k0.other (by omega) _).other (by omega) _).other (by omega) _, ((k1.other (by omega) _).other (by omega) _).set _, ((k2.set _).other (by omega) _).other (by omega) _, ((k3.other (by omega) _).set _).other (by omega) _, hk9, ho, ?_, Nat.le_trans h.sz hw9.size⟩, hw9⟩
  exact h.low.trans (h.round hw9 hs).2.2
/-- a record goes on -/
theorem RdAt.goes {w W : World} {s : Nat} {st : Jr.JS} {rs : List Rcd} {vr : Value} {Ab : Option Addr} {nb cb : Nat} (h : RdAt w W s st rs vr (.slice Ab nb cb)) {bl : List UInt8} (hbl : st.begun.getD [] = bl) (hnb : bl.length = nb)
    {B n1 c1 : Nat} {A1 : Option Addr} {d : List UInt8} (hd : Lies W B 1 A1 n1 (d.map bv)) (hb1 : nb ≤ 274877906944) (hn1 : n1 ≤ 65535) (hs : s ≤ W.heap.size) :
    ∃ A2 c2 W1, (Builtin.append_ #[33, 33] 33 #[.slice Ab nb cb, .slice A1 n1 c1]).run Try.prog W = .ok (.slice A2 (nb + n1) c2) W1 ∧
      (W1.cell? ⟨s + 1 + 1, 0, none⟩ = some (.slice Ab nb cb) ∧ W1.frozen? ⟨s + 1 + 1, 0, none⟩ = false ∧ W1.cell? ⟨s + 1 + 1 + 1, 0, none⟩ = some (.bool st.begun.isSome) ∧ W1.frozen? ⟨s + 1 + 1 + 1, 0, none⟩ = false) ∧
      Hid (RdAt w ((W1.setCell ⟨s + 1 + 1, 0, none⟩ (.slice A2 (nb + n1) c2)).setCell ⟨s + 1 + 1 + 1, 0, none⟩ (.bool true)) s ⟨st.out, some (bl ++ d), st.fin⟩ rs vr (.slice A2 (nb + n1) c2) ∧
      Wrote (SR s vr (.slice Ab nb cb)) W ((W1.setCell ⟨s + 1 + 1, 0, none⟩ (.slice A2 (nb + n1) c2)).setCell ⟨s + 1 + 1 + 1, 0, none⟩ (.bool true))) := by
  subst hbl hnb
  have hsz := h.sz
  obtain ⟨A2, c2, W1, run1, w1, R1, _⟩ := h.recs.app (B := B) (A := A1) (n := n1) (c := c1) (d := d) (by exact hsz) hd (by omega)
  have w1' : Wrote (SR s vr (.slice Ab (st.begun.getD []).length cb)) W W1 := w1.mono fun i _ hi => .inr (.inr (.inr (.inr ⟨hi.1, .inl hi.2⟩)))
  have hno : ∀ i, i < s + 5 → i < W.heap.size → W1.heap[i]? = W.heap[i]? := fun i hi hlt => w1.block i hlt (fun hh => by omega)
  have k0 : Boxed W1 s 22 vr := (hno s (by omega) h.b0.lt).trans h.b0
  have k1 : Boxed W1 (s + 1) 3 (.int .i64 (st.fin : Int)) := (hno (s + 1) (by omega) h.b1.lt).trans h.b1
  have k2 : Boxed W1 (s + 1 + 1) 33 (.slice Ab (st.begun.getD []).length cb) := (hno (s + 1 + 1) (by omega) h.b2.lt).trans h.b2
  have k3 : Boxed W1 (s + 1 + 1 + 1) 4 (.bool st.begun.isSome) := (hno (s + 1 + 1 + 1) (by omega) h.b3.lt).trans h.b3
  have hw9 : Wrote (SR s vr (.slice Ab (st.begun.getD []).length cb)) W ((W1.setCell ⟨s + 1 + 1, 0, none⟩ (.slice A2 ((st.begun.getD []).length + n1) c2)).setCell ⟨s + 1 + 1 + 1, 0, none⟩ (.bool true)) :=
    (w1'.set (p := ⟨s + 1 + 1, 0, none⟩) (.inr (.inr (.inl rfl))) _).set (p := ⟨s + 1 + 1 + 1, 0, none⟩) (.inr (.inr (.inr (.inl rfl)))) _
  have hk9 := R1.keep (((Wrote.refl (fun i => i < s + 5) W1).set (p := ⟨s + 1 + 1, 0, none⟩) (by show s + 1 + 1 < s + 5; omega) (.slice A2 ((st.begun.getD []).length + n1) c2)).set (p := ⟨s + 1 + 1 + 1, 0, none⟩) (by show s + 1 + 1 + 1 < s + 5; omega) (.bool true)) (fun i hi => hi)
  refine ⟨A2, c2, W1, run1, ⟨k2.cell, k2.frozen, k3.cell, k3.frozen⟩, Lib.hid ⟨⟨(k0.other (by omega) _).other (by omega) _, (k1.other (by omega) _).other (by omega) _, (k2.set _).other (by omega) _, (k3.other (by omega) _).set _, hk9, h.out, ?_, Nat.le_trans h.sz hw9.size⟩, hw9⟩⟩
  exact h.low.trans (h.round hw9 hs).2.2

theorem RecsAt.done {W : World} {base base' : Nat} {vr vb : Value} {rs : List Rcd} {bl : List UInt8} (h : RecsAt W base vr vb rs bl) (hb : base' ≤ base) : RecsAt W base' vr (.slice none 0 0) rs [] :=
  ⟨own_base h.row hb, fun r hr => own_base (h.each r hr) hb, h.apart, World.ownsRow_nil _ _ _ _, fun r _ => .inl rfl⟩
theorem RdAt.close {w W : World} {s D : Nat} {st : Jr.JS} {rs : List Rcd} {vr vb : Value} (h : RdAt w W s st rs vr vb) (hD : s + 5 ≤ D) (hK : W.heap[D]? = some (.deferred (some []))) (hs : s ≤ w.heap.size) :
    ((W.setCell ⟨s, 0, none⟩ vr).setCell ⟨s + 1, 0, none⟩ (.int .i64 (st.fin : Int))).drew.heap[D]? = some (.deferred (some [])) ∧
    (((W.setCell ⟨s, 0, none⟩ vr).setCell ⟨s + 1, 0, none⟩ (.int .i64 (st.fin : Int))).drew.putObj D (.deferred none)).cell? ⟨s, 0, none⟩ = some vr ∧
    (((W.setCell ⟨s, 0, none⟩ vr).setCell ⟨s + 1, 0, none⟩ (.int .i64 (st.fin : Int))).drew.putObj D (.deferred none)).cell? ⟨s + 1, 0, none⟩ = some (.int .i64 (st.fin : Int)) ∧
    Hid (RecsAt (((W.setCell ⟨s, 0, none⟩ vr).setCell ⟨s + 1, 0, none⟩ (.int .i64 (st.fin : Int))).drew.putObj D (.deferred none)) s vr (.slice none 0 0) rs [] ∧
    Below s w (((W.setCell ⟨s, 0, none⟩ vr).setCell ⟨s + 1, 0, none⟩ (.int .i64 (st.fin : Int))).drew.putObj D (.deferred none))) := by
  have hw : Wrote (fun i => i < s + 5 ∧ s ≤ i) W ((W.setCell ⟨s, 0, none⟩ vr).setCell ⟨s + 1, 0, none⟩ (.int .i64 (st.fin : Int))).drew :=
    (((Wrote.refl _ W).set (p := ⟨s, 0, none⟩) (by show s < s + 5 ∧ s ≤ s; omega) _).set (p := ⟨s + 1, 0, none⟩) (by show s + 1 < s + 5 ∧ s ≤ s + 1; omega) _).drew
  have k0 : Boxed ((W.setCell ⟨s, 0, none⟩ vr).setCell ⟨s + 1, 0, none⟩ (.int .i64 (st.fin : Int))).drew s 22 vr := (h.b0.set vr).other (by omega) _
  have k1 : Boxed ((W.setCell ⟨s, 0, none⟩ vr).setCell ⟨s + 1, 0, none⟩ (.int .i64 (st.fin : Int))).drew (s + 1) 3 (.int .i64 (st.fin : Int)) := (h.b1.other (by omega) _).set _
  have hdl := (Array.getElem?_eq_some_iff.1 hK).1
  have hK5 := (hw.block D hdl (fun hh => by omega)).trans hK
  have hR5 := h.recs.keep hw (fun i hi => hi.1)
  have hB5 : Below s w ((W.setCell ⟨s, 0, none⟩ vr).setCell ⟨s + 1, 0, none⟩ (.int .i64 (st.fin : Int))).drew := h.low.trans (hw.below (fun i hi => hi.2) (by have := h.sz; omega))
  generalize ((W.setCell ⟨s, 0, none⟩ vr).setCell ⟨s + 1, 0, none⟩ (.int .i64 (st.fin : Int))).drew = W5 at *
  have hg := grownBy_putObj' W5 D (.deferred none)
  have q0 : Boxed (W5.putObj D (.deferred none)) s 22 vr := k0.kept hg (fun e => by injection e with e; omega)
  have q1 : Boxed (W5.putObj D (.deferred none)) (s + 1) 3 (.int .i64 (st.fin : Int)) := k1.kept hg (fun e => by injection e with e; omega)
  refine ⟨hK5, q0.cell, q1.cell, Lib.hid ⟨?_, ?_⟩⟩
  · refine (hR5.keepS (Wrote.grown hg) (fun i o hi _ ho => ?_)).done (by omega)
    injection hi with hi
    subst hi
    rw [hK5] at ho
    injection ho with ho
    subst ho
    rfl
  · exact hB5.grown hg (by have := (Array.getElem?_eq_some_iff.1 hK5).1; omega) (fun k e => by injection e with e; omega)

set_option maxHeartbeats 4000000 in
theorem read_any (A : Option Addr) (n c : Nat) (f : List UInt8) (w : World) (h : Lies w w.heap.size 1 A n (f.map bv)) (hnc : n ≤ c) (hcc : c ≤ 9223372036854775807) (hn : n ≤ 2097152) :
    Calls Try.prog 50 #[.slice A n c] w fun e w' => ∃ (vr : Value) (rs : List Rcd) (fin : Nat), e = .returned (.tuple #[vr, .int .i64 (fin : Int)]) ∧ Jr.Reads f (rs.map Rcd.l) fin ∧ RecsAt w' w.heap.size vr (.slice none 0 0) rs [] ∧ Below w.heap.size w w' := by
  have HL := Lib.hid h
  clear h
  have hmf : ∀ (fn : Fn) (first cap : Array Value) (w : World), (Instr.makeFunc fn first cap).run Try.prog w = .ok (.func fn first cap) w := fun _ _ _ _ => rfl
  refine (callsIn_wide (n := 6)).1 ?_
  refine callsIn_of_wp_marks Try.func50 rfl trivial ?_ rfl
  simp only [Try.ntmps50, List.size_toArray, List.length_cons, List.length_nil, Nat.reduceAdd, Nat.reduceSub, Array.replicate_succ, Array.replicate_zero, List.push_toArray, List.append_toArray, List.nil_append, List.cons_append]
  gi_wp2_with fail
  refine wpIn_wide.2 (wp_scope_straight ((wpIn_wide (n := 6)).1 ?_))
  gi_wp2_with fail
  refine wpIn_wide.2 (wp_label ?_)
  gi_wp2_with fail
  refine ⟨trivial, (callsIn_wide.2 (parts_any A n c _)).mono ?_⟩
  rintro e w' ⟨rfl, rfl⟩
  have b0 := ((((Boxed.new w 22 (.slice none 0 0)).alloc (.cells #[.int .i64 0] 3)).alloc (.cells #[.slice none 0 0] 33)).alloc (.cells #[.bool false] 4)).alloc (.cells #[.slice A n c] 33)
  have b1 := (((Boxed.new (w.alloc (.cells #[.slice none 0 0] 22)) 3 (.int .i64 0)).alloc (.cells #[.slice none 0 0] 33)).alloc (.cells #[.bool false] 4)).alloc (.cells #[.slice A n c] 33)
  have b2 := ((Boxed.new ((w.alloc (.cells #[.slice none 0 0] 22)).alloc (.cells #[.int .i64 0] 3)) 33 (.slice none 0 0)).alloc (.cells #[.bool false] 4)).alloc (.cells #[.slice A n c] 33)
  have b3 := (Boxed.new (((w.alloc (.cells #[.slice none 0 0] 22)).alloc (.cells #[.int .i64 0] 3)).alloc (.cells #[.slice none 0 0] 33)) 4 (.bool false)).alloc (.cells #[.slice A n c] 33)
  have b4 := Boxed.new ((((w.alloc (.cells #[.slice none 0 0] 22)).alloc (.cells #[.int .i64 0] 3)).alloc (.cells #[.slice none 0 0] 33)).alloc (.cells #[.bool false] 4)) 33 (.slice A n c)
  have hB0 := (((((Below.refl w.heap.size w).alloc (Nat.le_refl _) (.cells #[.slice none 0 0] 22)).alloc (by simp) (.cells #[.int .i64 0] 3)).alloc (by simp; omega) (.cells #[.slice none 0 0] 33)).alloc (by simp; omega) (.cells #[.bool false] 4)).alloc (by simp; omega) (.cells #[.slice A n c] 33)
  have hsz : (((((w.alloc (.cells #[.slice none 0 0] 22)).alloc (.cells #[.int .i64 0] 3)).alloc (.cells #[.slice none 0 0] 33)).alloc (.cells #[.bool false] 4)).alloc (.cells #[.slice A n c] 33)).heap.size = w.heap.size + 5 := by simp
  simp only [World.size_alloc] at b1 b2 b3 b4
  gi_wp2_with fail
  obtain ⟨W0, hW0⟩ : ∃ W0, ((((w.alloc (.cells #[.slice none 0 0] 22)).alloc (.cells #[.int .i64 0] 3)).alloc (.cells #[.slice none 0 0] 33)).alloc (.cells #[.bool false] 4)).alloc (.cells #[.slice A n c] 33) = W0 := ⟨_, rfl⟩
  rw [hW0] at b0 b1 b2 b3 b4 hB0 hsz ⊢
  clear hW0
  have hmx : Try.prog.follows .mixedOrders = true := by kernel_rfl
  have R0 : RdAt w W0 w.heap.size Jr.JS.init [] (.slice none 0 0) (.slice none 0 0) := ⟨b0, b1, b2, b3, ⟨World.ownsRow_nil _ _ _ _, (fun r hr => by cases hr), List.Pairwise.nil, World.ownsRow_nil _ _ _ _, (fun r hr => by cases hr)⟩, rfl, hB0, by omega⟩
  refine wpIn_rangeFunc_ownH (α := PX W0 w.heap.size) rfl (by decide) (gf := 88) (lb := #[.pointer (some ⟨w.heap.size + 1 + 1 + 1 + 1, 0, none⟩)]) rfl trivial (enters_of Try.func88 (by kernel_rfl) rfl)
    (parts_stops 5 w.heap.size (w.heap.size + 1 + 1 + 1 + 1) n c A f W0 (fun i => i = w.heap.size + 1 + 1 + 1 + 1) rfl ((HL.out.below hB0)) hnc hcc (by omega) (by omega) b4.cell) (fun h k => KpJ.trans h k) (kpJ_b (by omega) (fun i hi => by subst hi; omega)) (Below.refl _ _) (fun _ => rfl)
    (fun pre W => ∃ st rs vr vb, Jr.steps Jr.JS.init (pts pre) = some st ∧ RdAt w W w.heap.size st rs vr vb)
    (fun cd pre W => cd = .exit 0 ∧ ∃ pre' x st rs vr vb, pre = pre' ++ [x] ∧ Jr.steps Jr.JS.init (pts pre') = some st ∧ Jr.step st x.1.p = none ∧ RdAt w W w.heap.size st rs vr vb)
    (fun pre X Y row hI hg hr => by obtain ⟨st, rs, vr, vb, h1, h2⟩ := hI; exact ⟨st, rs, vr, vb, h1, h2.own (Nat.le_refl _) hg (by rw [hsz] at hr; exact hr)⟩)
    (fun cd pre X Y row hI hg hr => by obtain ⟨h0, pre', x, st, rs, vr, vb, h1, h2, h3, h4⟩ := hI; exact ⟨h0, pre', x, st, rs, vr, vb, h1, h2, h3, h4.own (Nat.le_refl _) hg (by rw [hsz] at hr; exact hr)⟩)
    ⟨_, _, _, _, rfl, R0⟩
    (fun x a' W => ∃ Bx, w.heap.size + 4 < Bx ∧ W.heap[Bx]? = some (.cells #[.int .i64 (x.1.pos : Int), bv x.1.k, .slice x.1.A x.1.n x.1.c] 123 (0, 0)) ∧
      a' = { tmps := #[.slice A n c, undef, .pointer (some ⟨w.heap.size, 0, none⟩), .pointer (some ⟨w.heap.size + 1, 0, none⟩), .pointer (some ⟨w.heap.size + 1 + 1, 0, none⟩), .pointer (some ⟨w.heap.size + 1 + 1 + 1, 0, none⟩), .pointer (some ⟨Bx, 0, none⟩), .slice A n c, .func (.func 88) #[] #[.pointer (some ⟨w.heap.size + 1 + 1 + 1 + 1, 0, none⟩)], pv x.1.pos x.1.k x.1.A x.1.n x.1.c, undef, undef, undef, undef, undef, undef, undef, undef, undef, undef, undef, undef, undef, undef, undef, undef, undef, undef, undef, undef, undef, undef, undef, undef, undef, undef, undef, undef, undef, undef, undef, undef, undef, undef, undef, undef, undef, undef, undef, undef, undef, undef, undef], defers := [] })
    (fun x a' _ X Y row hI hg hr => by
      obtain ⟨Bx, h1, h2, h3⟩ := hI
      refine ⟨Bx, h1, (hg.block Bx (Array.getElem?_eq_some_iff.1 h2).1 (fun e => ?_)).trans h2, h3⟩
      obtain ⟨_, o, ho, hc⟩ := hr Bx e.symm
      rw [h2] at ho
      injection ho with ho
      subst ho
      cases hc)
    ?assign ?body ?done ?stop
  case assign =>
    rintro l pre x W K ⟨st, rs, vr, vb, hst, hR⟩ hK
    gi_wp2
    exact hK _ _ ((KeepsOthers.alloc _ _).from _) (kpJ_alloc _ _ _ _) ⟨st, rs, vr, vb, hst, hR.own (Nat.le_refl _) (World.grownBy_alloc W _ none) (fun r e => by cases e)⟩ ⟨W.heap.size, by have := hR.sz; omega, heap_alloc_new W _, rfl⟩
  case body =>
    rintro l pre x a' W hl ⟨rl, hrl⟩ ⟨st, rs, vr, vb, hst, hR⟩ ⟨Bx, hBx, hrow, rfl⟩ hlt
    have hok := x.2
    obtain ⟨pos, k, A1, n1, c1, d, hx⟩ : ∃ pos k A1 n1 c1 d, x.1 = ⟨pos, k, A1, n1, c1, d⟩ := ⟨_, _, _, _, _, _, rfl⟩
    have hxp : x.1.p = ⟨pos, k, d⟩ := by rw [hx]; rfl
    rw [hx] at hok hrow ⊢
    obtain ⟨hd, hnc1, hcc1, hn1, hpos⟩ := hok
    dsimp only at hd hnc1 hcc1 hn1 hpos hrow
    have hdW : Lies W w.heap.size 1 A1 n1 (d.map bv) := hd.keep (fun p hp => (hR.low.cell hp).trans (hB0.cell hp).symm)
    have hstep : Jr.steps Jr.JS.init (pts (pre ++ [x])) = Jr.step st ⟨pos, k, d⟩ := by
      have e : pts (pre ++ [x]) = pts pre ++ [⟨pos, k, d⟩] := by unfold pts; rw [List.map_append, List.map_cons, List.map_nil, hxp]
      rw [e]; exact Jr.steps_snoc hst _
    obtain ⟨x0, x1, x2⟩ := row3 hrow
    have hws : w.heap.size ≤ W.heap.size := hR.low.size
    have hbd := Jr.steps_bound 65535 (pts pre) (by
      intro p hp
      obtain ⟨y, _, rfl⟩ := List.mem_map.1 hp
      have h1 := y.2.1.blen
      have h2 := y.2.2.2.2.1
      show y.1.d.length ≤ 65535
      omega) hst
    have hpl : (pts pre).length = pre.length := by simp [pts]
    have hrl := congrArg List.length hR.out
    rw [List.length_map] at hrl
    have h00 : (Jr.JS.init.begun.getD []).length = 0 := rfl
    have h01 : Jr.JS.init.out.length = 0 := rfl
    have hbnb : (st.begun.getD []).length ≤ 274877906944 := by omega
    have hrnr : rs.length ≤ 1073741824 := by omega
    clear hbd hpl hrl h00 h01
    obtain ⟨Ab, cb, rfl, _⟩ := own_shape hR.recs.cur
    obtain ⟨Ar, cr, rfl, _⟩ := own_shape hR.recs.row
    obtain ⟨bl, hbl⟩ : ∃ bl, st.begun.getD [] = bl := ⟨_, rfl⟩
    obtain ⟨nb, hnb⟩ : ∃ nb, bl.length = nb := ⟨_, rfl⟩
    obtain ⟨nr, hnr⟩ : ∃ nr, rs.length = nr := ⟨_, rfl⟩
    rw [hbl, hnb, hnr] at hR
    rw [hbl, hnb] at hbnb
    rw [hnr] at hrnr
    have c3 := hR.b3.cell
    have HR := Lib.hid hR; have HD := Lib.hid hdW; have HST := Lib.hid hst; have HStep := Lib.hid hstep; have HRow := Lib.hid hrow
    clear hst hstep hrow hR hdW hd
    cases hb : st.begun with
    | none =>
      rw [hb] at c3
      have c3 : W.cell? ⟨w.heap.size + 1 + 1 + 1, 0, none⟩ = some (.bool false) := c3
      obtain rfl : bl = [] := by rw [← hbl, hb]; rfl
      by_cases k1 : k = 1
      · have hk : (k.toNat : Int) = 1 := by rw [k1]; rfl
        obtain ⟨A2, c2, W1, A3, c3', W2, rs', run1, run2, W3, hW3, w3, R3, ho3, q0, q1, q2, q3, hrow3, g0, g1, g2, g3⟩ := HR.out.push hbl hnb hnr HD.out hbnb hn1 hrnr hBx HRow.out
        have z0 := HR.out.b0.cell; have z2 := HR.out.b2.cell
        have HW3 := Lib.hid w3; have HR3 := Lib.hid R3; have HO3 := Lib.hid ho3; have HQ0 := Lib.hid q0; have HQ1 := Lib.hid q1; have HQ2 := Lib.hid q2; have HQ3 := Lib.hid q3; have HRow3 := Lib.hid hrow3
        clear w3 R3 ho3 q0 q1 q2 q3 hrow3
        have run1 : (appQ #[33, 33] 33 #[.slice Ab nb cb, .slice A1 n1 c1]).run Try.prog W.drew = .ok (.slice A2 (nb + n1) c2) W1 := run1
        have run2 : (appQ #[22, 22] 22 #[.slice Ar nr cr, .slice (some ⟨W1.heap.size, 0, none⟩) 1 1]).run Try.prog (W1.alloc (.cells #[.slice A2 (nb + n1) c2] 33)) = .ok (.slice A3 (nr + 1) c3') W2 := run2
        gi_wp2_with fail
        gi_region_with_o (fail)
        all_goals
          obtain ⟨y0, y1, y2⟩ := row3 HRow3.out
          gi_wp2_with fail
          refine ⟨trivial, (CallsIn.inRound l (callsIn_wide.2 (end_any pos _ A1 n1 c1 W3 (by omega) (by omega)))).mono ?_⟩
          rintro e W4 ⟨rfl, hb4⟩
          obtain ⟨⟨e1, f1, e2, f2, e3, f3⟩, HP⟩ := HR.out.pushed (pos + 7 + n1) HW3.out HR3.out HO3.out HQ0.out HQ1.out HQ2.out HQ3.out hb4 hws
          have hr := Lib.hid (HR.out.round HP.out.2 hws)
          clear hb4 y0 y1 y2 g0 g1 g2 g3 run1 run2
          gi_wp2
          refine ⟨by rw [hsz]; exact hr.out.1, hr.out.2.1, _, _, _, _, ?_, HP.out.1⟩
          rw [HStep.out]
          have hdn := HD.out.blen
          simp [Jr.step, hb, k1, Jr.Part.fin, hdn]
      · have hk1 : ¬ (k.toNat : Int) = 1 := k_ne k1 1 rfl
        by_cases k2 : k = 2
        · have hk : (k.toNat : Int) = 2 := by rw [k2]; rfl
          obtain ⟨A2, c2, W1, run1, ⟨e2, f2, e3, f3⟩, HP⟩ := HR.out.goes hbl hnb HD.out hbnb hn1 hws
          have run1 : (appQ #[33, 33] 33 #[.slice Ab nb cb, .slice A1 n1 c1]).run Try.prog W = .ok (.slice A2 (nb + n1) c2) W1 := run1
          have z2 := HR.out.b2.cell
          have hr := Lib.hid (HR.out.round HP.out.2 hws)
          gi_wp2
          refine ⟨by rw [hsz]; exact hr.out.1, hr.out.2.1, _, _, _, _, ?_, HP.out.1⟩
          rw [HStep.out]
          simp [Jr.step, hb, k2]
        · have hk2 : ¬ (k.toNat : Int) = 2 := k_ne k2 2 rfl
          gi_wp2
          all_goals exact ⟨KeepsFrom.refl _ _, rfl, pre, x, st, rs, _, _, rfl, HST.out, by rw [hxp]; simp [Jr.step, hb, k1, k2], HR.out⟩
    | some b =>
      rw [hb] at c3
      have c3 : W.cell? ⟨w.heap.size + 1 + 1 + 1, 0, none⟩ = some (.bool true) := c3
      obtain rfl : bl = b := by rw [← hbl, hb]; rfl
      by_cases k1 : k = 4
      · have hk : (k.toNat : Int) = 4 := by rw [k1]; rfl
        obtain ⟨A2, c2, W1, A3, c3', W2, rs', run1, run2, W3, hW3, w3, R3, ho3, q0, q1, q2, q3, hrow3, g0, g1, g2, g3⟩ := HR.out.push hbl hnb hnr HD.out hbnb hn1 hrnr hBx HRow.out
        have z0 := HR.out.b0.cell; have z2 := HR.out.b2.cell
        have HW3 := Lib.hid w3; have HR3 := Lib.hid R3; have HO3 := Lib.hid ho3; have HQ0 := Lib.hid q0; have HQ1 := Lib.hid q1; have HQ2 := Lib.hid q2; have HQ3 := Lib.hid q3; have HRow3 := Lib.hid hrow3
        clear w3 R3 ho3 q0 q1 q2 q3 hrow3
        have run1 : (appQ #[33, 33] 33 #[.slice Ab nb cb, .slice A1 n1 c1]).run Try.prog W.drew = .ok (.slice A2 (nb + n1) c2) W1 := run1
        have run2 : (appQ #[22, 22] 22 #[.slice Ar nr cr, .slice (some ⟨W1.heap.size, 0, none⟩) 1 1]).run Try.prog (W1.alloc (.cells #[.slice A2 (nb + n1) c2] 33)) = .ok (.slice A3 (nr + 1) c3') W2 := run2
        gi_wp2_with fail
        gi_region_with_o (fail)
        all_goals
          obtain ⟨y0, y1, y2⟩ := row3 HRow3.out
          gi_wp2_with fail
          refine ⟨trivial, (CallsIn.inRound l (callsIn_wide.2 (end_any pos _ A1 n1 c1 W3 (by omega) (by omega)))).mono ?_⟩
          rintro e W4 ⟨rfl, hb4⟩
          obtain ⟨⟨e1, f1, e2, f2, e3, f3⟩, HP⟩ := HR.out.pushed (pos + 7 + n1) HW3.out HR3.out HO3.out HQ0.out HQ1.out HQ2.out HQ3.out hb4 hws
          have hr := Lib.hid (HR.out.round HP.out.2 hws)
          clear hb4 y0 y1 y2 g0 g1 g2 g3 run1 run2
          gi_wp2
          refine ⟨by rw [hsz]; exact hr.out.1, hr.out.2.1, _, _, _, _, ?_, HP.out.1⟩
          rw [HStep.out]
          have hdn := HD.out.blen
          simp [Jr.step, hb, k1, Jr.Part.fin, hdn]
      · have hk1 : ¬ (k.toNat : Int) = 4 := k_ne k1 4 rfl
        by_cases k2 : k = 3
        · have hk : (k.toNat : Int) = 3 := by rw [k2]; rfl
          obtain ⟨A2, c2, W1, run1, ⟨e2, f2, e3, f3⟩, HP⟩ := HR.out.goes hbl hnb HD.out hbnb hn1 hws
          have run1 : (appQ #[33, 33] 33 #[.slice Ab nb cb, .slice A1 n1 c1]).run Try.prog W = .ok (.slice A2 (nb + n1) c2) W1 := run1
          have z2 := HR.out.b2.cell
          have hr := Lib.hid (HR.out.round HP.out.2 hws)
          gi_wp2
          refine ⟨by rw [hsz]; exact hr.out.1, hr.out.2.1, _, _, _, _, ?_, HP.out.1⟩
          rw [HStep.out]
          simp [Jr.step, hb, k2]
        · have hk2 : ¬ (k.toNat : Int) = 3 := k_ne k2 3 rfl
          gi_wp2
          all_goals exact ⟨KeepsFrom.refl _ _, rfl, pre, x, st, rs, _, _, rfl, HST.out, by rw [hxp]; simp [Jr.step, hb, k1, k2], HR.out⟩
  case done =>
    rintro D xs W hD ⟨b, hpath, hnone⟩ ⟨st, rs, vr, vb, hst, hR⟩ hK
    have hrd : Jr.Reads f (rs.map Rcd.l) st.fin := ⟨_, _, _, hpath, hst, hR.out.symm, rfl, .inl hnone⟩
    obtain ⟨Ar, cr, rfl, _⟩ := own_shape hR.recs.row
    have c0 := hR.b0.cell; have f0 := hR.b0.frozen; have c1 := hR.b1.cell; have f1 := hR.b1.frozen
    have HR := Lib.hid hR; have HRd := Lib.hid hrd; have HK := Lib.hid hK
    clear hR hrd hK hst hpath
    gi_wp2_with fail
    refine wpIn_wide.2 ?_
    go_region
    obtain ⟨d0, d1, d2, HC⟩ := HR.out.close (by rw [hsz] at hD; exact hD) HK.out (Nat.le_refl _)
    obtain ⟨W5, hW5⟩ : ∃ W5, ((W.setCell ⟨w.heap.size, 0, none⟩ (.slice Ar rs.length cr)).setCell ⟨w.heap.size + 1, 0, none⟩ (.int .i64 (st.fin : Int))).drew = W5 := ⟨_, rfl⟩
    rw [hW5] at d0 d1 d2 HC ⊢
    clear hW5 c0 c1 f0 f1
    gi_wp2
    refine ⟨by simp, .inl ⟨_, _, rfl, run_takeDeferred d0, ?_⟩⟩
    exact ⟨.tuple #[.slice Ar rs.length cr, .int .i64 (st.fin : Int)], by simp [results, Try.results50, go_sem, d1, d2], _, rs, st.fin, rfl, HRd.out, HC.out.1, HC.out.2⟩
  case stop =>
    rintro D cd pre W hD ⟨b, hpath⟩ ⟨rfl, pre', x, st, rs, vr, vb, rfl, hst, hstep, hR⟩ hK
    have hrd : Jr.Reads f (rs.map Rcd.l) st.fin := by
      have e : pts (pre' ++ [x]) = pts pre' ++ [x.1.p] := by simp [pts]
      rw [e] at hpath
      obtain ⟨b', h1, h2, h3⟩ := hpath.unsnoc
      have e2 : (⟨Jr.nextP b', x.1.p.k, x.1.p.d⟩ : Jr.Part) = x.1.p := by rw [← h2]
      exact ⟨_, _, _, h1, hst, hR.out.symm, rfl, .inr ⟨_, _, h3, by rw [e2]; exact hstep⟩⟩
    obtain ⟨Ar, cr, rfl, _⟩ := own_shape hR.recs.row
    have c0 := hR.b0.cell; have f0 := hR.b0.frozen; have c1 := hR.b1.cell; have f1 := hR.b1.frozen
    have HR := Lib.hid hR; have HRd := Lib.hid hrd; have HK := Lib.hid hK
    clear hR hrd hK hst hpath
    gi_wp2_with fail
    refine wpIn_wide.2 ?_
    go_region
    obtain ⟨d0, d1, d2, HC⟩ := HR.out.close (by rw [hsz] at hD; exact hD) HK.out (Nat.le_refl _)
    obtain ⟨W5, hW5⟩ : ∃ W5, ((W.setCell ⟨w.heap.size, 0, none⟩ (.slice Ar rs.length cr)).setCell ⟨w.heap.size + 1, 0, none⟩ (.int .i64 (st.fin : Int))).drew = W5 := ⟨_, rfl⟩
    rw [hW5] at d0 d1 d2 HC ⊢
    clear hW5 c0 c1 f0 f1
    gi_wp2
    refine ⟨by simp, .inl ⟨_, _, rfl, run_takeDeferred d0, ?_⟩⟩
    exact ⟨.tuple #[.slice Ar rs.length cr, .int .i64 (st.fin : Int)], by simp [results, Try.results50, go_sem, d1, d2], _, rs, st.fin, rfl, HRd.out, HC.out.1, HC.out.2⟩
end Go.Proofs.Ytopcnlophmplgaa
