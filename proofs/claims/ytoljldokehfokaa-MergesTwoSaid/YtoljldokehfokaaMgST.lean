/-
  Package merges: See.
  Rows that are seen, told entry by entry (plain).
  Package merges: See.
-/
import Derived.Test.YtoljldokehfokaaMgPR
namespace Go.Proofs.Ytoljldokehfokaa
open Go.RowKit
set_option linter.unusedVariables false
set_option maxRecDepth 100000

/-! what is seen -/
/-- is an entry seen, of those behind others? -/
def seenB (s : Nat) (P : List En) (x : En) : Bool := decide (x.m.s ≤ s) && !(P.any fun y => decide (y.m.k = x.m.k) && decide (y.m.s ≤ s))
def visGo (s : Nat) : List En → List En → List En
  | _, [] => []
  | P, x :: t => (if seenB s P x then [x] else []) ++ visGo s (P ++ [x]) t
/-- those that are visible at a number -/
def vis (s : Nat) (S : List En) : List En := visGo s [] S
theorem visGo_app (s : Nat) : ∀ (a P b : List En), visGo s P (a ++ b) = visGo s P a ++ visGo s (P ++ a) b
  | [], P, b => by simp [visGo]
  | x :: t, P, b => by
    rw [List.cons_append, visGo, visGo, visGo_app s t, List.append_assoc, List.append_assoc]; rfl
theorem visGo_old (s : Nat) : ∀ (g P : List En) (k : ByteArray), (∀ x ∈ g, x.m.k = k) → (P.any fun y => decide (y.m.k = k) && decide (y.m.s ≤ s)) = true → visGo s P g = []
  | [], P, k, _, _ => rfl
  | x :: t, P, k, hk, h => by
    have hx := hk x (List.mem_cons_self ..)
    have e : seenB s P x = false := by unfold seenB; rw [hx, h]; simp
    rw [visGo, e, if_neg (by simp), List.nil_append]
    exact visGo_old s t _ k (fun y hy => hk y (List.mem_cons_of_mem _ hy)) (by rw [List.any_append, h]; rfl)
theorem visGo_run (s : Nat) : ∀ (g P : List En) (k : ByteArray), (∀ x ∈ g, x.m.k = k) → (P.any fun y => decide (y.m.k = k) && decide (y.m.s ≤ s)) = false → visGo s P g = (visF g s).toList
  | [], P, k, _, _ => rfl
  | x :: t, P, k, hk, h => by
    have hx := hk x (List.mem_cons_self ..)
    have ht := fun y hy => hk y (List.mem_cons_of_mem x hy)
    have e : seenB s P x = decide (x.m.s ≤ s) := by unfold seenB; rw [hx, h]; simp
    rw [visGo, e]
    unfold visF
    rw [List.find?_cons]
    by_cases hs : x.m.s ≤ s
    · rw [if_pos (by simpa using hs), decide_eq_true hs]
      rw [visGo_old s t (P ++ [x]) k ht (by rw [List.any_append]; simp [hx, hs])]
      rfl
    · rw [if_neg (by simpa using hs), decide_eq_false hs, List.nil_append]
      exact visGo_run s t (P ++ [x]) k ht (by rw [List.any_append, h]; simp [hs])
/-- a key's entries more -/
theorem vis_run {s : Nat} {P g : List En} {y : En} {t : List En} (hg : g = y :: t) (h1 : ∀ a ∈ g, a.m.k = y.m.k) (h2 : ∀ a ∈ P, ∀ b ∈ g, a.m.k ≠ b.m.k) : vis s (P ++ g) = vis s P ++ (visF g s).toList := by
  unfold vis
  rw [visGo_app, List.nil_append]
  congr 1
  refine visGo_run s g P y.m.k h1 ?_
  rw [List.any_eq_false]
  intro a ha
  have := h2 a ha y (by rw [hg]; exact List.mem_cons_self ..)
  simp [this]
/-- a row: its key, its value -/
abbrev Rw := ByteArray × ByteArray
def rcs (l : List Rw) : List Value := l.flatMap fun r => [.string r.1, .string r.2]
/-- the rows of entries -/
def rowsE (l : List En) : List Rw := (l.filter fun x => !x.m.g).map fun x => (x.m.k, x.x)
def rowsV (s : Nat) (S : List En) : List Rw := rowsE (vis s S)
theorem rcs_app (a b : List Rw) : rcs (a ++ b) = rcs a ++ rcs b := by unfold rcs; rw [List.flatMap_append]
theorem rowsE_app (a b : List En) : rowsE (a ++ b) = rowsE a ++ rowsE b := by unfold rowsE; rw [List.filter_append, List.map_append]
theorem visGo_len (s : Nat) : ∀ (S P : List En), (visGo s P S).length ≤ S.length
  | [], P => Nat.le_refl _
  | x :: t, P => by
    have := visGo_len s t (P ++ [x])
    rw [visGo, List.length_append, List.length_cons]
    split <;> simp <;> omega
theorem rowsV_len (s : Nat) (S : List En) : (rowsV s S).length ≤ S.length := by
  unfold rowsV rowsE
  rw [List.length_map]
  exact Nat.le_trans (List.length_filter_le _ _) (visGo_len s S [])

/-! the rows in memory -/
theorem row_info : (Try.prog.info? 41).map (fun i => (i.zero, i.size, i.bytes)) = some (some (.agg #[.string ByteArray.empty, .string ByteArray.empty]), 2, 32) := by kernel_rfl
/-- append, as a step that the walk does not lay open -/
def appM (ats : Array TypeId) (ty : TypeId) (args : Array Value) : Sem Value := Builtin.append_ ats ty args
theorem builtin_appM {ats : Array TypeId} {ty : TypeId} {cs : Array Bool} {args : Array Value} : builtin .append ats ty cs args = (do pure (.value (← appM ats ty args))) := rfl
/-- what the variable of the rows holds -/
structure RAt (w W : World) (g : Nat) (L : List Rw) (vl : Value) : Prop where
  box : W.heap[g]? = some (.cells #[vl] 37 (0, 0))
  row : W.ownsRow (g + 2) 41 2 vl L.length (rcs L)
  low : Below g w W
  hs : g + 2 ≤ W.heap.size
theorem RAt.below {w W W' : World} {g : Nat} {L : List Rw} {vl : Value} (h : RAt w W g L vl) (hb : Below W.heap.size W W') : RAt w W' g L vl := by
  have hs := h.hs
  exact ⟨(hb.block g (by omega)).trans h.box, own_below h.row hb, h.low.trans (hb.mono (by omega)), Nat.le_trans hs hb.size⟩
theorem RAt.other {w W W' : World} {g : Nat} {L : List Rw} {vl : Value} {row : Option Nat} (h : RAt w W g L vl) (hg : W.grownBy W' row) (hr : ∀ r, row = some r → g + 2 ≤ r ∧ ∃ o : Obj, W.heap[r]? = some o ∧ o.isCells = false) : RAt w W' g L vl := by
  have hs := h.hs
  refine ⟨(hg.block g (by omega) (fun e => by have := (hr g e.symm).1; omega)).trans h.box, ⟨h.row.1, ?_⟩, h.low.grown hg (by omega) (fun r e => by have := (hr r e).1; omega), Nat.le_trans hs hg.size⟩
  rcases h.row.2 with q | ⟨gg, cap, cur, hv, hgb, hh, r⟩
  · exact .inl q
  · refine .inr ⟨gg, cap, cur, hv, hgb, (hg.block gg (Array.getElem?_eq_some_iff.1 hh).1 (fun e => ?_)).trans hh, r⟩
    obtain ⟨o, ho, hc⟩ := (hr gg e.symm).2
    rw [hh] at ho
    injection ho with ho
    subst ho
    cases hc
theorem RAt.cells {w W : World} {g : Nat} {L : List Rw} {vl : Value} (h : RAt w W g L vl) : W.cell? ⟨g, 0, none⟩ = some vl ∧ W.frozen? ⟨g, 0, none⟩ = false := ⟨cell_of_row _ _ 0 _ _ (0, 0) h.box, by simp [World.frozen?, h.box]⟩
theorem RAt.app {w W : World} {g n c : Nat} {L : List Rw} {A : Option Addr} (h : RAt w W g L (.slice A n c)) (hn : L.length = n) (hl : n + 1 ≤ 1000000) (k v : ByteArray) :
    ∃ A2 c2 W2, (appM #[37, 37] 37 #[.slice A n c, .slice (some ⟨W.heap.size, 0, none⟩) 1 1]).run Try.prog (W.alloc (.cells #[.string k, .string v] 41)) = .ok (.slice A2 (n + 1) c2) W2 ∧
      (W2.cell? ⟨g, 0, none⟩ = some (.slice A n c) ∧ W2.frozen? ⟨g, 0, none⟩ = false) ∧ Hid (RAt w (W2.setCell ⟨g, 0, none⟩ (.slice A2 (n + 1) c2)) g (L ++ [(k, v)]) (.slice A2 (n + 1) c2) ∧ W.heap.size ≤ (W2.setCell ⟨g, 0, none⟩ (.slice A2 (n + 1) c2)).heap.size ∧
        ∀ (i : Nat) (o : Obj), W.heap[i]? = some o → (o.isCells = false ∨ i < g) → (W2.setCell ⟨g, 0, none⟩ (.slice A2 (n + 1) c2)).heap[i]? = some o) := by
  obtain ⟨i0, hi, hz0, hz1, hz2⟩ := info_parts row_info
  have hb := al_belowM W (.cells #[.string k, .string v] 41)
  have h1 := h.below hb
  have hlie : Lies (W.alloc (.cells #[.string k, .string v] 41)) (W.heap.size + 1) 2 (some ⟨W.heap.size, 0, none⟩) 1 (rcs [(k, v)]) := by
    have hh : (W.alloc (.cells #[.string k, .string v] 41)).heap[W.heap.size]? = some (.cells #[.string k, .string v] 41 (0, 0)) := heap_alloc_new W _
    refine ⟨rfl, fun j hj => ?_⟩
    have hj2 : j < 2 := hj
    refine ⟨_, _, rfl, Nat.lt_succ_self _, List.getElem?_eq_getElem hj2, ?_⟩
    rw [add_lit, Nat.zero_add, cell_of_row _ _ j _ _ (0, 0) hh, List.getElem?_toArray]
    exact List.getElem?_eq_getElem hj2
  have hone : ∀ u ∈ rcs [(k, v)], u.oneCell' = true := by intro u hu; simp [rcs] at hu; rcases hu with rfl | rfl <;> rfl
  subst hn
  have hs := h.hs
  obtain ⟨v1, W2, hrun, hown, hgr, _⟩ := run_app (P := Try.prog) (W.alloc (.cells #[.string k, .string v] 41)) (g + 2) 37 37 41 i0 _ 2 32 Try.underlying37 hi hz0 hz1 hz2 rfl (by decide) (.slice A L.length c) L.length (rcs L) h1.row (W.heap.size + 1) (some ⟨W.heap.size, 0, none⟩) 1 1 (rcs [(k, v)]) hlie hone (by unfold maxLen; omega) (by omega) (by simp; omega)
  obtain ⟨A2, c2, rfl, _⟩ := own_shape hown
  have hgo : (Value.slice A L.length c).ownBlock ≠ some g := fun e => by have := (h.row.lt g e).1; omega
  have hbx : W2.heap[g]? = some (.cells #[.slice A L.length c] 37 (0, 0)) := (hgr.block g (by simp; omega) (fun e => hgo e.symm)).trans h1.box
  refine ⟨A2, c2, W2, hrun, ⟨cell_of_row _ _ 0 _ _ (0, 0) hbx, by simp [World.frozen?, hbx]⟩, ⟨⟨by simp [World.setCell, Array.getElem?_modify, hbx], ?_, ?_, ?_⟩, ?_, ?_⟩⟩
  · rw [List.length_append, rcs_app]
    exact ownsRow_setCell_below hown (by show g < g + 2; omega) _
  · exact (h1.low.grown hgr (by simp; omega) (fun r e => by have := (h.row.lt r e).1; omega)).setCell (Nat.le_refl _) _
  · have := hgr.size; simp at this ⊢; omega
  · have := hgr.size; simp at this ⊢; omega
  · intro i o ho hor
    have hil := (Array.getElem?_eq_some_iff.1 ho).1
    have hig : i ≠ g := by
      rintro rfl
      rcases hor with q | q
      · rw [h.box] at ho; injection ho with ho; subst ho; cases q
      · omega
    refine (Below.heap_setCell _ _ _ _ hig).trans ((hgr.block i (by simp; omega) (fun e => ?_)).trans ((Below.heap_alloc _ _ _ hil).trans ho))
    rcases hor with q | q
    · rcases h.row.2 with ⟨e2, _⟩ | ⟨gg, cap, cur, hv, hgb, hh, _⟩
      · rw [e2] at e; cases e
      · rw [hv] at e
        have e : i = gg := by simpa [Value.ownBlock] using e
        subst e
        rw [hh] at ho; injection ho with ho; subst ho; cases q
    · have := (h.row.lt i e.symm).1; omega
end Go.Proofs.Ytoljldokehfokaa

namespace Go.Proofs.Ytoljldokehfokaa
open Go.RowKit
set_option linter.unusedVariables false

theorem cmpS_le_of_rise {a b : En} (h : cmpM a.m b.m < 0) : cmpS a.m.k b.m.k ≤ 0 := rise_keyLe (x := a) (t := [b]) (List.pairwise_cons.2 ⟨fun c hc => by obtain rfl := List.mem_singleton.1 hc; exact h, List.pairwise_singleton _ _⟩) b (List.mem_singleton.2 rfl)
/-- the entries that have at most a number -/
def upto (s : Nat) (P : List En) : List En := P.filter fun x => decide (x.m.s ≤ s)
theorem upto_snoc (s : Nat) (P : List En) (x : En) : upto s (P ++ [x]) = if x.m.s ≤ s then upto s P ++ [x] else upto s P := by
  unfold upto
  rw [List.filter_append]
  by_cases h : x.m.s ≤ s
  · rw [if_pos h]; simp [h]
  · rw [if_neg h]; simp [h]
theorem upto_len (s : Nat) (P : List En) : (upto s P).length ≤ P.length := List.length_filter_le ..
theorem upto_mem {s : Nat} {P : List En} {x : En} (h : x ∈ upto s P) : x ∈ P ∧ x.m.s ≤ s := by
  have := List.mem_filter.1 h
  exact ⟨this.1, by simpa using this.2⟩
/-- the key of the last one -/
def endK (F : List En) : ByteArray := match F.getLast? with | none => ⟨#[]⟩ | some z => z.m.k
theorem endK_snoc (F : List En) (x : En) : endK (F ++ [x]) = x.m.k := by unfold endK; rw [List.getLast?_concat]
theorem old_key {s : Nat} {P : List En} {x : En} (h : Rise (P ++ [x])) : (P.any fun y => decide (y.m.k = x.m.k) && decide (y.m.s ≤ s)) = true ↔ upto s P ≠ [] ∧ endK (upto s P) = x.m.k := by
  constructor
  · intro ha
    obtain ⟨y, hy, hp⟩ := List.any_eq_true.1 ha
    rw [Bool.and_eq_true, decide_eq_true_eq, decide_eq_true_eq] at hp
    have hm : y ∈ upto s P := List.mem_filter.2 ⟨hy, by simpa using hp.2⟩
    have hne : upto s P ≠ [] := fun e => by rw [e] at hm; cases hm
    refine ⟨hne, ?_⟩
    rcases List.eq_nil_or_concat (upto s P) with e | ⟨I, z, e⟩
    · exact absurd e hne
    · rw [List.concat_eq_append] at e
      rw [e, endK_snoc]
      rw [e] at hm
      rcases List.mem_append.1 hm with hi | hi
      · have hz : z ∈ P := (upto_mem (s := s) (by rw [e]; exact List.mem_append_right _ (List.mem_singleton.2 rfl))).1
        have hs : (upto s P ++ [x]).Sublist (P ++ [x]) := List.Sublist.append List.filter_sublist (List.Sublist.refl _)
        have hr : Rise (upto s P ++ [x]) := List.Pairwise.sublist hs h
        rw [e] at hr
        have h1 := List.pairwise_append.1 hr
        have h2 := List.pairwise_append.1 h1.1
        have hyz := cmpS_le_of_rise (h2.2.2 y hi z (List.mem_singleton.2 rfl))
        have hzx := cmpS_le_of_rise (h1.2.2 z (List.mem_append_right _ (List.mem_singleton.2 rfl)) x (List.mem_singleton.2 rfl))
        rcases Classical.em (y.m.k = z.m.k) with q | q
        · rw [← q]; exact hp.1
        · exact absurd hp.1 (key_lt hyz q hzx)
      · obtain rfl := List.mem_singleton.1 hi
        exact hp.1
  · rintro ⟨hne, hk⟩
    rcases List.eq_nil_or_concat (upto s P) with e | ⟨I, z, e⟩
    · exact absurd e hne
    · rw [List.concat_eq_append] at e
      rw [e, endK_snoc] at hk
      obtain ⟨h1, h2⟩ := upto_mem (s := s) (P := P) (x := z) (by rw [e]; exact List.mem_append_right _ (List.mem_singleton.2 rfl))
      exact List.any_eq_true.2 ⟨z, h1, by simp [hk, h2]⟩
theorem visGo_one (s : Nat) (P : List En) (x : En) : visGo s P [x] = if seenB s P x then [x] else [] := by
  cases h : seenB s P x <;> simp [visGo, h]
/-- one entry more -/
theorem rowsV_snoc (s : Nat) (P : List En) (x : En) : rowsV s (P ++ [x]) = rowsV s P ++ if seenB s P x && !x.m.g then [(x.m.k, x.x)] else [] := by
  unfold rowsV vis
  rw [visGo_app, rowsE_app, List.nil_append, visGo_one]
  cases h : seenB s P x <;> cases h2 : x.m.g <;> simp [rowsE, h2]
theorem rowsV_pre (s : Nat) (S : List En) (k : Nat) : rowsV s (S.take k) <+: rowsV s S := by
  refine ⟨rowsE (visGo s (S.take k) (S.drop k)), ?_⟩
  conv => rhs; rw [← List.take_append_drop k S]
  unfold rowsV vis
  rw [visGo_app, rowsE_app, List.nil_append]
theorem seenB_no {s : Nat} {P : List En} {x : En} (h : ¬ x.m.s ≤ s) : seenB s P x = false := by simp [seenB, h]
theorem seenB_old {s : Nat} {P : List En} {x : En} (h : Rise (P ++ [x])) (hs : x.m.s ≤ s) : seenB s P x = true ↔ (upto s P = [] ∨ endK (upto s P) ≠ x.m.k) := by
  have ho := old_key (s := s) h
  unfold seenB
  rw [decide_eq_true hs, Bool.true_and]
  constructor
  · intro ha
    rcases Classical.em (upto s P = []) with q | q
    · exact .inl q
    · refine .inr fun e => ?_
      rw [ho.2 ⟨q, e⟩] at ha
      cases ha
  · intro ha
    cases hb : P.any fun y => decide (y.m.k = x.m.k) && decide (y.m.s ≤ s) with
    | false => rfl
    | true =>
      obtain ⟨h1, h2⟩ := ho.1 hb
      rcases ha with q | q
      · exact absurd q h1
      · exact absurd h2 q
/-- what has a greater number makes no difference -/
theorem vis_upto {s m : Nat} : ∀ (L P : List En), (∀ x ∈ L, x.m.s ≤ m) → (∀ x ∈ P, x.m.s ≤ m) → visGo m (upto s P) (upto s L) = visGo s P L
  | [], P, _, _ => rfl
  | x :: L, P, hL, hP => by
    have hL' : ∀ y ∈ L, y.m.s ≤ m := fun y hy => hL y (List.mem_cons_of_mem _ hy)
    have hP' : ∀ y ∈ P ++ [x], y.m.s ≤ m := fun y hy => by
      rcases List.mem_append.1 hy with q | q
      · exact hP y q
      · obtain rfl := List.mem_singleton.1 q; exact hL _ (List.mem_cons_self ..)
    have ih := vis_upto (s := s) L (P ++ [x]) hL' hP'
    rw [upto_snoc] at ih
    by_cases h : x.m.s ≤ s
    · rw [if_pos h] at ih
      have e : upto s (x :: L) = x :: upto s L := by unfold upto; rw [List.filter_cons_of_pos (by simpa using h)]
      have hs : seenB m (upto s P) x = seenB s P x := by
        unfold seenB
        rw [decide_eq_true h, decide_eq_true (hL x (List.mem_cons_self ..))]
        congr 2
        rw [Bool.eq_iff_iff]
        constructor
        · intro ha
          obtain ⟨y, hy, hp⟩ := List.any_eq_true.1 ha
          obtain ⟨h1, h2⟩ := upto_mem hy
          rw [Bool.and_eq_true] at hp
          exact List.any_eq_true.2 ⟨y, h1, by rw [Bool.and_eq_true]; exact ⟨hp.1, decide_eq_true h2⟩⟩
        · intro ha
          obtain ⟨y, hy, hp⟩ := List.any_eq_true.1 ha
          rw [Bool.and_eq_true, decide_eq_true_eq (p := y.m.s ≤ s)] at hp
          exact List.any_eq_true.2 ⟨y, List.mem_filter.2 ⟨hy, by simpa using hp.2⟩, by rw [Bool.and_eq_true]; exact ⟨hp.1, decide_eq_true (hP y hy)⟩⟩
      rw [e]
      unfold visGo
      rw [hs, ih]
    · rw [if_neg h] at ih
      have e : upto s (x :: L) = upto s L := by unfold upto; rw [List.filter_cons_of_neg (by simpa using h)]
      rw [e, ih]
      conv => rhs; unfold visGo
      rw [seenB_no h]
      simp
theorem rowsV_upto {s m : Nat} {S : List En} (h : ∀ x ∈ S, x.m.s ≤ m) : rowsV m (upto s S) = rowsV s S := by
  unfold rowsV vis
  rw [← vis_upto (s := s) (m := m) S [] h (fun x hx => by cases hx)]
  rfl
theorem upto_rise {s : Nat} {S : List En} (h : Rise S) : Rise (upto s S) := List.Pairwise.sublist List.filter_sublist h
end Go.Proofs.Ytoljldokehfokaa

namespace Go.Proofs.Ytoljldokehfokaa
open Go.RowKit
set_option linter.unusedVariables false
set_option maxRecDepth 100000

/-- what See answers -/
def SeeR (w : World) (S : List En) (s : Nat) (e : Ending) (w' : World) : Prop :=
  Below w.heap.size w w' ∧ ((Rise S ∧ ∃ v, e = .returned (.tuple #[v, .int .i64 0]) ∧ w'.ownsRow w.heap.size 41 2 v (rowsV s S).length (rcs (rowsV s S))) ∨ (¬ Rise S ∧ e = .returned (.tuple #[.slice none 0 0, .int .i64 1])))
/-- in the loop -/
def SeeI (w1 : World) (g : Nat) (s : Nat) (pre : List Ls) (W : World) : Prop := ∃ vl, RAt w1 W g (rowsV s (flatL pre)) vl
theorem GrpG.back {S : List En} {W W0 : World} {B : Nat} {pre : List Ls} {x : Ls} (h : GrpG S W B pre x) (hB : B ≤ W0.heap.size) (hb : ∀ p : Addr, p.block < B → W.cell? p = W0.cell? p) : GrpG S W0 B pre x :=
  ⟨⟨h.el.lies.keep fun p hp => (hb p hp).symm, hB, h.el.nc, h.el.cc, h.el.sz⟩, h.one, h.ne, h.more⟩
theorem rowsV_run {s : Nat} {pre : List Ls} {x : Ls} {S : List En} {W : World} {B : Nat} (h : GrpG S W B pre x) : rowsV s (flatL (pre ++ [x])) = rowsV s (flatL pre) ++ rowsE (visF x.l s).toList := by
  obtain ⟨y, t, h1, h2⟩ := h.one
  rw [flatL_snoc]
  unfold rowsV
  rw [vis_run h1 h2 h.ne, rowsE_app]

section
attribute [local go_sem] Oper.semAt_some
attribute [local go_sem ↓ 100000] builtin_appM
set_option maxHeartbeats 8000000 in
theorem see_any (B n c : Nat) (A : Option Addr) (S : List En) (s : Nat) (w : World) (hE : EL w B A n c S) (hn : n ≤ 500000) :
    Calls Try.prog 11 #[.slice A n c, .int .u64 (s : Int)] w (SeeR w S s) := by
  have hln := hE.lies.elen
  have hb0 := al_belowM w (.cells #[.int .u64 (s : Int)] 27)
  have hq0 : (w.alloc (.cells #[.int .u64 (s : Int)] 27)).heap[w.heap.size]? = some (.cells #[.int .u64 (s : Int)] 27 (0, 0)) := heap_alloc_new w _
  have hs0 : (w.alloc (.cells #[.int .u64 (s : Int)] 27)).heap.size = w.heap.size + 1 := by simp
  obtain ⟨w0, hw0⟩ : ∃ w0, w.alloc (.cells #[.int .u64 (s : Int)] 27) = w0 := ⟨_, rfl⟩
  have HW0 : Hid (w.alloc (.cells #[.int .u64 (s : Int)] 27) = w0) := hw0
  rw [hw0] at hb0 hq0 hs0
  have hE0 := hE.below hb0
  have HA := Lib.hid (asc_any hE0 (by omega))
  have HE0 := Lib.hid hE0; have HB0 := Lib.hid hb0; have HQ0 := Lib.hid hq0; have HLn := Lib.hid hln
  have hBw := hE.B
  refine (callsIn_wide (n := 6)).1 ?_
  refine callsIn_of_wp_marks Try.func11 rfl trivial ?_ rfl
  simp only [Try.ntmps11, List.size_toArray, List.length_cons, List.length_nil, Nat.reduceAdd, Nat.reduceSub, Array.replicate_succ, Array.replicate_zero, List.push_toArray, List.append_toArray, List.nil_append, List.cons_append]
  refine wpIn_wide.2 ?_
  clear hE hln hb0 hq0 hw0 hE0
  by_cases hr : Rise S
  · have hd : decide (Rise S) = true := decide_eq_true hr
    rw [hd] at HA
    have HR := Lib.hid hr
    clear hd hr
    go_wp2_with fail
    rw [HW0.out]
    refine HA.out.mono ?_
    rintro e w1 ⟨rfl, hb1⟩
    have HB1 := Lib.hid hb1
    have hs1 := hb1.size
    clear hb1 HA
    go_wp2_with fail
    refine (byKey_any n c A _).mono ?_
    rintro e w' ⟨rfl, rfl⟩
    obtain ⟨g, hg⟩ : ∃ g, w1.heap.size = g := ⟨_, rfl⟩
    have hgs := hg
    have x1 : (w1.alloc (.cells #[.slice none 0 0] 37)).heap[g]? = some (.cells #[.slice none 0 0] 37 (0, 0)) := by rw [← hg]; exact heap_alloc_new w1 _
    have s1 : (w1.alloc (.cells #[.slice none 0 0] 37)).heap.size = g + 1 := by simp [hg]
    have b1 : Below g w1 (w1.alloc (.cells #[.slice none 0 0] 37)) := by rw [← hg]; exact al_belowM w1 _
    rw [hg]
    obtain ⟨W1, hW1⟩ : ∃ W1, w1.alloc (.cells #[.slice none 0 0] 37) = W1 := ⟨_, rfl⟩
    rw [hW1] at x1 s1 b1 ⊢
    have y1 : (W1.alloc (.cells #[.slice A n c] 22)).heap[g + 1]? = some (.cells #[.slice A n c] 22 (0, 0)) := by rw [← s1]; exact heap_alloc_new W1 _
    have s2 : (W1.alloc (.cells #[.slice A n c] 22)).heap.size = g + 2 := by simp [s1]
    have x2 : (W1.alloc (.cells #[.slice A n c] 22)).heap[g]? = _ := (Below.heap_alloc _ _ _ (by omega)).trans x1
    have b2 := b1.alloc (by omega) (.cells #[.slice A n c] 22)
    rw [s1]
    obtain ⟨W0, hW0⟩ : ∃ W0, W1.alloc (.cells #[.slice A n c] 22) = W0 := ⟨_, rfl⟩
    rw [hW0] at y1 s2 x2 b2 ⊢
    clear hW0 hW1 x1 s1 b1
    have HR0 : Hid (SeeI w1 g s [] W0) := ⟨.slice none 0 0, ⟨x2, World.ownsRow_nil _ _ _ _, b2, by omega⟩⟩
    have HY1 := Lib.hid y1; have HB2 := Lib.hid b2
    have hBg : B ≤ g := by omega
    have HE2 : Hid (EL W0 B A n c S) := el_keepM (HE0.out.below HB1.out) (fun p hp => b2.cell (by omega)) (by omega)
    have HSq : Hid (∀ W, Below g w1 W → W.cell? ⟨w.heap.size, 0, none⟩ = some (.int .u64 (s : Int))) := fun W hb =>
      cell_of_row _ _ 0 _ _ (0, 0) ((hb.block _ (by omega)).trans ((HB1.out.block _ (Array.getElem?_eq_some_iff.1 HQ0.out).1).trans HQ0.out))
    clear y1 x2 b2
    go_wp2_with fail
    refine (wpIn_wide (n := 6)).1 ?_
    refine range_next (m := 5) (α := Ls) (gf := 32) (lb := #[.pointer (some ⟨g + 1, 0, none⟩)]) (encs := fun x => #[x.v]) (Kp := KpM (fun i => i < B))
      (G := fun pre x => GrpG S W0 B pre x) (S := fun xs => flatL xs = S)
      rfl (enters_of Try.func32 (by kernel_rfl) rfl) (fun _ => rfl) (fun h k => KpM.trans h k) (kpM_b (fun i hi => by omega))
      (fun l J W hW hJ hY h0 => bky1_any 5 l (g + 1) B n c A S HR.out (by omega) J W hJ (HE2.out.below hW) (fun pre x W1 hj hG => hY pre x W1 hj (hG.back (by omega) fun p hp => hW.cell (by omega))) ((hW.cell (p := ⟨g + 1, 0, none⟩) (by show g + 1 < _; omega)).trans (cell_of_row _ _ 0 _ _ (0, 0) HY1.out)) h0)
      (SeeI w1 g s)
      (fun pre X Y row hI hg2 hr => by
        obtain ⟨vl, h1⟩ := hI
        exact ⟨vl, h1.other hg2 (fun r e => by obtain ⟨q1, q2⟩ := hr r e; exact ⟨by omega, q2⟩)⟩)
      HR0.out
      (fun x a' W => a' = { tmps := #[.slice A n c, .int .u64 (s : Int), undef, .pointer (some ⟨w.heap.size, 0, none⟩), .slice none 0 0, .int .i64 0, .pointer (some ⟨g, 0, none⟩), x.v, undef, undef, .slice A n c, .bool true, .bool false, .slice A n c, .func (.func 32) #[] #[.pointer (some ⟨g + 1, 0, none⟩)], x.v, undef, undef, undef, undef, undef, undef, undef, undef, undef, undef, undef, undef, undef, undef, undef, undef, undef, undef, undef, undef, undef, undef, undef], defers := [] })
      (fun x a' _ X Y row hI hg2 hr => hI)
      ?assign ?body ?done
    case assign =>
      rintro l pre x W K hI hK
      gi_wp2
      exact hK _ _ (KeepsFrom.refl _ _) (KpM.below (Below.refl _ _)) hI rfl
    case body =>
      rintro l pre x a' W ⟨vl, hRA⟩ rfl hG
      have hlo := hRA.low
      have hhs := hRA.hs
      have hel : EL W B x.A x.n x.c x.l := el_keepM hG.el (fun p hp => (hlo.cell (by omega)).trans (HB2.out.cell (by omega)).symm) (by omega)
      have hrv := rowsV_run (s := s) hG
      have hxn : x.l.length ≤ n := by
        obtain ⟨R, hR⟩ := hG.more
        have := congrArg List.length hR
        rw [List.length_append, List.length_append, HLn.out] at this; omega
      have hV := Lib.hid (visible_any s hel (by have := hel.lies.elen; omega))
      have hrl : (rowsV s (flatL pre)).length ≤ n := by
        obtain ⟨R, hR⟩ := hG.more
        have := congrArg List.length hR
        rw [List.length_append, List.length_append, HLn.out] at this
        have := rowsV_len s (flatL pre); omega
      have hsq := HSq.out W hlo
      have HRA := Lib.hid hRA; have HRV := Lib.hid hrv
      obtain ⟨L, hL⟩ : ∃ L, rowsV s (flatL pre) = L := ⟨_, rfl⟩
      rw [hL] at HRA HRV hrl
      clear hRA hlo hG hel hrv hxn hL
      obtain ⟨xA, xn, xc, xl⟩ := x
      unfold Ls.v
      dsimp only at hV HRV
      gi_wp2_with fail
      refine ⟨trivial, (CallsIn.inRound l (callsIn_wide.2 hV.out)).mono ?_⟩
      rintro e W2 ⟨y, b, rfl, hyv, hb2⟩
      have hb3 : Below W.heap.size W (W2.alloc (.cells #[.string y.m.k, .int .u64 (y.m.s : Int), .bool y.m.g, .string y.x] 31)) := hb2.trans ((al_belowM W2 _).mono hb2.size)
      obtain ⟨Al, cl, hvl, _⟩ := own_shape HRA.out.row
      subst hvl
      obtain ⟨nl, hnl⟩ : ∃ nl, L.length = nl := ⟨_, rfl⟩
      have hR3 := HRA.out.below hb3
      rw [hnl] at hR3 hrl
      obtain ⟨z0, z1⟩ := hR3.cells
      have hbx := heap_alloc_new W2 (.cells #[.string y.m.k, .int .u64 (y.m.s : Int), .bool y.m.g, .string y.x] 31)
      have p0 := cell_of_row _ _ 0 _ _ (0, 0) hbx
      have p1 := cell_of_row _ _ 1 _ _ (0, 0) hbx
      have p2 := cell_of_row _ _ 2 _ _ (0, 0) hbx
      have p3 := cell_of_row _ _ 3 _ _ (0, 0) hbx
      have hs3 : (W2.alloc (.cells #[.string y.m.k, .int .u64 (y.m.s : Int), .bool y.m.g, .string y.x] 31)).heap.size = W2.heap.size + 1 := by simp
      obtain ⟨A4, c4, W4, run4, ⟨e4, f4⟩, HP⟩ := hR3.app hnl (by omega) y.m.k y.x
      rw [hs3] at run4
      have HNo : Hid (rowsE (visF xl s).toList = [] → KeepsFrom W0.heap.size W (W2.alloc (.cells #[.string y.m.k, .int .u64 (y.m.s : Int), .bool y.m.g, .string y.x] 31)) ∧ KpM (fun i => i < B) W (W2.alloc (.cells #[.string y.m.k, .int .u64 (y.m.s : Int), .bool y.m.g, .string y.x] 31)) ∧ SeeI w1 g s (pre ++ [⟨xA, xn, xc, xl⟩]) (W2.alloc (.cells #[.string y.m.k, .int .u64 (y.m.s : Int), .bool y.m.g, .string y.x] 31))) := fun q =>
        ⟨⟨hb3.size, fun i o hi ho hoc => (hb3.block i (Array.getElem?_eq_some_iff.1 ho).1).trans ho⟩, KpM.below hb3, _, by rw [HRV.out, q, List.append_nil]; exact hR3⟩
      have HYes : Hid (rowsE (visF xl s).toList = [(y.m.k, y.x)] → KeepsFrom W0.heap.size W (W4.setCell ⟨g, 0, none⟩ (.slice A4 (nl + 1) c4)) ∧ KpM (fun i => i < B) W (W4.setCell ⟨g, 0, none⟩ (.slice A4 (nl + 1) c4)) ∧ SeeI w1 g s (pre ++ [⟨xA, xn, xc, xl⟩]) (W4.setCell ⟨g, 0, none⟩ (.slice A4 (nl + 1) c4))) := fun q => by
        obtain ⟨h1, h2, h3⟩ := HP.out
        refine ⟨⟨Nat.le_trans hb3.size h2, fun i o hi ho hoc => h3 i o ((hb3.block i (Array.getElem?_eq_some_iff.1 ho).1).trans ho) (.inl hoc)⟩, ⟨Nat.le_trans hb3.size h2, fun i hi hl => ?_⟩, _, by rw [HRV.out, q]; exact h1⟩
        rw [h3 i _ ((hb3.block i hl).trans (Array.getElem?_eq_getElem hl)) (.inr (by omega)), Array.getElem?_eq_getElem hl]
      clear hb2 hb3 hR3 hbx hs3 hnl HP hV HRA HRV
      rcases hyv with ⟨rfl, hv⟩ | ⟨rfl, hv⟩
      · cases hyg : y.m.g with
        | true =>
          have HF := Lib.hid (HNo.out (by rw [hv]; simp [rowsE, hyg]))
          rw [hyg] at HF z0 z1 p0 p1 p2 p3 run4
          clear HNo HYes hv e4 f4
          gi_wp2
          exact HF.out
        | false =>
          have HF := Lib.hid (HYes.out (by rw [hv]; simp [rowsE, hyg]))
          rw [hyg] at z0 z1 p0 p1 p2 p3 run4
          clear HNo HYes hv
          gi_wp2
          exact HF.out
      · have HF := Lib.hid (HNo.out (by rw [hv]; rfl))
        clear HNo HYes hv e4 f4
        gi_wp2
        exact HF.out
    case done =>
      rintro D xs W hD hS ⟨vl, hRA⟩ hK
      have hg3 := grownBy_putObj' W D (.deferred none)
      have hcb := hRA.cells.1
      have hR2 := hRA.other hg3 (fun r e => by injection e with e; subst e; exact ⟨by omega, _, hK, rfl⟩)
      rw [hS] at hR2
      have HF : Hid (SeeR w S s (.returned (.tuple #[vl, .int .i64 0])) (W.putObj D (.deferred none))) := by
        refine ⟨?_, .inl ⟨HR.out, vl, rfl, own_base hR2.row (by omega)⟩⟩
        exact (HB0.out.trans (HB1.out.mono (by omega))).trans (hR2.low.mono (by omega))
      have HK := Lib.hid hK
      clear hRA hR2 hK hg3 hS
      go_wp2
      refine ⟨by simp, .inl ⟨_, _, rfl, run_takeDeferred HK.out, ?_⟩⟩
      refine ⟨_, results_tmp2 rfl _ _ _, ?_⟩
      exact HF.out
  · have hd : decide (Rise S) = false := decide_eq_false hr
    rw [hd] at HA
    have HR := Lib.hid hr
    clear hd hr
    go_wp2_with fail
    rw [HW0.out]
    refine HA.out.mono ?_
    rintro e w1 ⟨rfl, hb1⟩
    have HF : Hid (SeeR w S s (.returned (.tuple #[.slice none 0 0, .int .i64 1])) w1) := ⟨HB0.out.trans (hb1.mono HB0.out.size), .inr ⟨HR.out, rfl⟩⟩
    clear hb1 HA
    go_wp2
    refine ⟨_, results_tmp2 rfl _ _ _, ?_⟩
    exact HF.out
end
end Go.Proofs.Ytoljldokehfokaa

