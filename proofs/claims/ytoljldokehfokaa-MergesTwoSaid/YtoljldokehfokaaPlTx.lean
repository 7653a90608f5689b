/-
  Plain mathematics: texts and marks in order.
  Lists of marks and of entries in memory; contracts of the laws' helpers: great, EntriesSize.
  Contracts of package order: Check, Cmp.
  How many bytes a list of entries weighs; contract of the laws' helper EntriesSize.
  Plain mathematics: entries in order, each mark once; what a list of entries, put one by one, comes to.
  Contracts of package order: Cmp.
-/
import Derived.Lib.Strings
import GoSem.Op.String
import Derived.Test.YtoljldokehfokaaMem
import Derived.LoopTactic
import Derived.BigQuiet
namespace Go.Proofs.Ytoljldokehfokaa
set_option linter.unusedVariables false

theorem less_lt : ∀ x y : List UInt8, Op.bytesLess x y = true ↔ x < y
  | x, [] => by cases x <;> simp [Op.bytesLess]
  | [], y :: ys => by simp [Op.bytesLess]
  | x :: xs, y :: ys => by
    have ih := less_lt xs ys
    unfold Op.bytesLess
    rw [List.cons_lt_cons_iff, ← ih]
    simp
/-- does one text stand ahead of another one? -/
def lessB (a b : ByteArray) : Bool := Op.bytesLess a.toList b.toList
theorem lessB_eq (a b : ByteArray) : lessB a b = decide (a.data.toList < b.data.toList) := by
  unfold lessB
  rw [Lib.toList_data, Lib.toList_data]
  by_cases h : a.data.toList < b.data.toList
  · rw [(less_lt _ _).2 h, decide_eq_true h]
  · rw [decide_eq_false h]
    exact Bool.eq_false_iff.2 fun e => h ((less_lt _ _).1 e)
theorem txt_ext {a b : ByteArray} (h : a.data.toList = b.data.toList) : a = b := by
  cases a; cases b; simp_all [Array.toList_inj]
theorem txt_eqB (a b : ByteArray) : (a.toList == b.toList) = decide (a = b) := by
  rw [Lib.toList_data, Lib.toList_data]
  by_cases h : a = b
  · subst h; simp
  · have : a.data.toList ≠ b.data.toList := fun e => h (txt_ext e)
    rw [decide_eq_false h]
    exact beq_eq_false_iff_ne.2 this

/-- three ways: -1, 0, 1; turned round it is turned; 0 at the same ones alone; it goes on -/
structure Tri {α : Type} (c : α → α → Int) : Prop where
  three : ∀ a b, c a b = -1 ∨ c a b = 0 ∨ c a b = 1
  turn : ∀ a b, c b a = - c a b
  same : ∀ a b, c a b = 0 → a = b
  on : ∀ a b d, c a b < 0 → c b d < 0 → c a d < 0
theorem Tri.self {α : Type} {c : α → α → Int} (h : Tri c) (a : α) : c a a = 0 := by
  have := h.turn a a; omega
theorem Tri.zero {α : Type} {c : α → α → Int} (h : Tri c) (a b : α) : c a b = 0 ↔ a = b := ⟨h.same a b, fun e => by subst e; exact h.self a⟩

/-- of texts -/
def cmpS (a b : ByteArray) : Int := if lessB a b then -1 else if lessB b a then 1 else 0
/-- of numbers -/
def cmpN (a b : Nat) : Int := if a < b then -1 else if b < a then 1 else 0
/-- gone first -/
def cmpG (a b : Bool) : Int := if a = b then 0 else if a then -1 else 1

theorem lessB_irrefl (a : ByteArray) : lessB a a = false := by
  rw [lessB_eq]; exact decide_eq_false (List.lt_irrefl _)
theorem lessB_asymm {a b : ByteArray} (h : lessB a b = true) : lessB b a = false := by
  rw [lessB_eq] at h ⊢
  exact decide_eq_false (fun h2 => List.lt_irrefl _ (List.lt_trans (of_decide_eq_true h) h2))
theorem lessB_trans {a b d : ByteArray} (h : lessB a b = true) (h2 : lessB b d = true) : lessB a d = true := by
  rw [lessB_eq] at h h2 ⊢
  exact decide_eq_true (List.lt_trans (of_decide_eq_true h) (of_decide_eq_true h2))
theorem lessB_total {a b : ByteArray} (h : lessB a b = false) (h2 : lessB b a = false) : a = b := by
  rw [lessB_eq] at h h2
  have e1 := of_decide_eq_false h
  have e2 := of_decide_eq_false h2
  exact txt_ext (List.le_antisymm (List.not_lt.1 e2) (List.not_lt.1 e1))
theorem lessB_gt (a b : ByteArray) : (!(lessB a b || decide (a = b))) = lessB b a := by
  cases h : lessB a b
  · by_cases e : a = b
    · subst e; simp [lessB_irrefl]
    · cases h2 : lessB b a
      · exact absurd (lessB_total h h2) e
      · simp [e]
  · rw [lessB_asymm h]; rfl

theorem tri_S : Tri cmpS where
  three a b := by unfold cmpS; (repeat' split) <;> simp
  turn a b := by
    unfold cmpS
    cases h : lessB a b <;> cases h2 : lessB b a <;> simp
    have := lessB_asymm h; rw [h2] at this; cases this
  same a b h := by
    unfold cmpS at h
    cases h1 : lessB a b <;> cases h2 : lessB b a <;> simp_all
    exact lessB_total h1 h2
  on a b d h h2 := by
    have e1 : lessB a b = true := by unfold cmpS at h; cases e : lessB a b <;> cases e2 : lessB b a <;> simp_all
    have e2 : lessB b d = true := by unfold cmpS at h2; cases e : lessB b d <;> cases e2 : lessB d b <;> simp_all
    unfold cmpS; rw [lessB_trans e1 e2, if_pos rfl]; decide
theorem tri_N : Tri cmpN where
  three a b := by unfold cmpN; (repeat' split) <;> simp
  turn a b := by unfold cmpN; (repeat' split) <;> omega
  same a b h := by unfold cmpN at h; (repeat' split at h) <;> omega
  on a b d h h2 := by
    have e1 : a < b := by unfold cmpN at h; (repeat' split at h) <;> omega
    have e2 : b < d := by unfold cmpN at h2; (repeat' split at h2) <;> omega
    unfold cmpN; rw [if_pos (by omega)]; decide
theorem tri_R : Tri fun a b => cmpN b a where
  three a b := tri_N.three b a
  turn a b := tri_N.turn b a
  same a b h := (tri_N.same b a h).symm
  on a b d h h2 := tri_N.on d b a h2 h
theorem tri_G : Tri cmpG where
  three a b := by cases a <;> cases b <;> decide
  turn a b := by cases a <;> cases b <;> decide
  same a b := by cases a <;> cases b <;> decide
  on a b d := by cases a <;> cases b <;> cases d <;> decide

/-- the one, and if it says nothing the other one -/
def lex2 {α β : Type} (c : α → α → Int) (d : β → β → Int) (x y : α × β) : Int := if c x.1 y.1 ≠ 0 then c x.1 y.1 else d x.2 y.2
theorem Tri.lex {α β : Type} {c : α → α → Int} {d : β → β → Int} (h : Tri c) (h2 : Tri d) : Tri (lex2 c d) where
  three x y := by unfold lex2; split; exact h.three _ _; exact h2.three _ _
  turn x y := by
    have := h.turn x.1 y.1
    unfold lex2
    by_cases e : c x.1 y.1 = 0
    · rw [if_neg (by omega), if_neg (by omega)]; exact h2.turn _ _
    · rw [if_pos (by omega), if_pos e]; exact this
  same x y e := by
    unfold lex2 at e
    by_cases e1 : c x.1 y.1 = 0
    · rw [if_neg (by omega)] at e
      exact Prod.ext (h.same _ _ e1) (h2.same _ _ e)
    · rw [if_pos e1] at e; omega
  on x y z e e2 := by
    unfold lex2 at e e2 ⊢
    by_cases e1 : c x.1 y.1 = 0
    · rw [if_neg (by omega)] at e
      have q := h.same _ _ e1
      rw [q]
      by_cases e3 : c y.1 z.1 = 0
      · rw [if_neg (by omega)] at e2 ⊢; exact h2.on _ _ _ e e2
      · rw [if_pos e3] at e2 ⊢; exact e2
    · rw [if_pos e1] at e
      by_cases e3 : c y.1 z.1 = 0
      · have q := h.same _ _ e3
        rw [← q, if_pos e1]; exact e
      · rw [if_pos e3] at e2
        have := h.on _ _ _ e e2
        rw [if_pos (by omega)]; exact this

/-- a mark: its key, its number, whether it is gone -/
structure Mk where
  k : ByteArray
  s : Nat
  g : Bool
def Mk.p (m : Mk) : ByteArray × (Nat × Bool) := (m.k, (m.s, m.g))
theorem Mk.ext' {a b : Mk} (h : a.p = b.p) : a = b := by
  cases a; cases b; simp_all [Mk.p]
/-- how two marks stand -/
def cmpM (a b : Mk) : Int := lex2 cmpS (lex2 (fun a b => cmpN b a) cmpG) a.p b.p
theorem tri_M : Tri cmpM where
  three a b := (tri_S.lex (tri_R.lex tri_G)).three _ _
  turn a b := (tri_S.lex (tri_R.lex tri_G)).turn _ _
  same a b h := Mk.ext' ((tri_S.lex (tri_R.lex tri_G)).same _ _ h)
  on a b d h h2 := (tri_S.lex (tri_R.lex tri_G)).on _ _ _ h h2
theorem cmpM_eq (a b : Mk) : cmpM a b = if cmpS a.k b.k ≠ 0 then cmpS a.k b.k else if cmpN b.s a.s ≠ 0 then cmpN b.s a.s else cmpG a.g b.g := rfl

/-- a mark with a value -/
structure En where
  m : Mk
  x : ByteArray
theorem En.ext' {a b : En} (h : a.m = b.m) (h2 : a.x = b.x) : a = b := by
  cases a; cases b; simp_all
def Mk.v (m : Mk) : Value := .agg #[.string m.k, .int .u64 (m.s : Int), .bool m.g]
def En.v (e : En) : Value := .agg #[.string e.m.k, .int .u64 (e.m.s : Int), .bool e.m.g, .string e.x]
end Go.Proofs.Ytoljldokehfokaa

namespace Go.Proofs.Ytoljldokehfokaa
open Go.RowKit
set_option linter.unusedVariables false

theorem flat_len {α β : Type} (f : α → List β) (k : Nat) (hk : ∀ a, (f a).length = k) (l : List α) : (l.flatMap f).length = l.length * k := by
  induction l with
  | nil => simp
  | cons a l ih => rw [List.flatMap_cons, List.length_append, ih, hk, List.length_cons, Nat.succ_mul]; omega
theorem flat_get {α β : Type} (f : α → List β) (k : Nat) (hk : ∀ a, (f a).length = k) (l : List α) : ∀ (i j : Nat) (a : α), l[i]? = some a → j < k → (l.flatMap f)[i * k + j]? = (f a)[j]? := by
  induction l with
  | nil => intro i j a ha; simp at ha
  | cons b l ih =>
    intro i j a ha hj
    rw [List.flatMap_cons]
    cases i with
    | zero =>
      simp at ha; subst ha
      rw [Nat.zero_mul, Nat.zero_add, List.getElem?_append_left (by rw [hk]; exact hj)]
    | succ i =>
      rw [List.getElem?_append_right (by rw [hk, Nat.succ_mul]; omega), hk, show (i + 1) * k + j - k = i * k + j from by rw [Nat.succ_mul]; omega]
      exact ih i j a (by simpa using ha) hj

/-- the cells of a mark, of an entry -/
def Mk.cs (m : Mk) : List Value := [.string m.k, .int .u64 (m.s : Int), .bool m.g]
def En.cs (x : En) : List Value := [.string x.m.k, .int .u64 (x.m.s : Int), .bool x.m.g, .string x.x]
def mcs (l : List Mk) : List Value := l.flatMap Mk.cs
def ecs (l : List En) : List Value := l.flatMap En.cs
theorem mcs_len (l : List Mk) : (mcs l).length = l.length * 3 := flat_len Mk.cs 3 (fun _ => rfl) l
theorem ecs_len (l : List En) : (ecs l).length = l.length * 4 := flat_len En.cs 4 (fun _ => rfl) l
theorem mcs_app (l l' : List Mk) : mcs (l ++ l') = mcs l ++ mcs l' := by unfold mcs; simp
theorem mcs_take (l : List Mk) (k : Nat) : (mcs l).take (k * 3) = mcs (l.take k) := by
  unfold mcs
  induction l generalizing k with
  | nil => simp
  | cons a l ih => cases k with
    | zero => simp
    | succ k => rw [List.take_succ_cons, List.flatMap_cons, List.flatMap_cons, ← ih k, Nat.succ_mul]; simp [Mk.cs, List.take_succ_cons]
theorem mcs_drop (l : List Mk) (k : Nat) : (mcs l).drop (k * 3) = mcs (l.drop k) := by
  unfold mcs
  induction l generalizing k with
  | nil => simp
  | cons a l ih => cases k with
    | zero => simp
    | succ k => rw [List.drop_succ_cons, List.flatMap_cons, ← ih k, Nat.succ_mul]; simp [Mk.cs]
theorem mcs_one (l : List Mk) : ∀ u ∈ mcs l, u.oneCell' = true := by
  intro u hu
  obtain ⟨m, _, hm⟩ := List.mem_flatMap.1 hu
  simp only [Mk.cs, List.mem_cons, List.not_mem_nil, or_false] at hm
  rcases hm with rfl | rfl | rfl <;> rfl

section
variable {w : World} {B n k i : Nat} {A : Option Addr}
/-- where an element lies -/
theorem Lies.elem {xs : List Value} (h : Lies w B k A n xs) (hk : 0 < k) (hi : i < n) : ∃ b o, A = some ⟨b, o, none⟩ ∧ b < B ∧ ∀ j, j < k → w.cell? ⟨b, o + (i * k + j), none⟩ = xs[i * k + j]? := by
  have hlen := h.len
  have hin : ∀ j, j < k → i * k + j < xs.length := fun j hj => by
    rw [hlen]
    have : (i + 1) * k ≤ n * k := Nat.mul_le_mul_right _ hi
    rw [Nat.succ_mul] at this; omega
  obtain ⟨ad, u0, e, hb, hx, hc⟩ := h.spot 0 (by have := hin 0 hk; omega)
  obtain ⟨b, o, sp⟩ := ad
  have hsp : sp = none := by simpa [Addr.add] using World.cell?_spot hc
  subst hsp
  refine ⟨b, o, e, hb, fun j hj => ?_⟩
  obtain ⟨ad, u, e2, _, hx2, hc2⟩ := h.spot (i * k + j) (hin j hj)
  rw [e] at e2
  injection e2 with e2
  subst e2
  rw [add_lit] at hc2
  rw [hc2, hx2]
theorem Lies.mark {l : List Mk} (h : Lies w B 3 A n (mcs l)) (hi : i < n) :
    ∃ b o m, A = some ⟨b, o, none⟩ ∧ b < B ∧ l[i]? = some m ∧ w.cell? ⟨b, o + i * 3, none⟩ = some (.string m.k) ∧ w.cell? ⟨b, o + i * 3 + 1, none⟩ = some (.int .u64 (m.s : Int)) ∧ w.cell? ⟨b, o + i * 3 + 2, none⟩ = some (.bool m.g) := by
  obtain ⟨b, o, e, hb, hc⟩ := h.elem (by decide) hi
  have hl : i < l.length := by have := h.len; rw [mcs_len] at this; omega
  refine ⟨b, o, l[i], e, hb, List.getElem?_eq_getElem hl, ?_, ?_, ?_⟩
  · rw [show o + i * 3 = o + (i * 3 + 0) from rfl, hc 0 (by decide)]; exact flat_get Mk.cs 3 (fun _ => rfl) l i 0 _ (List.getElem?_eq_getElem hl) (by decide)
  · rw [Nat.add_assoc, hc 1 (by decide)]; exact flat_get Mk.cs 3 (fun _ => rfl) l i 1 _ (List.getElem?_eq_getElem hl) (by decide)
  · rw [Nat.add_assoc, hc 2 (by decide)]; exact flat_get Mk.cs 3 (fun _ => rfl) l i 2 _ (List.getElem?_eq_getElem hl) (by decide)
theorem Lies.entry {l : List En} (h : Lies w B 4 A n (ecs l)) (hi : i < n) :
    ∃ b o x, A = some ⟨b, o, none⟩ ∧ b < B ∧ l[i]? = some x ∧ w.cell? ⟨b, o + i * 4, none⟩ = some (.string x.m.k) ∧ w.cell? ⟨b, o + i * 4 + 1, none⟩ = some (.int .u64 (x.m.s : Int)) ∧ w.cell? ⟨b, o + i * 4 + 2, none⟩ = some (.bool x.m.g) ∧ w.cell? ⟨b, o + i * 4 + 3, none⟩ = some (.string x.x) := by
  obtain ⟨b, o, e, hb, hc⟩ := h.elem (by decide) hi
  have hl : i < l.length := by have := h.len; rw [ecs_len] at this; omega
  refine ⟨b, o, l[i], e, hb, List.getElem?_eq_getElem hl, ?_, ?_, ?_, ?_⟩
  · rw [show o + i * 4 = o + (i * 4 + 0) from rfl, hc 0 (by decide)]; exact flat_get En.cs 4 (fun _ => rfl) l i 0 _ (List.getElem?_eq_getElem hl) (by decide)
  · rw [Nat.add_assoc, hc 1 (by decide)]; exact flat_get En.cs 4 (fun _ => rfl) l i 1 _ (List.getElem?_eq_getElem hl) (by decide)
  · rw [Nat.add_assoc, hc 2 (by decide)]; exact flat_get En.cs 4 (fun _ => rfl) l i 2 _ (List.getElem?_eq_getElem hl) (by decide)
  · rw [Nat.add_assoc, hc 3 (by decide)]; exact flat_get En.cs 4 (fun _ => rfl) l i 3 _ (List.getElem?_eq_getElem hl) (by decide)
theorem Lies.mlen {l : List Mk} (h : Lies w B 3 A n (mcs l)) : l.length = n := by have := h.len; rw [mcs_len] at this; omega
theorem Lies.elen {l : List En} (h : Lies w B 4 A n (ecs l)) : l.length = n := by have := h.len; rw [ecs_len] at this; omega
end

/-- how many bytes keys have -/
def ksum (l : List Mk) : Nat := (l.map fun m => m.k.size).sum
theorem ksum_take (l : List Mk) (k : Nat) (m : Mk) (h : l[k]? = some m) : ksum (l.take (k + 1)) = ksum (l.take k) + m.k.size := by
  unfold ksum
  rw [List.take_add_one, h]; simp
end Go.Proofs.Ytoljldokehfokaa

namespace Go.Proofs.Ytoljldokehfokaa
open Go.RowKit
set_option linter.unusedVariables false

/-- may a key be? -/
def chk (s : ByteArray) : Bool := decide (1 ≤ s.size ∧ s.size ≤ 32)
theorem nanS (x : ByteArray) (w : World) : Calls Try.prog 40 #[.string x] w fun e w' => e = .returned (.bool false) ∧ w = w' := by
  go_enter Try.func40, Try.ntmps40
  go_wp2
  go_ret
  exact ⟨by simp, rfl⟩
theorem nanN (x : Nat) (w : World) : Calls Try.prog 41 #[.int .u64 (x : Int)] w fun e w' => e = .returned (.bool false) ∧ w = w' := by
  go_enter Try.func41, Try.ntmps41
  go_wp2
  go_ret
  exact ⟨by simp, rfl⟩
theorem cmpS_any (a b : ByteArray) (w : World) : Calls Try.prog 25 #[.string a, .string b] w fun e w' => e = .returned (.int .i64 (cmpS a b)) ∧ w = w' := by
  have h1 : Op.bytesLess a.toList b.toList = lessB a b := rfl
  have h2 := lessB_gt a b
  unfold cmpS
  cases e1 : lessB a b
  · cases e2 : lessB b a
    · have he : (a.toList == b.toList) = true := by rw [txt_eqB, lessB_total e1 e2]; simp
      rw [e1] at h1
      clear h2 e1 e2
      rw [if_neg (by decide), if_neg (by decide)]
      go_enter Try.func25, Try.ntmps25
      go_wp2_with (go_at_call 40; refine (nanS _ _).mono ?_; rintro e w' ⟨rfl, rfl⟩)
      go_ret
      exact ⟨rfl, rfl⟩
    · have he : (a.toList == b.toList) = false := by
        rw [txt_eqB]
        exact decide_eq_false (fun h => by subst h; rw [e1] at e2; cases e2)
      rw [e1] at h1
      clear h2 e1 e2
      rw [if_neg (by decide), if_pos rfl]
      go_enter Try.func25, Try.ntmps25
      go_wp2_with (go_at_call 40; refine (nanS _ _).mono ?_; rintro e w' ⟨rfl, rfl⟩)
      go_ret
      exact ⟨rfl, rfl⟩
  · rw [e1] at h1
    clear h2 e1
    rw [if_pos rfl]
    go_enter Try.func25, Try.ntmps25
    go_wp2_with (go_at_call 40; refine (nanS _ _).mono ?_; rintro e w' ⟨rfl, rfl⟩)
    go_ret
    exact ⟨rfl, rfl⟩
theorem cmpN_any (a b : Nat) (w : World) : Calls Try.prog 27 #[.int .u64 (a : Int), .int .u64 (b : Int)] w fun e w' => e = .returned (.int .i64 (cmpN a b)) ∧ w = w' := by
  go_enter Try.func27, Try.ntmps27
  go_wp2_with (go_at_call 41; refine (nanN _ _).mono ?_; rintro e w' ⟨rfl, rfl⟩)
  all_goals (go_ret; refine ⟨?_, rfl⟩; unfold cmpN; (repeat' split) <;> first | rfl | (exfalso; omega))
theorem cmpG_any (a b : Bool) (w : World) : Calls Try.prog 29 #[.bool a, .bool b] w fun e w' => e = .returned (.int .i64 (cmpG a b)) ∧ w = w' := by
  cases a <;> cases b <;>
    (go_enter Try.func29, Try.ntmps29
     go_wp2
     go_ret
     exact ⟨rfl, rfl⟩)

/-- a mark that lies in a block of its own -/
def MkAt (w : World) (g : Nat) (m : Mk) : Prop := w.heap[g]? = some (.cells #[.string m.k, .int .u64 (m.s : Int), .bool m.g] 29 (0, 0))
theorem MkAt.cell {w : World} {g : Nat} {m : Mk} (h : MkAt w g m) : w.cell? ⟨g, 0, none⟩ = some (.string m.k) ∧ w.cell? ⟨g, 1, none⟩ = some (.int .u64 (m.s : Int)) ∧ w.cell? ⟨g, 2, none⟩ = some (.bool m.g) :=
  ⟨cell_of_row w g 0 _ _ (0, 0) h, cell_of_row w g 1 _ _ (0, 0) h, cell_of_row w g 2 _ _ (0, 0) h⟩
theorem cmp1_any (a b : Mk) (g h : Nat) (w : World) (ha : MkAt w g a) (hb : MkAt w h b) :
    Calls Try.prog 24 #[.pointer (some ⟨g, 0, none⟩), .pointer (some ⟨h, 0, none⟩)] w fun e w' => e = .returned (.int .i64 (cmpS a.k b.k)) ∧ w = w' := by
  obtain ⟨a1, a2, a3⟩ := ha.cell
  obtain ⟨b1, b2, b3⟩ := hb.cell
  go_enter Try.func24, Try.ntmps24
  go_wp2_with (go_at_call 25; refine (cmpS_any _ _ _).mono ?_; rintro e w' ⟨rfl, rfl⟩)
  go_ret
  exact ⟨rfl, rfl⟩
theorem cmp2_any (a b : Mk) (g h : Nat) (w : World) (ha : MkAt w g a) (hb : MkAt w h b) :
    Calls Try.prog 26 #[.pointer (some ⟨g, 0, none⟩), .pointer (some ⟨h, 0, none⟩)] w fun e w' => e = .returned (.int .i64 (cmpN a.s b.s)) ∧ w = w' := by
  obtain ⟨a1, a2, a3⟩ := ha.cell
  obtain ⟨b1, b2, b3⟩ := hb.cell
  go_enter Try.func26, Try.ntmps26
  go_wp2_with (go_at_call 27; refine (cmpN_any _ _ _).mono ?_; rintro e w' ⟨rfl, rfl⟩)
  go_ret
  exact ⟨rfl, rfl⟩
theorem cmp3_any (a b : Mk) (g h : Nat) (w : World) (ha : MkAt w g a) (hb : MkAt w h b) :
    Calls Try.prog 28 #[.pointer (some ⟨g, 0, none⟩), .pointer (some ⟨h, 0, none⟩)] w fun e w' => e = .returned (.int .i64 (cmpG a.g b.g)) ∧ w = w' := by
  obtain ⟨a1, a2, a3⟩ := ha.cell
  obtain ⟨b1, b2, b3⟩ := hb.cell
  go_enter Try.func28, Try.ntmps28
  go_wp2_with (go_at_call 29; refine (cmpG_any _ _ _).mono ?_; rintro e w' ⟨rfl, rfl⟩)
  go_ret
  exact ⟨rfl, rfl⟩
end Go.Proofs.Ytoljldokehfokaa

namespace Go.Proofs.Ytoljldokehfokaa
open Go.RowKit
set_option linter.unusedVariables false

def esum (l : List En) : Nat := (l.map fun x => x.m.k.size + x.x.size).sum
theorem esum_take (l : List En) (k : Nat) (x : En) (h : l[k]? = some x) : esum (l.take (k + 1)) = esum (l.take k) + (x.m.k.size + x.x.size) := by
  unfold esum
  rw [List.take_add_one, h]; simp
theorem esum_mem (l : List En) (x : En) (h : x ∈ l) : x.m.k.size + x.x.size ≤ esum l := by
  induction l with
  | nil => cases h
  | cons a l ih =>
    have e : esum (a :: l) = a.m.k.size + a.x.size + esum l := by unfold esum; simp
    rcases List.mem_cons.1 h with rfl | h
    · omega
    · have := ih h; omega
theorem esum_take_le (l : List En) (k : Nat) : esum (l.take k) ≤ esum l := by
  have e : esum l = esum (l.take k) + esum (l.drop k) := by
    unfold esum
    rw [← List.sum_append, ← List.map_append, List.take_append_drop]
  omega
theorem esum_drop_le (l : List En) (k : Nat) : esum (l.drop k) ≤ esum l := by
  have e : esum l = esum (l.take k) + esum (l.drop k) := by
    unfold esum
    rw [← List.sum_append, ← List.map_append, List.take_append_drop]
  omega
set_option maxHeartbeats 1000000 in
theorem entriesSize_any (A : Option Addr) (n c : Nat) (l : List En) (w : World) (h : Lies w w.heap.size 4 A n (ecs l)) (hm : ∀ x ∈ l, x.m.s < 18446744073709551616 ∧ x.m.k.size ≤ 140737488351232 ∧ x.x.size ≤ 140737488351232) (hn : n ≤ 140737488351232) :
    Calls Try.prog 15 #[.slice A n c] w fun e w' => ∃ z q : Nat, e = .returned (.int .i64 (z : Int)) ∧ w' = w.drewN q ∧ (z ≤ 1048576 → z = n + esum l) := by
  have hll := h.elen
  have HL := Lib.hid h; have HM := Lib.hid hm
  have HF : Hid (l.take n = l) := List.take_of_length_le (by omega)
  clear h hm hll
  go_enter Try.func15, Try.ntmps15
  go_wp2
  go_loopw [3, 4] (fun t i wr => ∃ k q : Nat, k ≤ n ∧ i = .int .i64 (k : Int) ∧ t = .int .i64 ((n + esum (l.take k) : Nat) : Int) ∧ n + esum (l.take k) ≤ 281474978000000 ∧ wr = w.drewN q) (fun _ i _ => n - (intOf i).toNat)
  case atStart => exact ⟨0, 0, Nat.zero_le _, rfl, by simp [esum], by simp [esum]; omega, rfl⟩
  case round =>
    obtain ⟨k, q, hk, rfl, rfl, hle, rfl⟩ := hrel
    by_cases hlt : k < n
    · obtain ⟨b, o, x, rfl, hbB, hu, c0, _, _, c3⟩ := HL.out.entry hlt
      obtain ⟨_, hk1, hx1⟩ := HM.out x (List.mem_of_getElem? hu)
      have HS := Lib.hid (esum_take l k x hu)
      obtain ⟨s, hs⟩ : ∃ s, n + esum (l.take k) = s := ⟨_, rfl⟩
      rw [hs] at hle ⊢
      have HZ := Lib.hid hs
      have hi0 : (0 : Int) ≤ (k : Int) := by omega
      have hi1 : (k : Int) < (n : Int) := by omega
      clear hu hs
      by_cases hbig : 1048576 < s
      · have hd : decide ((s : Int) ≤ 1048576) = false := by simp; omega
        go_wp2
        go_ret
        exact ⟨s, q, rfl, rfl, fun h => by omega⟩
      · have hd : decide ((s : Int) ≤ 1048576) = true := by simp; omega
        have hle2 : s + (x.m.k.size + x.x.size) ≤ 281474978000000 := by omega
        have w1 : IntKind.i64.wrap ((s : Int) + (x.m.k.size : Int)) = (s : Int) + (x.m.k.size : Int) := IntWalk.i64_in _ (by omega)
        have w2 : IntKind.i64.wrap ((s : Int) + (x.m.k.size : Int) + (x.x.size : Int)) = (s : Int) + (x.m.k.size : Int) + (x.x.size : Int) := IntWalk.i64_in _ (by omega)
        go_wp2
        go_quiet (fail)
        clear w1 w2
        go_wp2
        go_roundw
        case rel => exact ⟨k + 1, _, hlt, by go_num, by rw [HS.out, ← Nat.add_assoc, HZ.out]; simp; omega, by rw [HS.out, ← Nat.add_assoc, HZ.out]; exact hle2, by first | rfl | (rw [World.drewN_drewN])⟩
        case measure => simp [intOf]; omega
    · obtain rfl : n = k := by omega
      rw [HF.out] at hle ⊢
      obtain ⟨z, hz⟩ : ∃ z, n + esum l = z := ⟨_, rfl⟩
      rw [hz] at hle ⊢
      have HZ := Lib.hid hz
      clear hz
      go_wp2
      go_ret
      exact ⟨z, q, rfl, rfl, fun _ => HZ.out.symm⟩
end Go.Proofs.Ytoljldokehfokaa

namespace Go.Proofs.Ytoljldokehfokaa
open Go.RowKit
set_option linter.unusedVariables false

/-- may an entry be? -/
def fineE (e : En) : Bool := chk e.m.k && (decide (e.x.size ≤ 256) && (e.x.toList.isEmpty || !e.m.g))
theorem fine_size {e : En} (h : fineE e = true) : 1 ≤ e.m.k.size ∧ e.m.k.size ≤ 32 ∧ e.x.size ≤ 256 := by
  unfold fineE chk at h
  simp only [Bool.and_eq_true, decide_eq_true_eq] at h
  exact ⟨h.1.1, h.1.2, h.2.1⟩
def Rise (S : List En) : Prop := S.Pairwise fun a b => cmpM a.m b.m < 0
def bef (m : Mk) (e : En) : Bool := decide (cmpM e.m m < 0)

theorem cmp_self (m : Mk) : cmpM m m = 0 := tri_M.self m
theorem cmp_flip {a b : Mk} : cmpM b a = - cmpM a b := tri_M.turn a b
theorem cmp_trans {a b d : Mk} (h : cmpM a b < 0) (h2 : cmpM b d < 0) : cmpM a d < 0 := tri_M.on a b d h h2

theorem Rise.ne {S : List En} (h : Rise S) {i j : Nat} {a b : En} (hij : i < j) (ha : S[i]? = some a) (hb : S[j]? = some b) : cmpM a.m b.m < 0 := by
  obtain ⟨hi, rfl⟩ := List.getElem?_eq_some_iff.1 ha
  obtain ⟨hj, rfl⟩ := List.getElem?_eq_some_iff.1 hb
  exact List.pairwise_iff_getElem.1 h i j hi hj hij
/-- those from m on: none of them stands ahead of m -/
theorem Rise.rest {S : List En} (h : Rise S) (m : Mk) : ∀ e ∈ S.dropWhile (bef m), ¬ cmpM e.m m < 0 := by
  induction S with
  | nil => intro e he; cases he
  | cons x S ih =>
    rw [List.dropWhile_cons]
    have hx := List.pairwise_cons.1 h
    by_cases hb : bef m x = true
    · rw [if_pos hb]; exact ih hx.2
    · rw [if_neg hb]
      have hn : ¬ cmpM x.m m < 0 := by simpa [bef] using hb
      intro e he
      rcases List.mem_cons.1 he with rfl | he
      · exact hn
      · exact fun q => hn (cmp_trans (hx.1 e he) q)
theorem take_while_mem {α : Type} (p : α → Bool) : ∀ (S : List α) (e : α), e ∈ S.takeWhile p → p e = true
  | [], e, h => by cases h
  | x :: S, e, h => by
    rw [List.takeWhile_cons] at h
    by_cases hp : p x = true
    · rw [if_pos hp] at h
      rcases List.mem_cons.1 h with rfl | h
      · exact hp
      · exact take_while_mem p S e h
    · rw [if_neg hp] at h; cases h
theorem first_bef {S : List En} (m : Mk) : ∀ e ∈ S.takeWhile (bef m), cmpM e.m m < 0 := fun e he => by
  have := take_while_mem _ _ _ he
  simpa [bef] using this
theorem Rise.split {S : List En} (h : Rise S) (m : Mk) (e : En) : e ∈ S.dropWhile (bef m) ↔ e ∈ S ∧ ¬ cmpM e.m m < 0 := by
  constructor
  · intro he; exact ⟨(List.dropWhile_sublist _).mem he, h.rest m e he⟩
  · rintro ⟨he, hn⟩
    rw [← List.takeWhile_append_dropWhile (p := bef m) (l := S), List.mem_append] at he
    rcases he with he | he
    · exact absurd (first_bef m e he) hn
    · exact he

/-- put in order -/
def insE (x : En) (S : List En) : List En := S.takeWhile (bef x.m) ++ x :: S.dropWhile (bef x.m)
theorem mem_insE (x : En) (S : List En) (e : En) : e ∈ insE x S ↔ e = x ∨ e ∈ S := by
  unfold insE
  rw [List.mem_append, List.mem_cons]
  constructor
  · rintro (h | h | h)
    · exact .inr ((List.takeWhile_sublist _).mem h)
    · exact .inl h
    · exact .inr ((List.dropWhile_sublist _).mem h)
  · rintro (h | h)
    · exact .inr (.inl h)
    · rw [← List.takeWhile_append_dropWhile (p := bef x.m) (l := S), List.mem_append] at h
      rcases h with h | h
      · exact .inl h
      · exact .inr (.inr h)
theorem insE_len (x : En) (S : List En) : (insE x S).length = S.length + 1 := by
  unfold insE
  have := congrArg List.length (List.takeWhile_append_dropWhile (p := bef x.m) (l := S))
  rw [List.length_append] at this
  rw [List.length_append, List.length_cons]; omega
theorem Rise.ins {S : List En} (h : Rise S) (x : En) (hx : ∀ e ∈ S, e.m ≠ x.m) : Rise (insE x S) := by
  unfold insE Rise
  rw [List.pairwise_append]
  refine ⟨h.sublist (List.takeWhile_sublist _), List.pairwise_cons.2 ⟨fun e he => ?_, h.sublist (List.dropWhile_sublist _)⟩, fun a ha b hb => ?_⟩
  · have h1 := h.rest x.m e he
    have h2 := hx e ((List.dropWhile_sublist _).mem he)
    have h3 := tri_M.three e.m x.m
    have h4 : cmpM e.m x.m ≠ 0 := fun q => h2 (tri_M.same _ _ q)
    have h5 := cmp_flip (a := e.m) (b := x.m)
    omega
  · have h1 := first_bef x.m a ha
    rcases List.mem_cons.1 hb with rfl | hb
    · exact h1
    · have h2 := h.rest x.m b hb
      have h3 := cmp_flip (a := b.m) (b := x.m)
      by_cases h0 : cmpM x.m b.m < 0
      · exact cmp_trans h1 h0
      · have h4 : cmpM b.m x.m = 0 := by omega
        rw [tri_M.same _ _ h4]; exact h1
/-- lists in order with the same members are one -/
theorem rise_one : ∀ (S T : List En), Rise S → Rise T → (∀ e, e ∈ S ↔ e ∈ T) → S = T
  | [], [], _, _, _ => rfl
  | [], t :: T, _, _, h => by have := (h t).2 (by simp); cases this
  | s :: S, [], _, _, h => by have := (h s).1 (by simp); cases this
  | s :: S, t :: T, hS, hT, h => by
    have h1 := List.pairwise_cons.1 hS
    have h2 := List.pairwise_cons.1 hT
    have he : s = t := by
      rcases List.mem_cons.1 ((h s).1 (by simp)) with q | q
      · exact q
      · rcases List.mem_cons.1 ((h t).2 (by simp)) with p | p
        · exact p.symm
        · have a := h2.1 s q
          have b := h1.1 t p
          have := cmp_flip (a := s.m) (b := t.m)
          omega
    subst he
    congr 1
    refine rise_one S T h1.2 h2.2 fun e => ?_
    have hne : ∀ {L : List En}, (∀ a ∈ L, cmpM s.m a.m < 0) → s ∉ L := fun hL hm => by have := hL s hm; rw [cmp_self] at this; omega
    constructor
    · intro he
      rcases List.mem_cons.1 ((h e).1 (by simp [he])) with rfl | q
      · exact absurd he (hne h1.1)
      · exact q
    · intro he
      rcases List.mem_cons.1 ((h e).2 (by simp [he])) with rfl | q
      · exact absurd he (hne h2.1)
      · exact q
/-- one of each mark -/
theorem Rise.one {S : List En} (h : Rise S) {a b : En} (ha : a ∈ S) (hb : b ∈ S) (hm : a.m = b.m) : a = b := by
  obtain ⟨i, hi⟩ := List.getElem?_of_mem ha
  obtain ⟨j, hj⟩ := List.getElem?_of_mem hb
  rcases Nat.lt_trichotomy i j with q | q | q
  · have := h.ne q hi hj; rw [hm, cmp_self] at this; omega
  · subst q; rw [hi] at hj; injection hj
  · have := h.ne q hj hi; rw [hm, cmp_self] at this; omega

/-- is l[i] the first that may be of its mark? -/
def First (l : List En) (i : Nat) (e : En) : Prop := l[i]? = some e ∧ fineE e = true ∧ ∀ k, k < i → ∀ x, l[k]? = some x → fineE x = true → x.m ≠ e.m
/-- what l comes to, put one by one -/
def Built (l S : List En) : Prop := Rise S ∧ ∀ e, e ∈ S ↔ ∃ i, First l i e
theorem First.lt {l : List En} {i : Nat} {e : En} (h : First l i e) : i < l.length := (List.getElem?_eq_some_iff.1 h.1).1
theorem first_app {l l' : List En} {i : Nat} {e : En} (hi : i < l.length) : First (l ++ l') i e ↔ First l i e := by
  unfold First
  rw [List.getElem?_append_left hi]
  refine and_congr_right fun _ => and_congr_right fun _ => ?_
  constructor
  · intro h k hk x hx; exact h k hk x (by rw [List.getElem?_append_left (by omega)]; exact hx)
  · intro h k hk x hx; exact h k hk x (by rw [List.getElem?_append_left (by omega)] at hx; exact hx)
theorem Built.nil : Built [] [] := ⟨List.Pairwise.nil, fun e => by simp [First]⟩
/-- is there one of that mark that may be? -/
def thereE (l : List En) (m : Mk) : Prop := ∃ (k : Nat) (x : En), l[k]? = some x ∧ fineE x = true ∧ x.m = m
theorem Built.there {l S : List En} (h : Built l S) (m : Mk) : thereE l m ↔ ∃ e ∈ S, e.m = m := by
  constructor
  · rintro ⟨k, x, hk, hf, hm⟩
    -- the first such
    have : ∃ i e, First l i e ∧ e.m = m := by
      induction k using Nat.strongRecOn generalizing x with
      | _ k ih =>
        by_cases hq : ∃ j, j < k ∧ ∃ y, l[j]? = some y ∧ fineE y = true ∧ y.m = m
        · obtain ⟨j, hj, y, h1, h2, h3⟩ := hq
          exact ih j hj y h1 h2 h3
        · exact ⟨k, x, ⟨hk, hf, fun j hj y h1 h2 h3 => hq ⟨j, hj, y, h1, h2, h3.trans hm⟩⟩, hm⟩
    obtain ⟨i, e, hF, he⟩ := this
    exact ⟨e, (h.2 e).2 ⟨i, hF⟩, he⟩
  · rintro ⟨e, he, hm⟩
    obtain ⟨i, hF⟩ := (h.2 e).1 he
    exact ⟨i, e, hF.1, hF.2.1, hm⟩
theorem Built.bad {l S : List En} (h : Built l S) {x : En} (hx : fineE x = false) : Built (l ++ [x]) S := by
  refine ⟨h.1, fun e => (h.2 e).trans ⟨fun ⟨i, hi⟩ => ⟨i, (first_app hi.lt).2 hi⟩, fun ⟨i, hi⟩ => ?_⟩⟩
  by_cases hl : i < l.length
  · exact ⟨i, (first_app hl).1 hi⟩
  · have hlt := hi.lt
    rw [List.length_append, List.length_singleton] at hlt
    have he := hi.1
    rw [List.getElem?_append_right (by omega), show i - l.length = 0 from by omega] at he
    simp at he; subst he
    rw [hi.2.1] at hx; cases hx
theorem Built.dup {l S : List En} (h : Built l S) {x : En} (hx : thereE l x.m) : Built (l ++ [x]) S := by
  refine ⟨h.1, fun e => (h.2 e).trans ⟨fun ⟨i, hi⟩ => ⟨i, (first_app hi.lt).2 hi⟩, fun ⟨i, hi⟩ => ?_⟩⟩
  by_cases hl : i < l.length
  · exact ⟨i, (first_app hl).1 hi⟩
  · have hlt := hi.lt
    rw [List.length_append, List.length_singleton] at hlt
    have he := hi.1
    rw [List.getElem?_append_right (by omega), show i - l.length = 0 from by omega] at he
    simp at he; subst he
    obtain ⟨k, y, hk, hf, hm⟩ := hx
    have hkl := (List.getElem?_eq_some_iff.1 hk).1
    exact absurd hm (hi.2.2 k (by omega) y (by rw [List.getElem?_append_left hkl]; exact hk) hf)
theorem Built.new {l S : List En} (h : Built l S) {x : En} (hf : fineE x = true) (hx : ¬ thereE l x.m) : Built (l ++ [x]) (insE x S) := by
  refine ⟨h.1.ins x fun e he hm => hx ((h.there x.m).2 ⟨e, he, hm⟩), fun e => (mem_insE x S e).trans ?_⟩
  constructor
  · rintro (rfl | he)
    · refine ⟨l.length, by simp, hf, fun k hk y hy hfy hm => hx ⟨k, y, ?_, hfy, hm⟩⟩
      rw [List.getElem?_append_left hk] at hy; exact hy
    · obtain ⟨i, hi⟩ := (h.2 e).1 he
      exact ⟨i, (first_app hi.lt).2 hi⟩
  · rintro ⟨i, hi⟩
    by_cases hl : i < l.length
    · exact .inr ((h.2 e).2 ⟨i, (first_app hl).1 hi⟩)
    · have hlt := hi.lt
      rw [List.length_append, List.length_singleton] at hlt
      have he := hi.1
      rw [List.getElem?_append_right (by omega), show i - l.length = 0 from by omega] at he
      simp at he; exact .inl he.symm
theorem Built.fine {l S : List En} (h : Built l S) : ∀ e ∈ S, fineE e = true := fun e he => by
  obtain ⟨i, hi⟩ := (h.2 e).1 he; exact hi.2.1
theorem esum_insE (x : En) (S : List En) : esum (insE x S) = esum S + (x.m.k.size + x.x.size) := by
  unfold insE esum
  have h := congrArg (fun L : List En => (L.map fun e => e.m.k.size + e.x.size).sum) (List.takeWhile_append_dropWhile (p := bef x.m) (l := S))
  simp only [List.map_append, List.sum_append] at h
  simp only [List.map_append, List.map_cons, List.sum_append, List.sum_cons]
  omega
end Go.Proofs.Ytoljldokehfokaa

namespace Go.Proofs.Ytoljldokehfokaa
open Go.RowKit
set_option linter.unusedVariables false

def cmpF1 (w : World) : Value := .func (.func 24) #[] #[.pointer (some ⟨w.heap.size, 0, none⟩), .pointer (some ⟨w.heap.size + 1, 0, none⟩)]
def cmpF2 (w : World) : Value := .func (.func 26) #[] #[.pointer (some ⟨w.heap.size + 1, 0, none⟩), .pointer (some ⟨w.heap.size, 0, none⟩)]
def cmpF3 (w : World) : Value := .func (.func 28) #[] #[.pointer (some ⟨w.heap.size, 0, none⟩), .pointer (some ⟨w.heap.size + 1, 0, none⟩)]
/-- the world ahead of Cmp's loop -/
def cmpW (a b : Mk) (w : World) : World :=
  ((w.alloc (.cells #[.string a.k, .int .u64 (a.s : Int), .bool a.g] 29)).alloc (.cells #[.string b.k, .int .u64 (b.s : Int), .bool b.g] 29)).alloc
    (.cells #[cmpF1 w, cmpF2 w, cmpF3 w] 61)
theorem cmpW_facts (a b : Mk) (w : World) : MkAt (cmpW a b w) w.heap.size a ∧ MkAt (cmpW a b w) (w.heap.size + 1) b ∧
    (cmpW a b w).cell? ⟨w.heap.size + 1 + 1, 0, none⟩ = some (cmpF1 w) ∧ (cmpW a b w).cell? ⟨w.heap.size + 1 + 1, 1, none⟩ = some (cmpF2 w) ∧ (cmpW a b w).cell? ⟨w.heap.size + 1 + 1, 2, none⟩ = some (cmpF3 w) ∧ Below w.heap.size w (cmpW a b w) := by
  unfold cmpW MkAt
  generalize ha : Obj.cells #[Value.string a.k, .int .u64 (a.s : Int), .bool a.g] 29 = oa
  generalize hb : Obj.cells #[Value.string b.k, .int .u64 (b.s : Int), .bool b.g] 29 = ob
  have s1 : (w.alloc oa).heap.size = w.heap.size + 1 := by simp
  have s2 : ((w.alloc oa).alloc ob).heap.size = w.heap.size + 1 + 1 := by simp
  have h1 : (w.alloc oa).heap[w.heap.size]? = some oa := heap_alloc_new w _
  have h2 : ((w.alloc oa).alloc ob).heap[w.heap.size + 1]? = some ob := by rw [← s1]; exact heap_alloc_new _ _
  have h3 : (((w.alloc oa).alloc ob).alloc (.cells #[cmpF1 w, cmpF2 w, cmpF3 w] 61)).heap[w.heap.size + 1 + 1]? = some (.cells #[cmpF1 w, cmpF2 w, cmpF3 w] 61 (0, 0)) := by rw [← s2]; exact heap_alloc_new _ _
  refine ⟨?_, ?_, cell_of_row _ _ 0 _ _ (0, 0) h3, cell_of_row _ _ 1 _ _ (0, 0) h3, cell_of_row _ _ 2 _ _ (0, 0) h3, ?_⟩
  · exact (Below.heap_alloc _ _ _ (by omega)).trans ((Below.heap_alloc _ _ _ (by omega)).trans h1)
  · exact (Below.heap_alloc _ _ _ (by omega)).trans h2
  · exact (((Below.refl _ _).alloc (Nat.le_refl _) oa).alloc (by omega) ob).alloc (by omega) _

def CmpAt (x y z : Int) (i : Value) : Prop := i = .int .i64 0 ∨ i = .int .i64 1 ∧ x = 0 ∨ i = .int .i64 2 ∧ x = 0 ∧ y = 0 ∨ i = .int .i64 3 ∧ x = 0 ∧ y = 0 ∧ z = 0
set_option maxHeartbeats 2000000 in
theorem cmp_any (a b : Mk) (w : World) :
    Calls Try.prog 16 #[a.v, b.v] w fun e w' => e = .returned (.int .i64 (cmpM a b)) ∧ Below w.heap.size w w' := by
  rw [cmpM_eq]
  unfold Mk.v
  obtain ⟨m1, m2, c1, c2, c3, hB⟩ := cmpW_facts a b w
  obtain ⟨x, hx⟩ : ∃ x, cmpS a.k b.k = x := ⟨_, rfl⟩
  obtain ⟨y, hy⟩ : ∃ y, cmpN b.s a.s = y := ⟨_, rfl⟩
  obtain ⟨z, hz⟩ : ∃ z, cmpG a.g b.g = z := ⟨_, rfl⟩
  have K1 := cmp1_any a b _ _ _ m1 m2
  have K2 := cmp2_any b a _ _ _ m2 m1
  have K3 := cmp3_any a b _ _ _ m1 m2
  rw [hx] at K1 ⊢; rw [hy] at K2 ⊢; rw [hz] at K3 ⊢
  have H1 := Lib.hid K1; have H2 := Lib.hid K2; have H3 := Lib.hid K3
  have HB := Lib.hid hB
  clear hx hy hz K1 K2 K3 m1 m2 hB
  unfold cmpF1 at c1; unfold cmpF2 at c2; unfold cmpF3 at c3
  go_enter Try.func16, Try.ntmps16
  go_wp2_with fail
  change Code.wp _ _ _ _ (cmpW a b w)
  generalize cmpW a b w = W at *
  generalize hS : w.heap.size = g at *
  have HS := Lib.hid hS; clear hS
  go_loop [15] (fun i => CmpAt x y z i) (fun i => 3 - (intOf i).toNat)
  case atStart => exact .inl rfl
  case round =>
    rcases hrel with rfl | ⟨rfl, rfl⟩ | ⟨rfl, rfl, rfl⟩ | ⟨rfl, rfl, rfl, rfl⟩
    · by_cases h0 : x = 0
      · subst h0
        go_wp2_with (go_at_call 24; refine H1.out.mono ?_; rintro e w' ⟨rfl, rfl⟩)
        go_round
        case rel => exact .inr (.inl ⟨rfl, rfl⟩)
        case measure => decide
      · have hb0 : (x != 0) = true := by simp [h0]
        go_wp2_with (go_at_call 24; refine H1.out.mono ?_; rintro e w' ⟨rfl, rfl⟩)
        go_ret
        exact ⟨by simp, by rw [HS.out]; exact HB.out⟩
    · by_cases h0 : y = 0
      · subst h0
        go_wp2_with (go_at_call 26; refine H2.out.mono ?_; rintro e w' ⟨rfl, rfl⟩)
        go_round
        case rel => exact .inr (.inr (.inl ⟨rfl, rfl, rfl⟩))
        case measure => decide
      · have hb0 : (y != 0) = true := by simp [h0]
        go_wp2_with (go_at_call 26; refine H2.out.mono ?_; rintro e w' ⟨rfl, rfl⟩)
        go_ret
        exact ⟨by simp, by rw [HS.out]; exact HB.out⟩
    · by_cases h0 : z = 0
      · subst h0
        go_wp2_with (go_at_call 28; refine H3.out.mono ?_; rintro e w' ⟨rfl, rfl⟩)
        go_round
        case rel => exact .inr (.inr (.inr ⟨rfl, rfl, rfl, rfl⟩))
        case measure => decide
      · have hb0 : (z != 0) = true := by simp [h0]
        go_wp2_with (go_at_call 28; refine H3.out.mono ?_; rintro e w' ⟨rfl, rfl⟩)
        go_ret
        exact ⟨by simp, by rw [HS.out]; exact HB.out⟩
    · go_wp2
      go_ret
      exact ⟨rfl, by rw [HS.out]; exact HB.out⟩
end Go.Proofs.Ytoljldokehfokaa

