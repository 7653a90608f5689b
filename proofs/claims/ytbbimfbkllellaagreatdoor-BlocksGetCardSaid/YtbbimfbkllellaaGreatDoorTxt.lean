/-
  Plain mathematics: texts and marks in order.
-/
import Derived.Lib.Strings
import GoSem.Op.String
namespace Go.Proofs.YtbbimfbkllellaaGreatDoor
set_option linter.unusedVariables false

theorem less_lt : ∀ x y : List UInt8, Op.bytesLess x y = true ↔ x < y
  | x, [] => by cases x <;> simp [Op.bytesLess]
  | [], y :: ys => by simp [Op.bytesLess]
  | x :: xs, y :: ys => by
    have ih := less_lt xs ys
    unfold Op.bytesLess
    rw [List.cons_lt_cons_iff, ← ih]
    simp
/-- does one text stand ahead of another one? -/
def lessB (a b : ByteArray) : Bool := Op.bytesLess a.toList b.toList
theorem lessB_eq (a b : ByteArray) : lessB a b = decide (a.data.toList < b.data.toList) := by
  unfold lessB
  rw [Lib.toList_data, Lib.toList_data]
  by_cases h : a.data.toList < b.data.toList
  · rw [(less_lt _ _).2 h, decide_eq_true h]
  · rw [decide_eq_false h]
    exact Bool.eq_false_iff.2 fun e => h ((less_lt _ _).1 e)
theorem txt_ext {a b : ByteArray} (h : a.data.toList = b.data.toList) : a = b := by
  cases a; cases b; simp_all [Array.toList_inj]
theorem txt_eqB (a b : ByteArray) : (a.toList == b.toList) = decide (a = b) := by
  rw [Lib.toList_data, Lib.toList_data]
  by_cases h : a = b
  · subst h; simp
  · have : a.data.toList ≠ b.data.toList := fun e => h (txt_ext e)
    rw [decide_eq_false h]
    exact beq_eq_false_iff_ne.2 this

/-- three ways: -1, 0, 1; turned round it is turned; 0 at the same ones alone; it goes on -/
structure Tri {α : Type} (c : α → α → Int) : Prop where
  three : ∀ a b, c a b = -1 ∨ c a b = 0 ∨ c a b = 1
  turn : ∀ a b, c b a = - c a b
  same : ∀ a b, c a b = 0 → a = b
  on : ∀ a b d, c a b < 0 → c b d < 0 → c a d < 0
theorem Tri.self {α : Type} {c : α → α → Int} (h : Tri c) (a : α) : c a a = 0 := by
  have := h.turn a a; omega
theorem Tri.zero {α : Type} {c : α → α → Int} (h : Tri c) (a b : α) : c a b = 0 ↔ a = b := ⟨h.same a b, fun e => by subst e; exact h.self a⟩

/-- of texts -/
def cmpS (a b : ByteArray) : Int := if lessB a b then -1 else if lessB b a then 1 else 0
/-- of numbers -/
def cmpN (a b : Nat) : Int := if a < b then -1 else if b < a then 1 else 0
/-- gone first -/
def cmpG (a b : Bool) : Int := if a = b then 0 else if a then -1 else 1

theorem lessB_irrefl (a : ByteArray) : lessB a a = false := by
  rw [lessB_eq]; exact decide_eq_false (List.lt_irrefl _)
theorem lessB_asymm {a b : ByteArray} (h : lessB a b = true) : lessB b a = false := by
  rw [lessB_eq] at h ⊢
  exact decide_eq_false (fun h2 => List.lt_irrefl _ (List.lt_trans (of_decide_eq_true h) h2))
theorem lessB_trans {a b d : ByteArray} (h : lessB a b = true) (h2 : lessB b d = true) : lessB a d = true := by
  rw [lessB_eq] at h h2 ⊢
  exact decide_eq_true (List.lt_trans (of_decide_eq_true h) (of_decide_eq_true h2))
theorem lessB_total {a b : ByteArray} (h : lessB a b = false) (h2 : lessB b a = false) : a = b := by
  rw [lessB_eq] at h h2
  have e1 := of_decide_eq_false h
  have e2 := of_decide_eq_false h2
  exact txt_ext (List.le_antisymm (List.not_lt.1 e2) (List.not_lt.1 e1))
theorem lessB_gt (a b : ByteArray) : (!(lessB a b || decide (a = b))) = lessB b a := by
  cases h : lessB a b
  · by_cases e : a = b
    · subst e; simp [lessB_irrefl]
    · cases h2 : lessB b a
      · exact absurd (lessB_total h h2) e
      · simp [e]
  · rw [lessB_asymm h]; rfl

theorem tri_S : Tri cmpS where
  three a b := by unfold cmpS; (repeat' split) <;> simp
  turn a b := by
    unfold cmpS
    cases h : lessB a b <;> cases h2 : lessB b a <;> simp
    have := lessB_asymm h; rw [h2] at this; cases this
  same a b h := by
    unfold cmpS at h
    cases h1 : lessB a b <;> cases h2 : lessB b a <;> simp_all
    exact lessB_total h1 h2
  on a b d h h2 := by
    have e1 : lessB a b = true := by unfold cmpS at h; cases e : lessB a b <;> cases e2 : lessB b a <;> simp_all
    have e2 : lessB b d = true := by unfold cmpS at h2; cases e : lessB b d <;> cases e2 : lessB d b <;> simp_all
    unfold cmpS; rw [lessB_trans e1 e2, if_pos rfl]; decide
theorem tri_N : Tri cmpN where
  three a b := by unfold cmpN; (repeat' split) <;> simp
  turn a b := by unfold cmpN; (repeat' split) <;> omega
  same a b h := by unfold cmpN at h; (repeat' split at h) <;> omega
  on a b d h h2 := by
    have e1 : a < b := by unfold cmpN at h; (repeat' split at h) <;> omega
    have e2 : b < d := by unfold cmpN at h2; (repeat' split at h2) <;> omega
    unfold cmpN; rw [if_pos (by omega)]; decide
theorem tri_R : Tri fun a b => cmpN b a where
  three a b := tri_N.three b a
  turn a b := tri_N.turn b a
  same a b h := (tri_N.same b a h).symm
  on a b d h h2 := tri_N.on d b a h2 h
theorem tri_G : Tri cmpG where
  three a b := by cases a <;> cases b <;> decide
  turn a b := by cases a <;> cases b <;> decide
  same a b := by cases a <;> cases b <;> decide
  on a b d := by cases a <;> cases b <;> cases d <;> decide

/-- the one, and if it says nothing the other one -/
def lex2 {α β : Type} (c : α → α → Int) (d : β → β → Int) (x y : α × β) : Int := if c x.1 y.1 ≠ 0 then c x.1 y.1 else d x.2 y.2
theorem Tri.lex {α β : Type} {c : α → α → Int} {d : β → β → Int} (h : Tri c) (h2 : Tri d) : Tri (lex2 c d) where
  three x y := by unfold lex2; split; exact h.three _ _; exact h2.three _ _
  turn x y := by
    have := h.turn x.1 y.1
    unfold lex2
    by_cases e : c x.1 y.1 = 0
    · rw [if_neg (by omega), if_neg (by omega)]; exact h2.turn _ _
    · rw [if_pos (by omega), if_pos e]; exact this
  same x y e := by
    unfold lex2 at e
    by_cases e1 : c x.1 y.1 = 0
    · rw [if_neg (by omega)] at e
      exact Prod.ext (h.same _ _ e1) (h2.same _ _ e)
    · rw [if_pos e1] at e; omega
  on x y z e e2 := by
    unfold lex2 at e e2 ⊢
    by_cases e1 : c x.1 y.1 = 0
    · rw [if_neg (by omega)] at e
      have q := h.same _ _ e1
      rw [q]
      by_cases e3 : c y.1 z.1 = 0
      · rw [if_neg (by omega)] at e2 ⊢; exact h2.on _ _ _ e e2
      · rw [if_pos e3] at e2 ⊢; exact e2
    · rw [if_pos e1] at e
      by_cases e3 : c y.1 z.1 = 0
      · have q := h.same _ _ e3
        rw [← q, if_pos e1]; exact e
      · rw [if_pos e3] at e2
        have := h.on _ _ _ e e2
        rw [if_pos (by omega)]; exact this

/-- a mark: its key, its number, whether it is gone -/
structure Mk where
  k : ByteArray
  s : Nat
  g : Bool
def Mk.p (m : Mk) : ByteArray × (Nat × Bool) := (m.k, (m.s, m.g))
theorem Mk.ext' {a b : Mk} (h : a.p = b.p) : a = b := by
  cases a; cases b; simp_all [Mk.p]
/-- how two marks stand -/
def cmpM (a b : Mk) : Int := lex2 cmpS (lex2 (fun a b => cmpN b a) cmpG) a.p b.p
theorem tri_M : Tri cmpM where
  three a b := (tri_S.lex (tri_R.lex tri_G)).three _ _
  turn a b := (tri_S.lex (tri_R.lex tri_G)).turn _ _
  same a b h := Mk.ext' ((tri_S.lex (tri_R.lex tri_G)).same _ _ h)
  on a b d h h2 := (tri_S.lex (tri_R.lex tri_G)).on _ _ _ h h2
theorem cmpM_eq (a b : Mk) : cmpM a b = if cmpS a.k b.k ≠ 0 then cmpS a.k b.k else if cmpN b.s a.s ≠ 0 then cmpN b.s a.s else cmpG a.g b.g := rfl

/-- a mark with a value -/
structure En where
  m : Mk
  x : ByteArray
theorem En.ext' {a b : En} (h : a.m = b.m) (h2 : a.x = b.x) : a = b := by
  cases a; cases b; simp_all
def Mk.v (m : Mk) : Value := .agg #[.string m.k, .int .u64 (m.s : Int), .bool m.g]
def En.v (e : En) : Value := .agg #[.string e.m.k, .int .u64 (e.m.s : Int), .bool e.m.g, .string e.x]
end Go.Proofs.YtbbimfbkllellaaGreatDoor
