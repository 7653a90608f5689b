/-
  What layer 11's laws share: how they begin; Do at their arguments.
-/
import Derived.Test.YtnnocjnmfabnaaaEdL
import Derived.Test.YtnnocjnmfabnaaaEdI
import Derived.Test.YtnnocjnmfabnaaaFrame14
namespace Go.Proofs.Ytnnocjnmfabnaaa
open Go.RowKit
set_option linter.unusedVariables false
set_option maxRecDepth 100000

theorem left_take {l : List Fi} {r : List Nat} {k : Nat} {f : Fi} (h : l[k]? = some f) : left (l.take (k + 1)) r = left (l.take k) r ++ (if r.contains f.num then [] else [f]) := by
  unfold left
  rw [List.take_add_one, h, List.filter_append]
  congr 1
  show List.filter (fun f : Fi => !r.contains f.num) [f] = _
  rw [List.filter_cons, List.filter_nil]
  cases r.contains f.num <;> rfl
theorem up_at {L : List Fi} (h : UpFi L) {i j : Nat} {x y : Fi} (hx : L[i]? = some x) (hy : L[j]? = some y) (hij : i < j) : ltFi x y := by
  obtain ⟨h1, rfl⟩ := List.getElem?_eq_some_iff.1 hx
  obtain ⟨h2, rfl⟩ := List.getElem?_eq_some_iff.1 hy
  exact List.pairwise_iff_getElem.1 h i j h1 h2 hij
/-- what a law's arguments are, at a later world -/
structure EdArg (w : World) (A : Option Addr) (n : Nat) (l : List Fi) (A1 : Option Addr) (n1 : Nat) (A2 : Option Addr) (n2 : Nat) (x : Edt) : Prop where
  hl : Lies w w.heap.size 4 A n (fcs l)
  ha : Lies w w.heap.size 4 A1 n1 (fcs x.add)
  hr : Lies w w.heap.size 1 A2 n2 (kvs x.rem)
  sl : ∀ f ∈ l, szFi f
  sa : ∀ f ∈ x.add, szFi f
  sx : SzEd x
theorem EdArg.up {w w' : World} {A A1 A2 : Option Addr} {n n1 n2 : Nat} {l : List Fi} {x : Edt} (h : EdArg w A n l A1 n1 A2 n2 x) (hb : Below w.heap.size w w') : EdArg w' A n l A1 n1 A2 n2 x :=
  ⟨up_lies h.hl hb, up_lies h.ha hb, up_lies h.hr hb, h.sl, h.sa, h.sx⟩
/-- Do, at a law's arguments -/
theorem EdArg.do_ {w : World} {A A1 A2 : Option Addr} {n n1 n2 c c1 c2 : Nat} {l : List Fi} {x : Edt} (h : EdArg w A n l A1 n1 A2 n2 x) (h3 : n + n1 + n2 ≤ 1000) (j k s : Nat) :
    Calls Try.prog 6 #[.slice A n c, .agg #[.slice A1 n1 c1, .slice A2 n2 c2, .int .u32 (j : Int), .int .u32 (k : Int), .int .u64 (s : Int)]] w (SDo w l x.add x.rem) :=
  do_any n n1 n2 A A1 A2 c c1 c2 l x.add x.rem j k s w h.hl h.ha h.hr h.sl h.sa h.sx.rem (by omega) (by omega) (by omega)
/-- what was own before a call stands behind it -/
theorem own_lies {w : World} {b n : Nat} {t : TypeId} {k : Nat} {A : Option Addr} {c : Nat} {xs : List Value} (h : w.ownsRow b t k (.slice A n c) n xs) : Lies w w.heap.size k A n xs := Lies.of_own h
theorem own_bound {w : World} {b n : Nat} {t : TypeId} {k : Nat} {A : Option Addr} {c : Nat} {xs : List Value} (h : w.ownsRow b t k (.slice A n c) n xs) : n ≤ c ∧ c ≤ maxLen := by
  obtain ⟨A', c', e, h1, h2, _⟩ := own_shape h
  injection e with _ _ e3
  subst e3
  exact ⟨h1, h2⟩
end Go.Proofs.Ytnnocjnmfabnaaa
