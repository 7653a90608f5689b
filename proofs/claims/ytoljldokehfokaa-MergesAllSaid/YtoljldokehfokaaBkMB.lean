/-
  Plain mathematics: entries in blocks, as bytes; what may be a block; what is read of any bytes.
  Contracts of package blocks: visit, of entries, of numbers, of bytes; the function that it calls may write what is its own.
  The world behind the box of an entry, of a mark.
  Parts of lists of entries; those from a mark on.
  '[]byte(s)' of any string.
  Contracts of package blocks: isValid, makeBlock; commonPrefix.
  Literal lists of entries.
-/
import Derived.Test.YtoljldokehfokaaPlTx
import Derived.Test.YtoljldokehfokaaEnX
import Derived.LoopTactic
import Derived.Deep.QuietTactic
import Derived.BigQuiet
import Derived.KernelRfl
import Derived.Test.YtoljldokehfokaaMem
import Derived.Laws.IdiomStrings
import Derived.Deep.Cut
import Derived.Deep.RegionHeld3
namespace Go.Proofs.Ytoljldokehfokaa
open Go.RowKit
set_option linter.unusedVariables false

/-! two keys -/
/-- with how many bytes two lists begin alike -/
def cpl : List UInt8 → List UInt8 → Nat
  | a :: l, b :: m => if a = b then cpl l m + 1 else 0
  | _, _ => 0
theorem cpl_nil (l : List UInt8) : cpl l [] = 0 := by cases l <;> rfl
theorem cpl_le : ∀ l m : List UInt8, cpl l m ≤ l.length ∧ cpl l m ≤ m.length
  | [], m => by simp [cpl]
  | a :: l, [] => by simp [cpl]
  | a :: l, b :: m => by
    have := cpl_le l m
    unfold cpl
    split
    · simp; omega
    · simp
theorem cpl_take : ∀ l m : List UInt8, l.take (cpl l m) = m.take (cpl l m)
  | [], m => by simp [cpl]
  | a :: l, [] => by simp [cpl]
  | a :: l, b :: m => by
    unfold cpl
    split
    · rename_i h; subst h; rw [List.take_succ_cons, List.take_succ_cons, cpl_take l m]
    · simp
theorem cpl_eq : ∀ (a b : List UInt8) (k : Nat), k ≤ a.length → (∀ j, j < k → j < b.length ∧ a[j]? = b[j]?) → (k < a.length → ¬ (k < b.length ∧ a[k]? = b[k]?)) → cpl a b = k
  | [], b, k, h1, _, _ => by simp at h1; subst h1; simp [cpl]
  | a :: l, [], k, h1, h2, h3 => by
    rcases Nat.eq_zero_or_pos k with h | h
    · subst h; rfl
    · have := (h2 0 h).1; simp at this
  | a :: l, b :: m, k, h1, h2, h3 => by
    unfold cpl
    cases k with
    | zero =>
      have := h3 (by simp)
      rw [if_neg]
      intro e; exact this ⟨by simp, by simp [e]⟩
    | succ k =>
      have h0 := (h2 0 (by omega)).2
      simp at h0
      rw [if_pos h0, cpl_eq l m k (by simpa using h1) (fun j hj => by have := h2 (j + 1) (by omega); simpa using this) (fun hk => by have := h3 (by simpa using hk); simpa using this)]
def cpK (a b : ByteArray) : Nat := cpl a.data.toList b.data.toList
theorem cpK_le (a b : ByteArray) : cpK a b ≤ a.size ∧ cpK a b ≤ b.size := by
  have := cpl_le a.data.toList b.data.toList
  rw [slen, slen] at this; exact this
theorem cpK_empty (a : ByteArray) : cpK a ByteArray.empty = 0 := cpl_nil _
/-- a key without its first bytes -/
def cutK (k : ByteArray) (n : Nat) : ByteArray := k.extract n k.size
theorem cutK_data (k : ByteArray) (n : Nat) : (cutK k n).data.toList = k.data.toList.drop n := by
  unfold cutK
  rw [Lib.extract_data, List.take_of_length_le (by rw [List.length_drop, slen]; omega)]
theorem cutK_size (k : ByteArray) (n : Nat) : (cutK k n).size = k.size - n := by unfold cutK; rw [ByteArray.size_extract]; omega
theorem cutK_zero (k : ByteArray) : cutK k 0 = k := txt_ext (by rw [cutK_data, List.drop_zero])
theorem joinK (a p : ByteArray) : p.extract 0 (cpK a p) ++ cutK a (cpK a p) = a := by
  apply txt_ext
  have h : (p.extract 0 (cpK a p) ++ cutK a (cpK a p)).data.toList = (p.extract 0 (cpK a p)).data.toList ++ (cutK a (cpK a p)).data.toList := by simp
  rw [h, Lib.extract_data, cutK_data, List.drop_zero, Nat.sub_zero]
  unfold cpK
  rw [← cpl_take, List.take_append_drop]

/-! the bytes -/
/-- an entry without its key's first bytes -/
def restE (n : Nat) (x : En) : En := ⟨⟨cutK x.m.k n, x.m.s, x.m.g⟩, x.x⟩
def rowE (p : ByteArray) (x : En) : List UInt8 := Vi.enc (cpK x.m.k p) ++ encE (restE (cpK x.m.k p) x)
/-- what the key of the entry at place i is held against -/
def preK (i : Nat) (p : ByteArray) : ByteArray := if i % 4 = 0 then ByteArray.empty else p
def bodyG : Nat → ByteArray → List En → List UInt8
  | _, _, [] => []
  | i, p, x :: S => rowE (preK i p) x ++ bodyG (i + 1) x.m.k S
/-- the last key -/
def lastK : ByteArray → List En → ByteArray
  | p, [] => p
  | _, x :: S => lastK x.m.k S
theorem lastK_snoc (x : En) : ∀ (p : ByteArray) (S : List En), lastK p (S ++ [x]) = x.m.k
  | _, [] => rfl
  | _, y :: S => lastK_snoc x y.m.k S
theorem bodyG_app : ∀ (S T : List En) (i : Nat) (p : ByteArray), bodyG i p (S ++ T) = bodyG i p S ++ bodyG (i + S.length) (lastK p S) T
  | [], T, i, p => rfl
  | x :: S, T, i, p => by
    rw [List.cons_append, bodyG, bodyG, bodyG_app S T, List.append_assoc, List.length_cons, lastK]
    rw [show i + 1 + S.length = i + (S.length + 1) from by omega]
theorem bodyG_fresh (p q : ByteArray) (i : Nat) (h : i % 4 = 0) (S : List En) : bodyG i p S = bodyG i q S := by
  cases S with
  | nil => rfl
  | cons x S => rw [bodyG, bodyG]; unfold preK; rw [if_pos h, if_pos h]
theorem bodyG_four (i j : Nat) (h : i % 4 = j % 4) : ∀ (S : List En) (p : ByteArray), bodyG i p S = bodyG j p S := by
  intro S
  induction S generalizing i j with
  | nil => intro p; rfl
  | cons x S ih =>
    intro p
    rw [bodyG, bodyG, ih (i + 1) (j + 1) (by omega)]
    unfold preK; rw [h]
/-- where every fourth entry begins -/
def offG : Nat → Nat → ByteArray → List En → List Nat
  | _, _, _, [] => []
  | i, n, p, x :: S => (if i % 4 = 0 then [n] else []) ++ offG (i + 1) (n + (rowE (preK i p) x).length) x.m.k S
theorem offG_app : ∀ (S T : List En) (i n : Nat) (p : ByteArray), offG i n p (S ++ T) = offG i n p S ++ offG (i + S.length) (n + (bodyG i p S).length) (lastK p S) T
  | [], T, i, n, p => rfl
  | x :: S, T, i, n, p => by
    rw [List.cons_append, offG, offG, offG_app S T, List.append_assoc, List.length_cons, lastK, bodyG, List.length_append]
    rw [show i + 1 + S.length = i + (S.length + 1) from by omega, Nat.add_assoc n]
theorem offG_len : ∀ (S : List En) (i n : Nat) (p : ByteArray), (offG i n p S).length + (i + 3) / 4 = (i + S.length + 3) / 4
  | [], i, n, p => by simp [offG]
  | x :: S, i, n, p => by
    have := offG_len S (i + 1) (n + (rowE (preK i p) x).length) x.m.k
    rw [offG, List.length_append, List.length_cons]
    by_cases h : i % 4 = 0
    · rw [if_pos h, List.length_singleton]; omega
    · rw [if_neg h, List.length_nil]; omega
theorem offG_le : ∀ (S : List En) (i n : Nat) (p : ByteArray), ∀ o ∈ offG i n p S, o ≤ n + (bodyG i p S).length
  | [], i, n, p, o, ho => by simp [offG] at ho
  | x :: S, i, n, p, o, ho => by
    rw [offG, List.mem_append] at ho
    rw [bodyG, List.length_append]
    rcases ho with ho | ho
    · by_cases h : i % 4 = 0
      · rw [if_pos h] at ho; simp at ho; omega
      · rw [if_neg h] at ho; cases ho
    · have := offG_le S _ _ _ o ho; omega
/-- a number as two bytes, the higher one first -/
def two (n : Nat) : List UInt8 := [UInt8.ofNat (n / 256), UInt8.ofNat n]
def body (S : List En) : List UInt8 := bodyG 0 ByteArray.empty S
def places (S : List En) : List Nat := offG 0 0 ByteArray.empty S
def tailB (S : List En) : List UInt8 := (places S ++ [(places S).length]).flatMap two
/-- the bytes of a block -/
def encB (S : List En) : List UInt8 := body S ++ tailB S
theorem places_len (S : List En) : (places S).length = (S.length + 3) / 4 := by
  have := offG_len S 0 0 ByteArray.empty
  unfold places; simpa using this
theorem flat_two (l : List Nat) : (l.flatMap two).length = 2 * l.length := by
  induction l with
  | nil => rfl
  | cons a l ih => rw [List.flatMap_cons, List.length_append, ih, List.length_cons]; simp [two]; omega
theorem tailB_len (S : List En) : (tailB S).length = 2 * ((S.length + 3) / 4) + 2 := by
  unfold tailB; rw [flat_two, List.length_append, places_len, List.length_singleton]; omega
theorem rowE_len (p : ByteArray) (x : En) (hf : fineE x = true) : 4 ≤ (rowE p x).length ∧ (rowE p x).length ≤ 329 := by
  unfold rowE
  have h1 := Vi.enc_len (cpK x.m.k p)
  have h2 := Vi.enc_pos (cpK x.m.k p)
  have h3 := encE_len (restE (cpK x.m.k p) x)
  have h4 : fineE x = true := hf
  unfold fineE chk at h4
  simp only [Bool.and_eq_true, decide_eq_true_eq] at h4
  have h5 := cutK_size x.m.k (cpK x.m.k p)
  rw [List.length_append]
  unfold restE at h3 ⊢
  simp only at h3
  omega
theorem bodyG_len : ∀ (S : List En) (i : Nat) (p : ByteArray), (∀ e ∈ S, fineE e = true) → (bodyG i p S).length ≤ 329 * S.length
  | [], i, p, _ => by simp [bodyG]
  | x :: S, i, p, h => by
    have h1 := rowE_len (preK i p) x (h x (by simp))
    have h2 := bodyG_len S (i + 1) x.m.k (fun e he => h e (by simp [he]))
    rw [bodyG, List.length_append, List.length_cons]; omega

/-! what may be a block -/
def okB (S : List En) : Bool := decide (1 ≤ S.length) && (decide (S.length ≤ 64) && (S.all fineE && decide (S.Pairwise fun a b => cmpM a.m b.m < 0)))
theorem okB_iff (S : List En) : okB S = true ↔ 1 ≤ S.length ∧ S.length ≤ 64 ∧ (∀ e ∈ S, fineE e = true) ∧ Rise S := by
  unfold okB Rise
  simp only [Bool.and_eq_true, decide_eq_true_eq, List.all_eq_true]
/-- may the entry at a place be, behind the one ahead? -/
def goodAt (S : List En) (j : Nat) : Bool :=
  match S[j]? with
  | none => false
  | some x => fineE x && (decide (j = 0) || match S[j - 1]? with | none => false | some y => decide (cmpM y.m x.m < 0))
theorem goodAt_some {S : List En} {j : Nat} {x : En} (h : S[j]? = some x) : goodAt S j = (fineE x && (decide (j = 0) || match S[j - 1]? with | none => false | some y => decide (cmpM y.m x.m < 0))) := by
  unfold goodAt; rw [h]
theorem good_all (S : List En) : (∀ j, j < S.length → goodAt S j = true) ↔ (∀ e ∈ S, fineE e = true) ∧ Rise S := by
  constructor
  · intro h
    have hf : ∀ e ∈ S, fineE e = true := fun e he => by
      obtain ⟨j, hj⟩ := List.getElem?_of_mem he
      have := h j (List.getElem?_eq_some_iff.1 hj).1
      rw [goodAt_some hj] at this
      simp only [Bool.and_eq_true] at this
      exact this.1
    refine ⟨hf, ?_⟩
    have hn : ∀ j, j + 1 < S.length → ∀ a b, S[j]? = some a → S[j + 1]? = some b → cmpM a.m b.m < 0 := fun j hj a b ha hb => by
      have := h (j + 1) hj
      rw [goodAt_some hb] at this
      simp only [Bool.and_eq_true, Nat.add_sub_cancel, ha, Bool.or_eq_true, decide_eq_true_eq] at this
      rcases this.2 with q | q
      · omega
      · exact q
    unfold Rise
    rw [List.pairwise_iff_getElem]
    have hd : ∀ d i (hi : i < S.length) (hj : i + d + 1 < S.length), cmpM S[i].m S[i + d + 1].m < 0 := by
      intro d
      induction d with
      | zero => intro i hi hj; exact hn i hj _ _ (List.getElem?_eq_getElem hi) (List.getElem?_eq_getElem hj)
      | succ d ih =>
        intro i hi hj
        exact cmp_trans (ih i hi (by omega)) (hn (i + d + 1) hj _ _ (List.getElem?_eq_getElem (by omega)) (List.getElem?_eq_getElem hj))
    intro i j hi hj hij
    obtain ⟨d, rfl⟩ : ∃ d, j = i + d + 1 := ⟨j - i - 1, by omega⟩
    exact hd d i hi hj
  · rintro ⟨hf, hr⟩ j hj
    rw [goodAt_some (List.getElem?_eq_getElem hj), hf _ (List.getElem_mem hj)]
    rcases Nat.eq_zero_or_pos j with h | h
    · subst h; rfl
    · rw [List.getElem?_eq_getElem (show j - 1 < S.length by omega)]
      have := hr.ne (i := j - 1) (j := j) (by omega) (List.getElem?_eq_getElem (by omega)) (List.getElem?_eq_getElem hj)
      simp only [this, decide_true, Bool.or_true, Bool.and_true]
theorem okB_good (S : List En) (h1 : 1 ≤ S.length) (h2 : S.length ≤ 64) : okB S = true ↔ ∀ j, j < S.length → goodAt S j = true := by
  rw [okB_iff, good_all]
  exact ⟨fun h => h.2.2, fun h => ⟨h1, h2, h⟩⟩
theorem encB_len (S : List En) (h : okB S = true) : 8 ≤ (encB S).length ∧ (encB S).length ≤ 22000 := by
  obtain ⟨h1, h2, h3, _⟩ := (okB_iff S).1 h
  have q := bodyG_len S 0 ByteArray.empty h3
  have t := tailB_len S
  unfold encB body
  rw [List.length_append]
  refine ⟨?_, by omega⟩
  cases S with
  | nil => simp at h1
  | cons x S =>
    have := rowE_len (preK 0 ByteArray.empty) x (h3 x (by simp))
    rw [bodyG, List.length_append]; rw [List.length_cons] at t; omega
end Go.Proofs.Ytoljldokehfokaa

namespace Go.Proofs.Ytoljldokehfokaa
open Go.RowKit
set_option linter.unusedVariables false
set_option maxRecDepth 100000

/-- a function that has a body is entered -/
def Enters (f : FuncId) : Prop := ∀ (args : Array Value) (w : World), (callFunc f args).run Try.prog w = .ok (.enter f args) w
theorem enters_of {f : FuncId} {fn : Func} {c : Code} (hf : Try.prog.funcs[f]? = some fn) (hname : (fn.name == "runtime.NumGoroutine") = false) (hb : fn.body = some c) : Enters f := fun args w => by
  have h1 : fn.name ≠ "runtime.NumGoroutine" := by simpa using hname
  simp [callFunc, hf, h1, hb]

/-- what is asked of the function that visit calls: vs are the elements as values; R k holds behind k of them, F behind one at which it ends -/
structure Vis (vs : List Value) (f : FuncId) (cap : Array Value) (g : Nat → Bool) (R : Nat → World → Prop) (F : World → Prop) : Prop where
  ent : Enters f
  go : ∀ k v W, vs[k]? = some v → R k W → Calls Try.prog f (#[.int .i64 (k : Int), v] ++ cap) W fun e W' => e = .returned (.bool (g k)) ∧ (g k = true → R (k + 1) W') ∧ (g k = false → F W')
  up : ∀ k W W', R k W → Below W.heap.size W W' → R k W'
/-- what visit answers: how many were visited -/
def VisP (n : Nat) (g : Nat → Bool) (R : Nat → World → Prop) (F : World → Prop) (e : Ending) (w' : World) : Prop :=
  ∃ k : Nat, k ≤ n ∧ e = .returned (.int .i64 (k : Int)) ∧ (∀ j, j < k → g j = true) ∧ (k = n ∧ R n w' ∨ k < n ∧ g k = false ∧ F w')
def VisL (n : Nat) (g : Nat → Bool) (R : Nat → World → Prop) (i : Value) (wr : World) : Prop :=
  ∃ k : Nat, k ≤ n ∧ i = .int .i64 (k : Int) ∧ (∀ j, j < k → g j = true) ∧ R k wr

end Go.Proofs.Ytoljldokehfokaa

namespace Go.Proofs.Ytoljldokehfokaa
open Go.RowKit
set_option linter.unusedVariables false

/-- the world behind an entry's box -/
abbrev enW (w : World) (x : En) : World := w.alloc (.cells #[.string x.m.k, .int .u64 (x.m.s : Int), .bool x.m.g, .string x.x] 31)
theorem enW_facts (w : World) (x : En) : (enW w x).cell? ⟨w.heap.size, 0, none⟩ = some (.string x.m.k) ∧ (enW w x).cell? ⟨w.heap.size, 1, none⟩ = some (.int .u64 (x.m.s : Int)) ∧ (enW w x).cell? ⟨w.heap.size, 2, none⟩ = some (.bool x.m.g) ∧ (enW w x).cell? ⟨w.heap.size, 3, none⟩ = some (.string x.x) ∧ Below w.heap.size w (enW w x) ∧ (enW w x).heap.size = w.heap.size + 1 := by
  have h : (enW w x).heap[w.heap.size]? = some (.cells #[.string x.m.k, .int .u64 (x.m.s : Int), .bool x.m.g, .string x.x] 31 (0, 0)) := heap_alloc_new w _
  exact ⟨cell_of_row _ _ 0 _ _ (0, 0) h, cell_of_row _ _ 1 _ _ (0, 0) h, cell_of_row _ _ 2 _ _ (0, 0) h, cell_of_row _ _ 3 _ _ (0, 0) h, (Below.refl _ _).alloc (Nat.le_refl _) _, by simp⟩
abbrev mkW (w : World) (m : Mk) : World := w.alloc (.cells #[.string m.k, .int .u64 (m.s : Int), .bool m.g] 29)
theorem mkW_facts (w : World) (m : Mk) : (mkW w m).cell? ⟨w.heap.size, 0, none⟩ = some (.string m.k) ∧ (mkW w m).cell? ⟨w.heap.size, 1, none⟩ = some (.int .u64 (m.s : Int)) ∧ (mkW w m).cell? ⟨w.heap.size, 2, none⟩ = some (.bool m.g) ∧ Below w.heap.size w (mkW w m) ∧ (mkW w m).heap.size = w.heap.size + 1 := by
  have h : (mkW w m).heap[w.heap.size]? = some (.cells #[.string m.k, .int .u64 (m.s : Int), .bool m.g] 29 (0, 0)) := heap_alloc_new w _
  exact ⟨cell_of_row _ _ 0 _ _ (0, 0) h, cell_of_row _ _ 1 _ _ (0, 0) h, cell_of_row _ _ 2 _ _ (0, 0) h, (Below.refl _ _).alloc (Nat.le_refl _) _, by simp⟩
theorem entry_info : (Try.prog.info? 31).map (fun i => (i.zero, i.size, i.bytes)) = some (some (.agg #[.string ByteArray.empty, .int .u64 0, .bool false, .string ByteArray.empty]), 4, 48) := by kernel_rfl
theorem ecs_one (l : List En) : ∀ u ∈ ecs l, u.oneCell' = true := by
  intro u hu
  obtain ⟨m, _, hm⟩ := List.mem_flatMap.1 hu
  simp only [En.cs, List.mem_cons, List.not_mem_nil, or_false] at hm
  rcases hm with rfl | rfl | rfl | rfl <;> rfl
theorem en_lies (w : World) (x : En) : Lies (enW w x) (w.heap.size + 1) 4 (some ⟨w.heap.size, 0, none⟩) 1 (ecs [x]) := by
  have h : (enW w x).heap[w.heap.size]? = some (.cells #[.string x.m.k, .int .u64 (x.m.s : Int), .bool x.m.g, .string x.x] 31 (0, 0)) := heap_alloc_new w _
  have e : ecs [x] = [.string x.m.k, .int .u64 (x.m.s : Int), .bool x.m.g, .string x.x] := by simp [ecs, En.cs]
  rw [e]
  refine ⟨rfl, fun j hj => ?_⟩
  have hj4 : j < 4 := hj
  refine ⟨_, _, rfl, Nat.lt_succ_self _, List.getElem?_eq_getElem hj4, ?_⟩
  rw [add_lit, Nat.zero_add, cell_of_row _ _ j _ _ (0, 0) h]
  rw [List.getElem?_toArray]
  exact List.getElem?_eq_getElem hj4
end Go.Proofs.Ytoljldokehfokaa

namespace Go.Proofs.Ytoljldokehfokaa
open Go.RowKit
set_option linter.unusedVariables false
set_option maxRecDepth 100000

section
variable {w : World} {B n k m c : Nat} {A : Option Addr} {xs : List Value}
theorem Lies.takeE (h : Lies w B k A n xs) (hm : m ≤ n) : Lies w B k A m (xs.take (m * k)) := by
  have hl := h.len
  have hmk : m * k ≤ n * k := Nat.mul_le_mul_right _ hm
  refine ⟨by rw [List.length_take, hl]; exact Nat.min_eq_left hmk, fun j hj => ?_⟩
  rw [List.length_take, hl, Nat.min_eq_left hmk] at hj
  obtain ⟨ad, u, e, hb, hx, hc⟩ := h.spot j (by omega)
  exact ⟨ad, u, e, hb, by rw [List.getElem?_take, if_pos hj]; exact hx, hc⟩
def cutE (A : Option Addr) (c m : Nat) : Option Addr := if c = m then A else A.map (·.add (m * 4))
theorem Lies.cutE (h : Lies w B 4 A n xs) (hm : m ≤ n) (hc : n ≤ c) : Lies w B 4 (cutE A c m) (n - m) (xs.drop (m * 4)) := by
  have hl := h.len
  unfold Go.Proofs.Ytoljldokehfokaa.cutE
  by_cases e : c = m
  · rw [if_pos e, show n - m = 0 from by omega, List.drop_eq_nil_of_le (by rw [hl, show m = n from by omega]; exact Nat.le_refl _)]
    exact Lies.none_ _ _ _ _
  · rw [if_neg e]
    refine ⟨by rw [List.length_drop, hl]; omega, fun j hj => ?_⟩
    rw [List.length_drop, hl] at hj
    obtain ⟨ad, u, rfl, hb, hx, hcc⟩ := h.spot (m * 4 + j) (by omega)
    exact ⟨ad.add (m * 4), u, rfl, by rw [add_block]; exact hb, by rw [List.getElem?_drop]; exact hx, by rw [add_add]; exact hcc⟩
end
theorem run_cutE (w : World) (A : Option Addr) (n c l : Nat) (h : l ≤ n) :
    (Instr.slice 22 (.slice A n c) (some (.int .i64 (l : Int))) none none).run Try.prog w = .ok (.slice (cutE A c l) (n - l) (c - l)) w := by
  obtain ⟨i0, hi, hz0, hz1, hz2⟩ := info_parts entry_info
  unfold Instr.slice cutE
  simp [run_underlying Try.underlying22, Instr.sliceBounds, Instr.sliceBound, asIntOf, sizeOf, typeInfo, hi, hz1, h]
theorem run_headE (w : World) (A : Option Addr) (n c h : Nat) (h3 : h ≤ c) :
    (Instr.slice 22 (.slice A n c) none (some (.int .i64 (h : Int))) none).run Try.prog w = .ok (.slice A h c) w := by
  obtain ⟨i0, hi, hz0, hz1, hz2⟩ := info_parts entry_info
  unfold Instr.slice
  simp [run_underlying Try.underlying22, Instr.sliceBounds, Instr.sliceBound, asIntOf, sizeOf, typeInfo, hi, h3]
  cases A <;> simp [Addr.add]
theorem ecs_take (l : List En) (k : Nat) : (ecs l).take (k * 4) = ecs (l.take k) := by
  unfold ecs
  induction l generalizing k with
  | nil => simp
  | cons a l ih => cases k with
    | zero => simp
    | succ k => rw [List.take_succ_cons, List.flatMap_cons, List.flatMap_cons, ← ih k, Nat.succ_mul]; simp [En.cs, List.take_succ_cons]
theorem ecs_drop (l : List En) (k : Nat) : (ecs l).drop (k * 4) = ecs (l.drop k) := by
  unfold ecs
  induction l generalizing k with
  | nil => simp
  | cons a l ih => cases k with
    | zero => simp
    | succ k => rw [List.drop_succ_cons, List.flatMap_cons, ← ih k, Nat.succ_mul]; simp [En.cs]
/-- those from a mark on -/
def fromM (S : List En) (m : Mk) : List En := S.dropWhile (bef m)
/-- those from a mark on are the last ones -/
theorem fromM_drop (S : List En) (m : Mk) : S.drop (S.length - (fromM S m).length) = fromM S m := by
  unfold fromM
  have h := List.takeWhile_append_dropWhile (p := bef m) (l := S)
  have hl := congrArg List.length h
  rw [List.length_append] at hl
  obtain ⟨a, ha⟩ : ∃ a, S.takeWhile (bef m) = a := ⟨_, rfl⟩
  obtain ⟨b, hb⟩ : ∃ b, S.dropWhile (bef m) = b := ⟨_, rfl⟩
  rw [ha, hb] at h hl
  rw [hb, show S.length - b.length = a.length from by omega, ← h]
  exact List.drop_left' rfl
theorem fromM_le (S : List En) (m : Mk) : (fromM S m).length ≤ S.length := by
  have := congrArg List.length (fromM_drop S m)
  rw [List.length_drop] at this; omega
/-- who stands ahead of the mark -/
theorem fromM_ahead {S : List En} (hr : Rise S) (m : Mk) {i : Nat} {e : En} (hi : S[i]? = some e) : cmpM e.m m < 0 ↔ i < S.length - (fromM S m).length := by
  have h := List.takeWhile_append_dropWhile (p := bef m) (l := S)
  have hl := congrArg List.length h
  rw [List.length_append] at hl
  have e1 : S.length - (fromM S m).length = (S.takeWhile (bef m)).length := by unfold fromM; omega
  rw [e1]
  have h2 : (S.takeWhile (bef m) ++ S.dropWhile (bef m))[i]? = some e := by rw [h]; exact hi
  by_cases hlt : i < (S.takeWhile (bef m)).length
  · rw [List.getElem?_append_left hlt] at h2
    exact ⟨fun _ => hlt, fun _ => first_bef m e (List.mem_of_getElem? h2)⟩
  · rw [List.getElem?_append_right (by omega)] at h2
    have := hr.rest m e (List.mem_of_getElem? h2)
    exact ⟨fun q => absurd q this, fun q => absurd q hlt⟩
end Go.Proofs.Ytoljldokehfokaa

namespace Go.Proofs.Ytoljldokehfokaa
open Go.RowKit
set_option linter.unusedVariables false
set_option maxRecDepth 20000

/-- '[]byte(s)' -/
theorem conv_bytes (w : World) (s : ByteArray) : ∃ w' c, (convert 9 23 (.string s)).run Try.prog w = .ok (.slice (some ⟨w.heap.size, 0, none⟩) s.size c) w' ∧ Below w.heap.size w w' ∧ Lies w' w'.heap.size 1 (some ⟨w.heap.size, 0, none⟩) s.size (s.data.toList.map bv) := by
  refine ⟨_, _, run_bytes_of_string w 9 23 5 s Try.underlying9 Try.underlying23 Try.underlying5, ((Below.refl _ _).drew).alloc (Nat.le_refl _) _, ?_⟩
  generalize grownCap w s.size 0 5 = c
  have hz := (fun (w : World) (o : Obj) => (Array.size_push (xs := w.heap) o).symm : ∀ (w : World) (o : Obj), w.heap.size + 1 = (w.alloc o).heap.size) w.drew (.cells (bytesRow s c) 5 ((bytesRow s c).size, (bytesRow s c).size + 1))
  have h : (w.drew.alloc (.cells (bytesRow s c) 5 ((bytesRow s c).size, (bytesRow s c).size + 1))).heap[w.heap.size]? = some (.cells (bytesRow s c) 5 ((bytesRow s c).size, (bytesRow s c).size + 1)) := heap_alloc_new w.drew _
  have hz2 : w.heap.size + 1 = (w.drew.alloc (.cells (bytesRow s c) 5 ((bytesRow s c).size, (bytesRow s c).size + 1))).heap.size := hz
  refine ⟨by rw [List.length_map, Array.length_toList, Nat.mul_one]; rfl, fun j hj => ?_⟩
  have hj2 : j < s.data.size := by rw [List.length_map, Array.length_toList] at hj; exact hj
  refine ⟨_, bv (s.data[j]), rfl, by show w.heap.size < _; omega, ?_, ?_⟩
  · rw [List.getElem?_map, Array.getElem?_toList, Array.getElem?_eq_getElem hj2]; rfl
  · rw [add_lit, Nat.zero_add, cell_of_row _ w.heap.size j _ _ _ h, bytesRow_at s c j hj2]
end Go.Proofs.Ytoljldokehfokaa

namespace Go.Proofs.Ytoljldokehfokaa
open Go.RowKit
set_option linter.unusedVariables false
set_option maxRecDepth 100000

/-- a variable that holds the list: a block of one cell -/
def LBox (w : World) (g : Nat) (A : Option Addr) (n c : Nat) : Prop := Box w g 22 (.slice A n c)
/-- what the region of makeBlock's function reads: the box of the entry, the list, the mark ahead -/
abbrev MB0 (g h : Nat) (A : Option Addr) (n c : Nat) (x : En) (w : World) : Prop :=
  w.cell? ⟨h, 0, none⟩ = some (.string x.m.k) ∧ w.cell? ⟨h, 1, none⟩ = some (.int .u64 (x.m.s : Int)) ∧ w.cell? ⟨h, 2, none⟩ = some (.bool x.m.g) ∧ w.cell? ⟨h, 3, none⟩ = some (.string x.x) ∧
  w.cell? ⟨g, 0, none⟩ = some (.slice A n c)
abbrev MB (g h b o : Nat) (A : Option Addr) (n c : Nat) (x : En) (m : Mk) (w : World) : Prop :=
  w.cell? ⟨h, 0, none⟩ = some (.string x.m.k) ∧ w.cell? ⟨h, 1, none⟩ = some (.int .u64 (x.m.s : Int)) ∧ w.cell? ⟨h, 2, none⟩ = some (.bool x.m.g) ∧ w.cell? ⟨h, 3, none⟩ = some (.string x.x) ∧
  w.cell? ⟨g, 0, none⟩ = some (.slice A n c) ∧ w.cell? ⟨b, o, none⟩ = some (.string m.k) ∧ w.cell? ⟨b, o + 1, none⟩ = some (.int .u64 (m.s : Int)) ∧ w.cell? ⟨b, o + 2, none⟩ = some (.bool m.g)
theorem MB0.below {g h : Nat} {A : Option Addr} {n c : Nat} {x : En} {w w' : World} (H : MB0 g h A n c x w) (hb : Below w.heap.size w w') : MB0 g h A n c x w' := by
  have up : ∀ {p v}, w.cell? p = some v → w'.cell? p = some v := fun {p v} h => (hb.cell (World.block_lt_of_cell? w _ h)).trans h
  exact ⟨up H.1, up H.2.1, up H.2.2.1, up H.2.2.2.1, up H.2.2.2.2⟩
theorem MB.below {g h b o : Nat} {A : Option Addr} {n c : Nat} {x : En} {m : Mk} {w w' : World} (H : MB g h b o A n c x m w) (hb : Below w.heap.size w w') : MB g h b o A n c x m w' := by
  have up : ∀ {p v}, w.cell? p = some v → w'.cell? p = some v := fun {p v} h => (hb.cell (World.block_lt_of_cell? w _ h)).trans h
  exact ⟨up H.1, up H.2.1, up H.2.2.1, up H.2.2.2.1, up H.2.2.2.2.1, up H.2.2.2.2.2.1, up H.2.2.2.2.2.2.1, up H.2.2.2.2.2.2.2⟩

/-- what is asked of a list of entries in memory: where it lies, how great they are -/
structure EL (w : World) (B : Nat) (A : Option Addr) (n c : Nat) (S : List En) : Prop where
  lies : Lies w B 4 A n (ecs S)
  B : B ≤ w.heap.size
  nc : n ≤ c
  cc : c ≤ maxLen
  sz : ∀ e ∈ S, e.m.k.size ≤ 140737488351232 ∧ e.x.size ≤ 140737488351232
theorem EL.below {w w' : World} {B n c : Nat} {A : Option Addr} {S : List En} (h : EL w B A n c S) (hb : Below w.heap.size w w') : EL w' B A n c S :=
  ⟨h.lies.keep fun p hp => hb.cell (Nat.lt_of_lt_of_le hp h.B), Nat.le_trans h.B hb.size, h.nc, h.cc, h.sz⟩

end Go.Proofs.Ytoljldokehfokaa

namespace Go.Proofs.Ytoljldokehfokaa
open Go.RowKit
set_option linter.unusedVariables false
set_option maxRecDepth 100000

/-- an entry with a value; gone, if it has none -/
def mkE (k : ByteArray) (s : Nat) (v : ByteArray) : En := ⟨⟨k, s, v.toList.isEmpty⟩, v⟩
/-- a literal list of entries -/
theorem lits_lieE {w : World} {g : Nat} (hg : g = w.heap.size) (l : List En) : Lies (w.alloc (.cells (ecs l).toArray 31)) (g + 1) 4 (some ⟨g, 0, none⟩) l.length (ecs l) := by
  subst hg
  refine ⟨by rw [ecs_len], fun j hj => ⟨_, (ecs l)[j], rfl, by simp, List.getElem?_eq_getElem hj, ?_⟩⟩
  rw [add_lit]
  have h : (w.alloc (.cells (ecs l).toArray 31)).heap[w.heap.size]? = some (.cells (ecs l).toArray 31 (0, 0)) := heap_alloc_new w _
  rw [Nat.zero_add, cell_of_row _ w.heap.size j (ecs l).toArray 31 (0, 0) h, List.getElem?_toArray]
  exact List.getElem?_eq_getElem hj
theorem lit_EL (w : World) (l : List En) (n : Nat) (hn : l.length = n) (h2 : n ≤ 1000) (hs : ∀ e ∈ l, e.m.k.size ≤ 140737488351232 ∧ e.x.size ≤ 140737488351232) :
    EL (w.alloc (.cells (ecs l).toArray 31)) (w.heap.size + 1) (some ⟨w.heap.size, 0, none⟩) n n l := by
  subst hn
  exact ⟨lits_lieE rfl l, by simp, Nat.le_refl _, by unfold maxLen; omega, hs⟩

end Go.Proofs.Ytoljldokehfokaa

