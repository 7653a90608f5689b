/-
  Plain mathematics: entries in blocks, as bytes; what may be a block; what is read of any bytes.
-/
import Derived.Test.YtbbimfbkllellaaGreatDoorTabM
import Derived.Test.YtbbimfbkllellaaGreatDoorRdEnt
namespace Go.Proofs.YtbbimfbkllellaaGreatDoor
open Go.RowKit
set_option linter.unusedVariables false

/-! two keys -/
/-- with how many bytes two lists begin alike -/
def cpl : List UInt8 → List UInt8 → Nat
  | a :: l, b :: m => if a = b then cpl l m + 1 else 0
  | _, _ => 0
theorem cpl_nil (l : List UInt8) : cpl l [] = 0 := by cases l <;> rfl
theorem cpl_le : ∀ l m : List UInt8, cpl l m ≤ l.length ∧ cpl l m ≤ m.length
  | [], m => by simp [cpl]
  | a :: l, [] => by simp [cpl]
  | a :: l, b :: m => by
    have := cpl_le l m
    unfold cpl
    split
    · simp; omega
    · simp
theorem cpl_take : ∀ l m : List UInt8, l.take (cpl l m) = m.take (cpl l m)
  | [], m => by simp [cpl]
  | a :: l, [] => by simp [cpl]
  | a :: l, b :: m => by
    unfold cpl
    split
    · rename_i h; subst h; rw [List.take_succ_cons, List.take_succ_cons, cpl_take l m]
    · simp
theorem cpl_eq : ∀ (a b : List UInt8) (k : Nat), k ≤ a.length → (∀ j, j < k → j < b.length ∧ a[j]? = b[j]?) → (k < a.length → ¬ (k < b.length ∧ a[k]? = b[k]?)) → cpl a b = k
  | [], b, k, h1, _, _ => by simp at h1; subst h1; simp [cpl]
  | a :: l, [], k, h1, h2, h3 => by
    rcases Nat.eq_zero_or_pos k with h | h
    · subst h; rfl
    · have := (h2 0 h).1; simp at this
  | a :: l, b :: m, k, h1, h2, h3 => by
    unfold cpl
    cases k with
    | zero =>
      have := h3 (by simp)
      rw [if_neg]
      intro e; exact this ⟨by simp, by simp [e]⟩
    | succ k =>
      have h0 := (h2 0 (by omega)).2
      simp at h0
      rw [if_pos h0, cpl_eq l m k (by simpa using h1) (fun j hj => by have := h2 (j + 1) (by omega); simpa using this) (fun hk => by have := h3 (by simpa using hk); simpa using this)]
def cpK (a b : ByteArray) : Nat := cpl a.data.toList b.data.toList
theorem cpK_le (a b : ByteArray) : cpK a b ≤ a.size ∧ cpK a b ≤ b.size := by
  have := cpl_le a.data.toList b.data.toList
  rw [slen, slen] at this; exact this
theorem cpK_empty (a : ByteArray) : cpK a ByteArray.empty = 0 := cpl_nil _
/-- a key without its first bytes -/
def cutK (k : ByteArray) (n : Nat) : ByteArray := k.extract n k.size
theorem cutK_data (k : ByteArray) (n : Nat) : (cutK k n).data.toList = k.data.toList.drop n := by
  unfold cutK
  rw [Lib.extract_data, List.take_of_length_le (by rw [List.length_drop, slen]; omega)]
theorem cutK_size (k : ByteArray) (n : Nat) : (cutK k n).size = k.size - n := by unfold cutK; rw [ByteArray.size_extract]; omega
theorem cutK_zero (k : ByteArray) : cutK k 0 = k := txt_ext (by rw [cutK_data, List.drop_zero])
theorem joinK (a p : ByteArray) : p.extract 0 (cpK a p) ++ cutK a (cpK a p) = a := by
  apply txt_ext
  have h : (p.extract 0 (cpK a p) ++ cutK a (cpK a p)).data.toList = (p.extract 0 (cpK a p)).data.toList ++ (cutK a (cpK a p)).data.toList := by simp
  rw [h, Lib.extract_data, cutK_data, List.drop_zero, Nat.sub_zero]
  unfold cpK
  rw [← cpl_take, List.take_append_drop]

/-! the bytes -/
/-- an entry without its key's first bytes -/
def restE (n : Nat) (x : En) : En := ⟨⟨cutK x.m.k n, x.m.s, x.m.g⟩, x.x⟩
def rowE (p : ByteArray) (x : En) : List UInt8 := Vi.enc (cpK x.m.k p) ++ encE (restE (cpK x.m.k p) x)
/-- what the key of the entry at place i is held against -/
def preK (i : Nat) (p : ByteArray) : ByteArray := if i % 4 = 0 then ByteArray.empty else p
def bodyG : Nat → ByteArray → List En → List UInt8
  | _, _, [] => []
  | i, p, x :: S => rowE (preK i p) x ++ bodyG (i + 1) x.m.k S
/-- the last key -/
def lastK : ByteArray → List En → ByteArray
  | p, [] => p
  | _, x :: S => lastK x.m.k S
theorem lastK_snoc (x : En) : ∀ (p : ByteArray) (S : List En), lastK p (S ++ [x]) = x.m.k
  | _, [] => rfl
  | _, y :: S => lastK_snoc x y.m.k S
theorem bodyG_app : ∀ (S T : List En) (i : Nat) (p : ByteArray), bodyG i p (S ++ T) = bodyG i p S ++ bodyG (i + S.length) (lastK p S) T
  | [], T, i, p => rfl
  | x :: S, T, i, p => by
    rw [List.cons_append, bodyG, bodyG, bodyG_app S T, List.append_assoc, List.length_cons, lastK]
    rw [show i + 1 + S.length = i + (S.length + 1) from by omega]
theorem bodyG_fresh (p q : ByteArray) (i : Nat) (h : i % 4 = 0) (S : List En) : bodyG i p S = bodyG i q S := by
  cases S with
  | nil => rfl
  | cons x S => rw [bodyG, bodyG]; unfold preK; rw [if_pos h, if_pos h]
theorem bodyG_four (i j : Nat) (h : i % 4 = j % 4) : ∀ (S : List En) (p : ByteArray), bodyG i p S = bodyG j p S := by
  intro S
  induction S generalizing i j with
  | nil => intro p; rfl
  | cons x S ih =>
    intro p
    rw [bodyG, bodyG, ih (i + 1) (j + 1) (by omega)]
    unfold preK; rw [h]
/-- where every fourth entry begins -/
def offG : Nat → Nat → ByteArray → List En → List Nat
  | _, _, _, [] => []
  | i, n, p, x :: S => (if i % 4 = 0 then [n] else []) ++ offG (i + 1) (n + (rowE (preK i p) x).length) x.m.k S
theorem offG_app : ∀ (S T : List En) (i n : Nat) (p : ByteArray), offG i n p (S ++ T) = offG i n p S ++ offG (i + S.length) (n + (bodyG i p S).length) (lastK p S) T
  | [], T, i, n, p => rfl
  | x :: S, T, i, n, p => by
    rw [List.cons_append, offG, offG, offG_app S T, List.append_assoc, List.length_cons, lastK, bodyG, List.length_append]
    rw [show i + 1 + S.length = i + (S.length + 1) from by omega, Nat.add_assoc n]
theorem offG_len : ∀ (S : List En) (i n : Nat) (p : ByteArray), (offG i n p S).length + (i + 3) / 4 = (i + S.length + 3) / 4
  | [], i, n, p => by simp [offG]
  | x :: S, i, n, p => by
    have := offG_len S (i + 1) (n + (rowE (preK i p) x).length) x.m.k
    rw [offG, List.length_append, List.length_cons]
    by_cases h : i % 4 = 0
    · rw [if_pos h, List.length_singleton]; omega
    · rw [if_neg h, List.length_nil]; omega
theorem offG_le : ∀ (S : List En) (i n : Nat) (p : ByteArray), ∀ o ∈ offG i n p S, o ≤ n + (bodyG i p S).length
  | [], i, n, p, o, ho => by simp [offG] at ho
  | x :: S, i, n, p, o, ho => by
    rw [offG, List.mem_append] at ho
    rw [bodyG, List.length_append]
    rcases ho with ho | ho
    · by_cases h : i % 4 = 0
      · rw [if_pos h] at ho; simp at ho; omega
      · rw [if_neg h] at ho; cases ho
    · have := offG_le S _ _ _ o ho; omega
/-- a number as two bytes, the higher one first -/
def two (n : Nat) : List UInt8 := [UInt8.ofNat (n / 256), UInt8.ofNat n]
def body (S : List En) : List UInt8 := bodyG 0 ByteArray.empty S
def places (S : List En) : List Nat := offG 0 0 ByteArray.empty S
def tailB (S : List En) : List UInt8 := (places S ++ [(places S).length]).flatMap two
/-- the bytes of a block -/
def encB (S : List En) : List UInt8 := body S ++ tailB S
theorem places_len (S : List En) : (places S).length = (S.length + 3) / 4 := by
  have := offG_len S 0 0 ByteArray.empty
  unfold places; simpa using this
theorem flat_two (l : List Nat) : (l.flatMap two).length = 2 * l.length := by
  induction l with
  | nil => rfl
  | cons a l ih => rw [List.flatMap_cons, List.length_append, ih, List.length_cons]; simp [two]; omega
theorem tailB_len (S : List En) : (tailB S).length = 2 * ((S.length + 3) / 4) + 2 := by
  unfold tailB; rw [flat_two, List.length_append, places_len, List.length_singleton]; omega
theorem rowE_len (p : ByteArray) (x : En) (hf : fineE x = true) : 4 ≤ (rowE p x).length ∧ (rowE p x).length ≤ 329 := by
  unfold rowE
  have h1 := Vi.enc_len (cpK x.m.k p)
  have h2 := Vi.enc_pos (cpK x.m.k p)
  have h3 := encE_len (restE (cpK x.m.k p) x)
  have h4 : fineE x = true := hf
  unfold fineE chk at h4
  simp only [Bool.and_eq_true, decide_eq_true_eq] at h4
  have h5 := cutK_size x.m.k (cpK x.m.k p)
  rw [List.length_append]
  unfold restE at h3 ⊢
  simp only at h3
  omega
theorem bodyG_len : ∀ (S : List En) (i : Nat) (p : ByteArray), (∀ e ∈ S, fineE e = true) → (bodyG i p S).length ≤ 329 * S.length
  | [], i, p, _ => by simp [bodyG]
  | x :: S, i, p, h => by
    have h1 := rowE_len (preK i p) x (h x (by simp))
    have h2 := bodyG_len S (i + 1) x.m.k (fun e he => h e (by simp [he]))
    rw [bodyG, List.length_append, List.length_cons]; omega

/-! what may be a block -/
def okB (S : List En) : Bool := decide (1 ≤ S.length) && (decide (S.length ≤ 64) && (S.all fineE && decide (S.Pairwise fun a b => cmpM a.m b.m < 0)))
theorem okB_iff (S : List En) : okB S = true ↔ 1 ≤ S.length ∧ S.length ≤ 64 ∧ (∀ e ∈ S, fineE e = true) ∧ Rise S := by
  unfold okB Rise
  simp only [Bool.and_eq_true, decide_eq_true_eq, List.all_eq_true]
/-- may the entry at a place be, behind the one ahead? -/
def goodAt (S : List En) (j : Nat) : Bool :=
  match S[j]? with
  | none => false
  | some x => fineE x && (decide (j = 0) || match S[j - 1]? with | none => false | some y => decide (cmpM y.m x.m < 0))
theorem goodAt_some {S : List En} {j : Nat} {x : En} (h : S[j]? = some x) : goodAt S j = (fineE x && (decide (j = 0) || match S[j - 1]? with | none => false | some y => decide (cmpM y.m x.m < 0))) := by
  unfold goodAt; rw [h]
theorem good_all (S : List En) : (∀ j, j < S.length → goodAt S j = true) ↔ (∀ e ∈ S, fineE e = true) ∧ Rise S := by
  constructor
  · intro h
    have hf : ∀ e ∈ S, fineE e = true := fun e he => by
      obtain ⟨j, hj⟩ := List.getElem?_of_mem he
      have := h j (List.getElem?_eq_some_iff.1 hj).1
      rw [goodAt_some hj] at this
      simp only [Bool.and_eq_true] at this
      exact this.1
    refine ⟨hf, ?_⟩
    have hn : ∀ j, j + 1 < S.length → ∀ a b, S[j]? = some a → S[j + 1]? = some b → cmpM a.m b.m < 0 := fun j hj a b ha hb => by
      have := h (j + 1) hj
      rw [goodAt_some hb] at this
      simp only [Bool.and_eq_true, Nat.add_sub_cancel, ha, Bool.or_eq_true, decide_eq_true_eq] at this
      rcases this.2 with q | q
      · omega
      · exact q
    unfold Rise
    rw [List.pairwise_iff_getElem]
    have hd : ∀ d i (hi : i < S.length) (hj : i + d + 1 < S.length), cmpM S[i].m S[i + d + 1].m < 0 := by
      intro d
      induction d with
      | zero => intro i hi hj; exact hn i hj _ _ (List.getElem?_eq_getElem hi) (List.getElem?_eq_getElem hj)
      | succ d ih =>
        intro i hi hj
        exact cmp_trans (ih i hi (by omega)) (hn (i + d + 1) hj _ _ (List.getElem?_eq_getElem (by omega)) (List.getElem?_eq_getElem hj))
    intro i j hi hj hij
    obtain ⟨d, rfl⟩ : ∃ d, j = i + d + 1 := ⟨j - i - 1, by omega⟩
    exact hd d i hi hj
  · rintro ⟨hf, hr⟩ j hj
    rw [goodAt_some (List.getElem?_eq_getElem hj), hf _ (List.getElem_mem hj)]
    rcases Nat.eq_zero_or_pos j with h | h
    · subst h; rfl
    · rw [List.getElem?_eq_getElem (show j - 1 < S.length by omega)]
      have := hr.ne (i := j - 1) (j := j) (by omega) (List.getElem?_eq_getElem (by omega)) (List.getElem?_eq_getElem hj)
      simp only [this, decide_true, Bool.or_true, Bool.and_true]
theorem okB_good (S : List En) (h1 : 1 ≤ S.length) (h2 : S.length ≤ 64) : okB S = true ↔ ∀ j, j < S.length → goodAt S j = true := by
  rw [okB_iff, good_all]
  exact ⟨fun h => h.2.2, fun h => ⟨h1, h2, h⟩⟩
theorem encB_len (S : List En) (h : okB S = true) : 8 ≤ (encB S).length ∧ (encB S).length ≤ 22000 := by
  obtain ⟨h1, h2, h3, _⟩ := (okB_iff S).1 h
  have q := bodyG_len S 0 ByteArray.empty h3
  have t := tailB_len S
  unfold encB body
  rw [List.length_append]
  refine ⟨?_, by omega⟩
  cases S with
  | nil => simp at h1
  | cons x S =>
    have := rowE_len (preK 0 ByteArray.empty) x (h3 x (by simp))
    rw [bodyG, List.length_append]; rw [List.length_cons] at t; omega
end Go.Proofs.YtbbimfbkllellaaGreatDoor
