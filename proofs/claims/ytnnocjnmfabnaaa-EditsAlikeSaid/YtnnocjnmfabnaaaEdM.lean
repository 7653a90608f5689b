/-
  Plain mathematics: files; what an edit makes of them.
-/
import Derived.Test.YtnnocjnmfabnaaaPlTx
namespace Go.Proofs.Ytnnocjnmfabnaaa
set_option linter.unusedVariables false

/-- a file -/
structure Fi where
  num : Nat
  lv : Int
  a : ByteArray
  z : ByteArray
theorem Fi.ext' {f g : Fi} (h1 : f.num = g.num) (h2 : f.lv = g.lv) (h3 : f.a = g.a) (h4 : f.z = g.z) : f = g := by
  cases f; cases g; simp_all
def Fi.cs (f : Fi) : List Value := [.int .u32 (f.num : Int), .int .i64 f.lv, .string f.a, .string f.z]
def Fi.v (f : Fi) : Value := .agg #[.int .u32 (f.num : Int), .int .i64 f.lv, .string f.a, .string f.z]
def fcs (l : List Fi) : List Value := l.flatMap Fi.cs
/-- may a file be? -/
def okFi (f : Fi) : Bool := decide (0 ≤ f.lv) && (decide (f.lv < 4) && (chk f.a && (chk f.z && !lessB f.z f.a)))
/-- the numbers of files -/
def nms (l : List Fi) : List Nat := l.map Fi.num
theorem nms_app (l m : List Fi) : nms (l ++ m) = nms l ++ nms m := List.map_append
theorem nms_mem {l : List Fi} {k : Nat} : k ∈ nms l ↔ ∃ f ∈ l, f.num = k := List.mem_map
def hasN (m : List Fi) (k : Nat) : Bool := m.any fun f => f.num == k
theorem hasN_iff {m : List Fi} {k : Nat} : hasN m k = true ↔ k ∈ nms m := by
  unfold hasN
  rw [List.any_eq_true, nms_mem]
  exact ⟨fun ⟨f, h, e⟩ => ⟨f, h, by simpa using e⟩, fun ⟨f, h, e⟩ => ⟨f, h, by simpa using e⟩⟩
theorem hasN_no {m : List Fi} {k : Nat} : hasN m k = false ↔ k ∉ nms m := by
  rw [← hasN_iff]; simp
/-- of one number there is one -/
theorem one_num {m : List Fi} (h : (nms m).Nodup) {f g : Fi} (hf : f ∈ m) (hg : g ∈ m) (e : f.num = g.num) : f = g := by
  induction m with
  | nil => cases hf
  | cons x m ih =>
    have h1 := List.nodup_cons.1 h
    have out : ∀ {y : Fi}, y ∈ m → y.num = x.num → False := fun hy e => h1.1 (e ▸ List.mem_map_of_mem hy)
    rcases List.mem_cons.1 hf with e1 | hf'
    · rcases List.mem_cons.1 hg with e2 | hg'
      · rw [e1, e2]
      · exact (out hg' (by rw [← e, e1])).elim
    · rcases List.mem_cons.1 hg with e2 | hg'
      · exact (out hf' (by rw [e, e2])).elim
      · exact ih h1.2 hf' hg'

/-- files that may be added to those that are there -/
def AddOk (m l : List Fi) : Prop := (∀ f ∈ l, okFi f = true) ∧ (nms (m ++ l)).Nodup
theorem AddOk.nil {m : List Fi} (h : (nms m).Nodup) : AddOk m [] := ⟨fun f hf => (by cases hf), by rw [List.append_nil]; exact h⟩
theorem addOk_take {m l : List Fi} {k : Nat} {f : Fi} (hk : l[k]? = some f) (h : AddOk m (l.take k)) : AddOk m (l.take (k + 1)) ↔ hasN (m ++ l.take k) f.num = false ∧ okFi f = true := by
  rw [List.take_add_one, hk]
  unfold AddOk
  rw [← List.append_assoc, nms_app (m ++ l.take k), hasN_no]
  constructor
  · rintro ⟨h1, h2⟩
    refine ⟨fun hm => ?_, h1 f (by simp)⟩
    exact (List.nodup_append.1 h2).2.2 _ hm f.num (by simp [nms]) rfl
  · rintro ⟨h1, h2⟩
    refine ⟨fun g hg => ?_, ?_⟩
    · rcases List.mem_append.1 hg with q | q
      · exact h.1 g q
      · obtain rfl : g = f := by simpa using q
        exact h2
    · rw [List.nodup_append]
      refine ⟨h.2, by simp [nms], fun x hx y hy e => ?_⟩
      have : y = f.num := by simpa [nms] using hy
      subst this
      exact h1 (e ▸ hx)
theorem AddOk.sub {m l : List Fi} (h : AddOk m l) (k : Nat) : AddOk m (l.take k) := by
  refine ⟨fun f hf => h.1 f (List.mem_of_mem_take hf), ?_⟩
  have := h.2
  rw [nms_app] at this ⊢
  exact (List.Sublist.append_left (List.Sublist.map _ (List.take_sublist k l)) _).nodup this
theorem AddOk.at_ {m l : List Fi} (h : AddOk m l) {k : Nat} {f : Fi} (hk : l[k]? = some f) : hasN (m ++ l.take k) f.num = false ∧ okFi f = true := (addOk_take hk (h.sub k)).1 (h.sub (k + 1))
/-- numbers that may be removed -/
def RemOk (m : List Fi) (r : List Nat) : Prop := r.Nodup ∧ ∀ k ∈ r, k ∈ nms m
/-- what is left -/
def left (m : List Fi) (r : List Nat) : List Fi := m.filter fun f => !r.contains f.num
theorem left_nil (m : List Fi) : left m [] = m := List.filter_eq_self.2 fun f _ => rfl
theorem mem_left {m : List Fi} {r : List Nat} {f : Fi} : f ∈ left m r ↔ f ∈ m ∧ f.num ∉ r := by
  unfold left; rw [List.mem_filter]; simp
theorem left_nodup {m : List Fi} (h : (nms m).Nodup) (r : List Nat) : (nms (left m r)).Nodup := (List.Sublist.map _ List.filter_sublist).nodup h
theorem left_snoc (m : List Fi) (r : List Nat) (k : Nat) : left (left m r) [k] = left m (r ++ [k]) := by
  unfold left
  rw [List.filter_filter]
  refine List.filter_congr fun f _ => ?_
  simp [Bool.and_comm]
theorem hasN_left {m : List Fi} {r : List Nat} {k : Nat} : hasN (left m r) k = true ↔ k ∈ nms m ∧ k ∉ r := by
  rw [hasN_iff, nms_mem, nms_mem]
  constructor
  · rintro ⟨f, hf, rfl⟩
    obtain ⟨h1, h2⟩ := mem_left.1 hf
    exact ⟨⟨f, h1, rfl⟩, h2⟩
  · rintro ⟨⟨f, hf, rfl⟩, h2⟩
    exact ⟨f, mem_left.2 ⟨hf, h2⟩, rfl⟩
theorem remOk_take {m : List Fi} {r : List Nat} {i k : Nat} (hk : r[i]? = some k) (h : RemOk m (r.take i)) : RemOk m (r.take (i + 1)) ↔ hasN (left m (r.take i)) k = true := by
  rw [List.take_add_one, hk, hasN_left]
  unfold RemOk
  show (r.take i ++ [k]).Nodup ∧ _ ↔ _
  rw [List.nodup_append]
  constructor
  · rintro ⟨⟨_, _, h3⟩, h4⟩
    exact ⟨h4 k (by simp), fun q => h3 _ q k (by simp) rfl⟩
  · rintro ⟨h1, h2⟩
    refine ⟨⟨h.1, by simp, fun x hx y hy e => ?_⟩, fun x hx => ?_⟩
    · have : y = k := by simpa using hy
      subst this; exact h2 (e ▸ hx)
    · rcases List.mem_append.1 hx with q | q
      · exact h.2 x q
      · obtain rfl : x = k := by simpa using q
        exact h1
theorem RemOk.nil (m : List Fi) : RemOk m [] := ⟨List.nodup_nil, fun k hk => by cases hk⟩
theorem RemOk.sub {m : List Fi} {r : List Nat} (h : RemOk m r) (i : Nat) : RemOk m (r.take i) := ⟨(List.take_sublist i r).nodup h.1, fun k hk => h.2 k (List.mem_of_mem_take hk)⟩
theorem RemOk.at_ {m : List Fi} {r : List Nat} (h : RemOk m r) {i k : Nat} (hk : r[i]? = some k) : hasN (left m (r.take i)) k = true := (remOk_take hk (h.sub i)).1 (h.sub (i + 1))

/-- by level, then by number -/
def ltFi (f g : Fi) : Prop := f.lv < g.lv ∨ (f.lv = g.lv ∧ f.num < g.num)
instance (f g : Fi) : Decidable (ltFi f g) := by unfold ltFi; infer_instance
theorem ltFi.trans {f g h : Fi} (h1 : ltFi f g) (h2 : ltFi g h) : ltFi f h := by unfold ltFi at *; omega
theorem ltFi.not {f g : Fi} (h1 : ltFi f g) (h2 : ltFi g f) : False := by unfold ltFi at *; omega
abbrev UpFi (l : List Fi) : Prop := l.Pairwise ltFi
/-- one order alone -/
theorem up_one : ∀ {l m : List Fi}, UpFi l → UpFi m → l.Perm m → l = m
  | [], m, _, _, h => by rw [List.nil_perm.1 h]
  | x :: l, [], _, _, h => absurd h.length_eq (by simp)
  | x :: l, y :: m, hl, hm, h => by
    have l1 := List.pairwise_cons.1 hl
    have m1 := List.pairwise_cons.1 hm
    have e : x = y := by
      have hx : x ∈ y :: m := h.mem_iff.1 (by simp)
      have hy : y ∈ x :: l := h.mem_iff.2 (by simp)
      rcases List.mem_cons.1 hx with e | q
      · exact e
      · rcases List.mem_cons.1 hy with e | q2
        · exact e.symm
        · exact ((m1.1 x q).not (l1.1 y q2)).elim
    subst e
    rw [up_one l1.2 m1.2 (List.perm_cons x |>.1 h)]
/-- what an edit takes and brings can be done -/
def DoOk (l a : List Fi) (r : List Nat) : Prop := AddOk [] l ∧ RemOk l r ∧ AddOk (left l r) a
end Go.Proofs.Ytnnocjnmfabnaaa
