/-
  The document's own disk (package bucketlineref05), in plain mathematics: rows of names with files, rising; what is found, put in, taken out.
  The document's own disk (package bucketlineref05) in memory; contracts of its Name and find.
  The document's own disk: its rows of names written anew; contracts of its lead, drop, Names.
-/
import Derived.Test.YtbpdonnneleeeaaGreatDoorTxt
import Derived.Test.YtbpdonnneleeeaaGreatDoorAtZ
import Derived.Test.YtbpdonnneleeeaaGreatDoorMemZ
namespace Go.Proofs.YtbpdonnneleeeaaGreatDoor
set_option linter.unusedVariables false

/-- names with their files -/
abbrev NL := List (List UInt8 × Nat)
/-- they rise -/
def Rise (L : NL) : Prop := L.Pairwise fun a b => a.1 < b.1
/-- where a name stands -/
def idx : NL → List UInt8 → Option Nat
  | [], _ => none
  | a :: L, s => if a.1 = s then some 0 else (idx L s).map (· + 1)
def drp (L : NL) (k : Nat) : NL := L.take k ++ L.drop (k + 1)
/-- how many names stand ahead -/
def ahead (s : List UInt8) : NL → Nat
  | [] => 0
  | a :: L => if a.1 < s then ahead s L + 1 else 0
def ins (L : NL) (s : List UInt8) (f : Nat) : NL := L.take (ahead s L) ++ [(s, f)] ++ L.drop (ahead s L)

theorem idx_none {L : NL} {s : List UInt8} (h : idx L s = none) : ∀ e ∈ L, e.1 ≠ s := by
  induction L with
  | nil => intro e he; cases he
  | cons a L ih =>
    unfold idx at h
    by_cases e : a.1 = s
    · rw [if_pos e] at h; cases h
    · rw [if_neg e] at h
      have h2 : idx L s = none := by cases h3 : idx L s with
        | none => rfl
        | some x => rw [h3] at h; cases h
      intro x hx
      rcases List.mem_cons.1 hx with rfl | hx
      · exact e
      · exact ih h2 x hx
theorem idx_some {L : NL} {s : List UInt8} {k : Nat} (h : idx L s = some k) : ∃ f, L[k]? = some (s, f) ∧ ∀ j, j < k → ∀ e, L[j]? = some e → e.1 ≠ s := by
  induction L generalizing k with
  | nil => cases h
  | cons a L ih =>
    unfold idx at h
    by_cases e : a.1 = s
    · rw [if_pos e] at h; injection h with h; subst h
      exact ⟨a.2, by rw [← e]; rfl, fun j hj => absurd hj (Nat.not_lt_zero _)⟩
    · rw [if_neg e] at h
      cases h3 : idx L s with
      | none => rw [h3] at h; cases h
      | some x =>
        rw [h3] at h; injection h with h; subst h
        obtain ⟨f, h1, h2⟩ := ih h3
        refine ⟨f, h1, fun j hj c hc => ?_⟩
        cases j with
        | zero => injection hc with hc; subst hc; exact e
        | succ j => exact h2 j (by have hj : j + 1 < x + 1 := hj; omega) c hc
/-- found at the first place -/
theorem idx_at {L : NL} {s : List UInt8} {k f : Nat} (h : L[k]? = some (s, f)) (hn : ∀ j, j < k → ∀ e, L[j]? = some e → e.1 ≠ s) : idx L s = some k := by
  induction L generalizing k with
  | nil => simp at h
  | cons a L ih =>
    unfold idx
    cases k with
    | zero => injection h with h; subst h; rw [if_pos rfl]
    | succ k =>
      rw [if_neg (hn 0 (by omega) a rfl), ih (k := k) h (fun j hj e he => hn (j + 1) (by omega) e he)]
      rfl
theorem idx_not {L : NL} {s : List UInt8} (hn : ∀ j, j < L.length → ∀ e, L[j]? = some e → e.1 ≠ s) : idx L s = none := by
  cases h : idx L s with
  | none => rfl
  | some k =>
    obtain ⟨f, h1, _⟩ := idx_some h
    obtain ⟨h2, _⟩ := List.getElem?_eq_some_iff.1 h1
    exact absurd rfl (hn k h2 _ h1)
theorem ahead_le (s : List UInt8) (L : NL) : ahead s L ≤ L.length := by
  induction L with
  | nil => exact Nat.le_refl _
  | cons a L ih => unfold ahead; split <;> simp <;> omega
theorem ahead_lt (s : List UInt8) {L : NL} {k : Nat} {e : List UInt8 × Nat} (hk : k < ahead s L) (he : L[k]? = some e) : e.1 < s := by
  induction L generalizing k with
  | nil => simp at he
  | cons a L ih =>
    unfold ahead at hk
    by_cases h : a.1 < s
    · rw [if_pos h] at hk
      cases k with
      | zero => injection he with he; subst he; exact h
      | succ k => exact ih (by omega) he
    · rw [if_neg h] at hk; omega
theorem ahead_is {s : List UInt8} {L : NL} {k : Nat} (h1 : ∀ j, j < k → ∀ e, L[j]? = some e → e.1 < s) (hk : k ≤ L.length) (h2 : ∀ e, L[k]? = some e → ¬ e.1 < s) : ahead s L = k := by
  induction L generalizing k with
  | nil => simp at hk; subst hk; rfl
  | cons a L ih =>
    unfold ahead
    cases k with
    | zero => rw [if_neg (h2 a rfl)]
    | succ k =>
      rw [if_pos (h1 0 (by omega) a rfl), ih (k := k) (fun j hj e he => h1 (j + 1) (by omega) e he) (by simp at hk; omega) h2]
/-- behind those ahead, a name that isn't there stands ahead of all others -/
theorem ahead_ge {s : List UInt8} {L : NL} (hr : Rise L) (hn : ∀ e ∈ L, e.1 ≠ s) : ∀ e ∈ L.drop (ahead s L), s < e.1 := by
  induction L with
  | nil => intro e he; simp at he
  | cons a L ih =>
    unfold ahead
    have hr2 := List.pairwise_cons.1 hr
    by_cases h : a.1 < s
    · rw [if_pos h, List.drop_succ_cons]
      exact ih hr2.2 fun e he => hn e (by simp [he])
    · rw [if_neg h, List.drop_zero]
      have has : s < a.1 := by
        rcases List.le_iff_lt_or_eq.1 (List.not_lt.1 h) with h2 | h2
        · exact h2
        · exact absurd h2.symm (hn a (by simp))
      intro e he
      rcases List.mem_cons.1 he with rfl | he
      · exact has
      · exact List.lt_trans has (hr2.1 e he)
theorem rise_ins {L : NL} {s : List UInt8} {f : Nat} (hr : Rise L) (hn : ∀ e ∈ L, e.1 ≠ s) : Rise (ins L s f) := by
  unfold ins
  have ht : Rise (L.take (ahead s L)) := hr.sublist (List.take_sublist _ _)
  have hd : Rise (L.drop (ahead s L)) := hr.sublist (List.drop_sublist _ _)
  have hta : ∀ e ∈ L.take (ahead s L), e.1 < s := fun e he => by
    obtain ⟨j, hj, hje⟩ := List.getElem_of_mem he
    have hj2 : j < ahead s L := by rw [List.length_take] at hj; omega
    refine ahead_lt s (k := j) hj2 ?_
    rw [← hje, List.getElem_take, List.getElem?_eq_getElem]
  have hda := ahead_ge hr hn
  refine List.pairwise_append.2 ⟨List.pairwise_append.2 ⟨ht, List.pairwise_singleton _ _, fun a ha b hb => ?_⟩, hd, fun a ha b hb => ?_⟩
  · rw [List.mem_singleton.1 hb]; exact hta a ha
  · rcases List.mem_append.1 ha with ha | ha
    · exact List.lt_trans (hta a ha) (hda b hb)
    · rw [List.mem_singleton.1 ha]; exact hda b hb
theorem mem_ins {L : NL} {s : List UInt8} {f : Nat} {e : List UInt8 × Nat} : e ∈ ins L s f ↔ e = (s, f) ∨ e ∈ L := by
  unfold ins
  have h : e ∈ L ↔ e ∈ L.take (ahead s L) ∨ e ∈ L.drop (ahead s L) := by
    conv => lhs; rw [← List.take_append_drop (ahead s L) L]
    exact List.mem_append
  rw [List.mem_append, List.mem_append, List.mem_singleton, h]
  constructor
  · rintro ((h | h) | h)
    · exact .inr (.inl h)
    · exact .inl h
    · exact .inr (.inr h)
  · rintro (h | h | h)
    · exact .inl (.inr h)
    · exact .inl (.inl h)
    · exact .inr h
theorem len_ins (L : NL) (s : List UInt8) (f : Nat) : (ins L s f).length = L.length + 1 := by
  unfold ins
  have := ahead_le s L
  simp; omega
theorem rise_drp {L : NL} (hr : Rise L) (k : Nat) : Rise (drp L k) := by
  unfold drp
  have : (L.take k ++ L.drop (k + 1)) = L.eraseIdx k := (List.eraseIdx_eq_take_drop_succ L k).symm
  rw [this]
  exact hr.sublist (List.eraseIdx_sublist L k)
theorem mem_drp {L : NL} (hr : Rise L) {k : Nat} {e0 : List UInt8 × Nat} (h0 : L[k]? = some e0) {e : List UInt8 × Nat} : e ∈ drp L k ↔ e ∈ L ∧ e.1 ≠ e0.1 := by
  have hL : L = L.take k ++ e0 :: L.drop (k + 1) := by
    obtain ⟨hk, he⟩ := List.getElem?_eq_some_iff.1 h0
    rw [← he, ← List.drop_eq_getElem_cons hk, List.take_append_drop]
  have hr2 : Rise (L.take k ++ e0 :: L.drop (k + 1)) := by rw [← hL]; exact hr
  obtain ⟨h1, h2, h3⟩ := List.pairwise_append.1 hr2
  have h4 := List.pairwise_cons.1 h2
  have hlt : ∀ a b : List UInt8, a < b → a ≠ b := fun a b h e => by subst e; exact List.lt_irrefl _ h
  constructor
  · intro he
    rcases List.mem_append.1 he with he | he
    · exact ⟨List.mem_of_mem_take he, hlt _ _ (h3 e he e0 (by simp))⟩
    · exact ⟨List.mem_of_mem_drop he, fun x => hlt _ _ (h4.1 e he) x.symm⟩
  · rintro ⟨he, hne⟩
    rw [hL] at he
    rcases List.mem_append.1 he with he | he
    · exact List.mem_append_left _ he
    · rcases List.mem_cons.1 he with rfl | he
      · exact absurd rfl hne
      · exact List.mem_append_right _ he
/-- one name stands once -/
theorem rise_one {L : NL} (hr : Rise L) {a b : List UInt8 × Nat} (ha : a ∈ L) (hb : b ∈ L) (h : a.1 = b.1) : a = b := by
  obtain ⟨i, hi, rfl⟩ := List.getElem_of_mem ha
  obtain ⟨j, hj, rfl⟩ := List.getElem_of_mem hb
  have hp := List.pairwise_iff_getElem.1 hr
  rcases Nat.lt_trichotomy i j with h2 | h2 | h2
  · have := hp i j hi hj h2; rw [h] at this; exact absurd this (List.lt_irrefl _)
  · subst h2; rfl
  · have := hp j i hj hi h2; rw [h] at this; exact absurd this (List.lt_irrefl _)
end Go.Proofs.YtbpdonnneleeeaaGreatDoor

namespace Go.Proofs.YtbpdonnneleeeaaGreatDoor
open Go.RowKit Go.Maps Go.Sort
set_option linter.unusedVariables false
set_option linter.unusedSectionVars false
set_option maxRecDepth 100000

/-- cells of a slice, in blocks of G -/
structure LiesIn (w : World) (G : Nat → Prop) (k : Nat) (A : Option Addr) (n : Nat) (xs : List Value) : Prop where
  len : xs.length = n * k
  spot : ∀ j, j < xs.length → ∃ ad u, A = some ad ∧ G ad.block ∧ xs[j]? = some u ∧ w.cell? (ad.add j) = some u
theorem cell_heap {w w' : World} {p : Addr} (h : w'.heap[p.block]? = w.heap[p.block]?) : w'.cell? p = w.cell? p := by
  unfold World.cell?; rw [h]
section
variable {w w' : World} {G G' : Nat → Prop} {k n : Nat} {A : Option Addr} {xs : List Value}
theorem LiesIn.lies (h : LiesIn w G k A n xs) {B : Nat} (hG : ∀ i, G i → i < B) : Lies w B k A n xs :=
  ⟨h.len, fun j hj => by obtain ⟨ad, u, e, hg, r⟩ := h.spot j hj; exact ⟨ad, u, e, hG _ hg, r⟩⟩
theorem LiesIn.keep (h : LiesIn w G k A n xs) (hs : ∀ i, G i → w'.heap[i]? = w.heap[i]?) : LiesIn w' G k A n xs :=
  ⟨h.len, fun j hj => by
    obtain ⟨ad, u, e, hg, hx, hc⟩ := h.spot j hj
    exact ⟨ad, u, e, hg, hx, (cell_heap (by rw [add_block]; exact hs _ hg)).trans hc⟩⟩
theorem LiesIn.mono (h : LiesIn w G k A n xs) (hG : ∀ i, G i → G' i) : LiesIn w G' k A n xs :=
  ⟨h.len, fun j hj => by obtain ⟨ad, u, e, hg, r⟩ := h.spot j hj; exact ⟨ad, u, e, hG _ hg, r⟩⟩
theorem LiesIn.nil : LiesIn w G k none 0 [] := ⟨by simp, fun j hj => by simp at hj⟩
/-- what a call owns -/
theorem LiesIn.of_own {base e c : Nat} (h : w.ownsRow base e k (.slice A n c) n xs) (hG : ∀ g, (Value.slice A n c).ownBlock = some g → G g) : LiesIn w G k A n xs := by
  refine ⟨h.1, fun j hj => ?_⟩
  have hn : 0 < n := by
    rcases Nat.eq_zero_or_pos n with h0 | h0
    · have := h.1; rw [h0, Nat.zero_mul] at this; omega
    · exact h0
  rcases h.2 with ⟨_, rfl⟩ | ⟨g, cap, cur, hv, _, hh, _⟩
  · omega
  · have hg : (Value.slice A n c).ownBlock = some g := by rw [hv]; rfl
    injection hv with hv _ _
    subst hv
    refine ⟨_, xs[j], rfl, hG g hg, List.getElem?_eq_getElem hj, ?_⟩
    exact h.cells (g := g) rfl j _ (List.getElem?_eq_getElem hj)
end

/-- a pointer to a file -/
abbrev fp (b : Nat) : Value := .pointer (some ⟨b, 0, none⟩)
def ent (ρ : Nat → Nat) (e : List UInt8 × Nat) : List Value := [sv e.1, fp (ρ e.2)]
def rowOf (ρ : Nat → Nat) (L : NL) : List Value := L.flatMap (ent ρ)
theorem rowOf_len (ρ : Nat → Nat) (L : NL) : (rowOf ρ L).length = L.length * 2 := by
  unfold rowOf
  induction L with
  | nil => rfl
  | cons a L ih => rw [List.flatMap_cons, List.length_append, ih, List.length_cons, Nat.succ_mul]; simp [ent]; omega
theorem rowOf_get (ρ : Nat → Nat) (L : NL) : ∀ {i : Nat} {e : List UInt8 × Nat}, L[i]? = some e → (rowOf ρ L)[i * 2]? = some (sv e.1) ∧ (rowOf ρ L)[i * 2 + 1]? = some (fp (ρ e.2)) := by
  unfold rowOf
  induction L with
  | nil => intro i e h; simp at h
  | cons a L ih =>
    intro i e h
    rw [List.flatMap_cons]
    cases i with
    | zero => injection h with h; subst h; exact ⟨rfl, rfl⟩
    | succ i =>
      obtain ⟨h1, h2⟩ := ih (i := i) (e := e) h
      have l2 : (ent ρ a).length = 2 := rfl
      rw [show (i + 1) * 2 = i * 2 + 2 by omega]
      refine ⟨?_, ?_⟩
      · rw [List.getElem?_append_right (by rw [l2]; omega), l2, Nat.add_sub_cancel]; exact h1
      · rw [List.getElem?_append_right (by rw [l2]; omega), l2, show i * 2 + 2 + 1 - 2 = i * 2 + 1 by omega]; exact h2
theorem rowOf_app (ρ : Nat → Nat) (L L' : NL) : rowOf ρ (L ++ L') = rowOf ρ L ++ rowOf ρ L' := by unfold rowOf; simp
theorem rowOf_take (ρ : Nat → Nat) (L : NL) (k : Nat) : (rowOf ρ L).take (k * 2) = rowOf ρ (L.take k) := by
  unfold rowOf
  induction L generalizing k with
  | nil => simp
  | cons a L ih => cases k with
    | zero => simp
    | succ k => rw [List.take_succ_cons, List.flatMap_cons, List.flatMap_cons, ← ih k, Nat.succ_mul]; simp [ent, List.take_succ_cons]
theorem rowOf_drop (ρ : Nat → Nat) (L : NL) (k : Nat) : (rowOf ρ L).drop (k * 2) = rowOf ρ (L.drop k) := by
  unfold rowOf
  induction L generalizing k with
  | nil => simp
  | cons a L ih => cases k with
    | zero => simp
    | succ k => rw [List.drop_succ_cons, List.flatMap_cons, ← ih k, Nat.succ_mul]; simp [ent]
theorem rowOf_one (ρ : Nat → Nat) (L : NL) : ∀ u ∈ rowOf ρ L, u.oneCell' = true := by
  intro u hu
  obtain ⟨e, _, he⟩ := List.mem_flatMap.1 hu
  simp only [ent, List.mem_cons, List.not_mem_nil, or_false] at he
  rcases he with rfl | rfl <;> rfl
theorem rowOf_congr {ρ ρ' : Nat → Nat} {L : NL} (h : ∀ e ∈ L, ρ e.2 = ρ' e.2) : rowOf ρ L = rowOf ρ' L := by
  unfold rowOf
  induction L with
  | nil => rfl
  | cons a L ih => rw [List.flatMap_cons, List.flatMap_cons, ih fun e he => h e (by simp [he])]; unfold ent; rw [h a (by simp)]

/-- a file of the document's own -/
structure RFile (w : World) (G R : Nat → Prop) (b : Nat) (c : FileC) (A : Option Addr) (k : Nat) : Prop where
  mem : G b
  cells : w.heap[b]? = some (.cells #[.slice A c.bytes.length k, .int .i64 (c.sure : Int)] 103 (0, 0))
  lies : LiesIn w R 1 A c.bytes.length (c.bytes.map bv)
  cap : c.bytes.length ≤ k ∧ k ≤ maxLen
  sure : c.sure ≤ c.bytes.length
  max : c.bytes.length ≤ 1048576
/-- a disk of the document's own: its struct in block m, rows L and LS, files T -/
structure RfAt (w : World) (G R : Nat → Prop) (m N : Nat) (file : Nat → FileC) (ρ : Nat → Nat) (T : Nat → Prop) (A : Option Addr) (n c : Nat) (L : NL) (A2 : Option Addr) (n2 c2 : Nat) (LS : NL) (fa : Nat → Option Addr) (fk : Nat → Nat) : Prop where
  box : w.heap[m]? = some (.cells #[.int .i64 (N : Int), .slice A n c, .slice A2 n2 c2] 88 (0, 0))
  gm : G m
  row : LiesIn w R 2 A n (rowOf ρ L)
  cap : n ≤ c ∧ c ≤ maxLen
  row2 : LiesIn w R 2 A2 n2 (rowOf ρ LS)
  cap2 : n2 ≤ c2 ∧ c2 ≤ maxLen
  ids : ∀ e ∈ L, T e.2
  ids2 : ∀ e ∈ LS, T e.2
  files : ∀ f, T f → RFile w G R (ρ f) (file f) (fa f) (fk f)
  inj : ∀ f g, T f → T g → ρ f = ρ g → f = g
  few : L.length ≤ 70
  few2 : LS.length ≤ 70
  hi : N ≤ 8388608
  rsub : ∀ i, R i → G i
  rm : ∀ i, R i → i ≠ m
  rf : ∀ i f, R i → T f → i ≠ ρ f
  lt : ∀ i, G i → i < w.heap.size

theorem RFile.keep {w w' : World} {G R : Nat → Prop} {b k : Nat} {c : FileC} {A : Option Addr} (h : RFile w G R b c A k) (hb : w'.heap[b]? = w.heap[b]?) (hs : ∀ i, R i → w'.heap[i]? = w.heap[i]?) : RFile w' G R b c A k :=
  ⟨h.mem, hb.trans h.cells, h.lies.keep hs, h.cap, h.sure, h.max⟩
theorem RFile.mono {w : World} {G G' R R' : Nat → Prop} {b k : Nat} {c : FileC} {A : Option Addr} (h : RFile w G R b c A k) (hG : ∀ i, G i → G' i) (hR : ∀ i, R i → R' i) : RFile w G' R' b c A k :=
  ⟨hG _ h.mem, h.cells, h.lies.mono hR, h.cap, h.sure, h.max⟩
section
variable {w w' : World} {G G' R R' : Nat → Prop} {m N : Nat} {file : Nat → FileC} {ρ : Nat → Nat} {T : Nat → Prop} {A A2 : Option Addr} {n c n2 c2 : Nat} {L LS : NL} {fa : Nat → Option Addr} {fk : Nat → Nat}
theorem RfAt.keep (h : RfAt w G R m N file ρ T A n c L A2 n2 c2 LS fa fk) (hs : ∀ i, G i → w'.heap[i]? = w.heap[i]?) (hz : w.heap.size ≤ w'.heap.size) : RfAt w' G R m N file ρ T A n c L A2 n2 c2 LS fa fk :=
  ⟨(hs m h.gm).trans h.box, h.gm, h.row.keep (fun i hi => hs i (h.rsub i hi)), h.cap, h.row2.keep (fun i hi => hs i (h.rsub i hi)), h.cap2, h.ids, h.ids2, fun f hf => (h.files f hf).keep (hs _ (h.files f hf).mem) (fun i hi => hs i (h.rsub i hi)), h.inj, h.few, h.few2, h.hi, h.rsub, h.rm, h.rf, fun i hi => Nat.lt_of_lt_of_le (h.lt i hi) hz⟩
theorem RfAt.below (h : RfAt w G R m N file ρ T A n c L A2 n2 c2 LS fa fk) (hb : Below w.heap.size w w') : RfAt w' G R m N file ρ T A n c L A2 n2 c2 LS fa fk :=
  h.keep (fun i hi => hb.block i (h.lt i hi)) hb.size
theorem RfAt.mono (h : RfAt w G R m N file ρ T A n c L A2 n2 c2 LS fa fk) (hG : ∀ i, G i → G' i) (hlt : ∀ i, G' i → i < w.heap.size) : RfAt w G' R m N file ρ T A n c L A2 n2 c2 LS fa fk :=
  ⟨h.box, hG _ h.gm, h.row, h.cap, h.row2, h.cap2, h.ids, h.ids2, fun f hf => (h.files f hf).mono hG (fun i hi => hi), h.inj, h.few, h.few2, h.hi, fun i hi => hG i (h.rsub i hi), h.rm, h.rf, hlt⟩
theorem RfAt.c0 (h : RfAt w G R m N file ρ T A n c L A2 n2 c2 LS fa fk) : w.cell? ⟨m, 0, none⟩ = some (.int .i64 (N : Int)) := by rw [cell_of_row w m 0 _ _ (0, 0) h.box]; rfl
theorem RfAt.c1 (h : RfAt w G R m N file ρ T A n c L A2 n2 c2 LS fa fk) : w.cell? ⟨m, 1, none⟩ = some (.slice A n c) := by rw [cell_of_row w m 1 _ _ (0, 0) h.box]; rfl
theorem RfAt.c2' (h : RfAt w G R m N file ρ T A n c L A2 n2 c2 LS fa fk) : w.cell? ⟨m, 2, none⟩ = some (.slice A2 n2 c2) := by rw [cell_of_row w m 2 _ _ (0, 0) h.box]; rfl
theorem RfAt.thaw (h : RfAt w G R m N file ρ T A n c L A2 n2 c2 LS fa fk) (k : Nat) : w.frozen? ⟨m, k, none⟩ = false := by simp [World.frozen?, h.box]
theorem RfAt.nlen (h : RfAt w G R m N file ρ T A n c L A2 n2 c2 LS fa fk) : n = L.length := by have := h.row.len; rw [rowOf_len] at this; omega
theorem RfAt.nlen2 (h : RfAt w G R m N file ρ T A n c L A2 n2 c2 LS fa fk) : n2 = LS.length := by have := h.row2.len; rw [rowOf_len] at this; omega
/-- a name, and its file, where they lie -/
theorem pair_at {xs : NL} (h : LiesIn w G 2 A n (rowOf ρ xs)) {i : Nat} (hi : i < n) : ∃ b o e, A = some ⟨b, o, none⟩ ∧ G b ∧ xs[i]? = some e ∧ w.cell? ⟨b, o + i * 2, none⟩ = some (sv e.1) ∧ w.cell? ⟨b, o + i * 2 + 1, none⟩ = some (fp (ρ e.2)) := by
  have hlen : xs.length = n := by have := h.len; rw [rowOf_len] at this; omega
  have hx : xs[i]? = some (xs[i]'(by omega)) := List.getElem?_eq_getElem _
  obtain ⟨g1, g2⟩ := rowOf_get ρ xs hx
  obtain ⟨ad, u, e1, hg, hu, hc⟩ := h.spot (i * 2) (by rw [rowOf_len]; omega)
  obtain ⟨ad', u', e2, _, hu', hc'⟩ := h.spot (i * 2 + 1) (by rw [rowOf_len]; omega)
  obtain ⟨b, o, sp⟩ := ad
  have hsp : sp = none := by
    obtain ⟨ad0, u0, e0, _, _, hc0⟩ := h.spot 0 (by rw [rowOf_len]; omega)
    rw [e1] at e0; injection e0 with e0; subst e0
    simpa [Addr.add] using World.cell?_spot hc0
  subst hsp
  rw [e1] at e2; injection e2 with e2; subst e2
  rw [add_lit] at hc hc'
  rw [g1] at hu; injection hu with hu; subst hu
  rw [g2] at hu'; injection hu' with hu'; subst hu'
  exact ⟨b, o, _, e1, hg, hx, hc, by rw [Nat.add_assoc]; exact hc'⟩
end

set_option maxHeartbeats 2000000 in
/-- may it be a name? -/
theorem rname_any (s : ByteArray) (w : World) (hs : s.size ≤ 140737488355328) : Calls Tryz.prog 49 #[.string s] w fun x w' => x = .returned (.bool (okName s.data.toList)) ∧ w' = w := by
  obtain ⟨l, hl⟩ : ∃ l, s.data.toList = l := ⟨_, rfl⟩
  have hsz : s.size = l.length := by rw [← hl, Array.length_toList]; rfl
  rw [hl]
  have HSZ := Lib.hid hsz; have HL := Lib.hid hl
  clear hl
  obtain ⟨n, hn⟩ : ∃ n, s.size = n := ⟨_, rfl⟩
  rw [hn] at hsz hs
  have HSN := Lib.hid hn
  go_enter Tryz.func49, Tryz.ntmps49
  go_wp2
  go_loopw [3] (fun i wr => NRel w l i wr) (fun i _ => n - (intOf i).toNat)
  case atStart => exact ⟨0, Nat.zero_le _, rfl, fun j hj => by omega, rfl⟩
  case round =>
    obtain ⟨k, hk, rfl, hz, rfl⟩ := hrel
    have HZ := Lib.hid hz
    clear hz
    by_cases hlt : k < n
    · obtain ⟨c, hc⟩ : ∃ c, l[k]? = some c := ⟨l[k]'(by omega), List.getElem?_eq_getElem _⟩
      have HC := Lib.hid hc
      have hget : s.data[k]? = some c := by rw [← hc, ← HL.out]; simp
      have hks : k < s.size := by omega
      have hsk : s[k] = c := by
        have h := hget
        rw [Array.getElem?_eq_getElem (show k < s.data.size from hks)] at h
        injection h
      have hcl := c.toNat_lt
      have HZ2 : Hid (okByte c = true → ∀ j, j < k + 1 → ∀ c', l[j]? = some c' → okByte c' = true) := fun hok j hj c' hc' => by
        by_cases hj2 : j < k
        · exact HZ.out j hj2 c' hc'
        · obtain rfl : j = k := by omega
          rw [HC.out] at hc'
          injection hc' with hc'
          rw [← hc', hok]
      have HBd : Hid (okByte c = false → okName l = false) := fun hok => by
        unfold okName
        rw [name_bad HC.out hok, Bool.and_false]
      clear hc hget
      subst hsk
      have hb : (okByte s[k] = true → (97 ≤ s[k].toNat ∧ s[k].toNat ≤ 122) ∨ (48 ≤ s[k].toNat ∧ s[k].toNat ≤ 57) ∨ s[k].toNat = 45 ∨ s[k].toNat = 46) ∧ (okByte s[k] = false → ¬ (97 ≤ s[k].toNat ∧ s[k].toNat ≤ 122) ∧ ¬ (48 ≤ s[k].toNat ∧ s[k].toNat ≤ 57) ∧ s[k].toNat ≠ 45 ∧ s[k].toNat ≠ 46) := by
        unfold okByte
        constructor
        · intro h; simp only [Bool.or_eq_true, decide_eq_true_eq] at h; omega
        · intro h; simp only [Bool.or_eq_false_iff, decide_eq_false_iff_not] at h; omega
      cases hok : okByte s[k] with
      | true =>
        have HZ3 := Lib.hid (HZ2.out hok)
        have h4 := hb.1 hok
        clear hb hok
        rcases h4 with ⟨b1, b2⟩ | ⟨b1, b2⟩ | b1 | b1
        · have e1 : (97 : Int) ≤ (s[k].toNat : Int) := by omega
          have e2 : (s[k].toNat : Int) ≤ 122 := by omega
          go_wp2
          go_roundw
          case rel => exact ⟨k + 1, by omega, by go_num, HZ3.out, rfl⟩
          case measure => simp [intOf]; omega
        · have e1 : (48 : Int) ≤ (s[k].toNat : Int) := by omega
          have e2 : (s[k].toNat : Int) ≤ 57 := by omega
          have e3 : (s[k].toNat : Int) < 97 := by omega
          go_wp2
          go_roundw
          case rel => exact ⟨k + 1, by omega, by go_num, HZ3.out, rfl⟩
          case measure => simp [intOf]; omega
        · have e1 : (s[k].toNat : Int) = 45 := by omega
          go_wp2
          go_roundw
          case rel => exact ⟨k + 1, by omega, by go_num, HZ3.out, rfl⟩
          case measure => simp [intOf]; omega
        · have e1 : (s[k].toNat : Int) = 46 := by omega
          go_wp2
          go_roundw
          case rel => exact ⟨k + 1, by omega, by go_num, HZ3.out, rfl⟩
          case measure => simp [intOf]; omega
      | false =>
        have HF := Lib.hid (HBd.out hok)
        obtain ⟨b1, b2, b3, b4⟩ := hb.2 hok
        have e5 : ((s[k].toNat : Int) != 45) = true := by simp; omega
        have e6 : ((s[k].toNat : Int) != 46) = true := by simp; omega
        clear hb hok
        by_cases c1 : s[k].toNat < 97
        · by_cases c2 : s[k].toNat < 48
          · have e1 : (s[k].toNat : Int) < 97 := by omega
            have e2 : (s[k].toNat : Int) < 48 := by omega
            go_wp2
            go_ret
            exact ⟨by rw [HF.out]; rfl, rfl⟩
          · have e1 : (s[k].toNat : Int) < 97 := by omega
            have e2 : (57 : Int) < (s[k].toNat : Int) := by omega
            have e3 : (48 : Int) ≤ (s[k].toNat : Int) := by omega
            go_wp2
            go_ret
            exact ⟨by rw [HF.out]; rfl, rfl⟩
        · have e1 : (122 : Int) < (s[k].toNat : Int) := by omega
          have e2 : (97 : Int) ≤ (s[k].toNat : Int) := by omega
          go_wp2
          go_ret
          exact ⟨by rw [HF.out]; rfl, rfl⟩
    · obtain rfl : n = k := by omega
      have HA : Hid (l.all okByte = true) := name_good (fun j hj => HZ.out j (by omega))
      have HN : Hid (okName l = (decide ((1 : Int) ≤ (n : Int)) && decide ((n : Int) ≤ 16))) := by
        show _ = _
        unfold okName
        rw [HA.out, Bool.and_true, ← hsz]
        by_cases h1 : 1 ≤ n <;> by_cases h2 : n ≤ 16
        · rw [decide_eq_true ⟨h1, h2⟩, decide_eq_true (by omega), decide_eq_true (by omega)]; rfl
        · rw [decide_eq_false (by omega), decide_eq_true (by omega), decide_eq_false (by omega)]; rfl
        · rw [decide_eq_false (by omega), decide_eq_false (by omega)]; rfl
        · rw [decide_eq_false (by omega), decide_eq_false (by omega)]; rfl
      by_cases h1 : 1 ≤ n
      · by_cases h2 : n ≤ 16
        · have e1 : (1 : Int) ≤ (n : Int) := by omega
          have e2 : (n : Int) ≤ 16 := by omega
          have HR : Hid (okName l = true) := by show _ = _; rw [HN.out, decide_eq_true e1, decide_eq_true e2]; rfl
          go_wp2
          go_ret
          exact ⟨by rw [HR.out]; first | rfl | (simp; done) | (simp; omega), rfl⟩
        · have e1 : (1 : Int) ≤ (n : Int) := by omega
          have e2 : (16 : Int) < (n : Int) := by omega
          have HR : Hid (okName l = false) := by show _ = _; rw [HN.out, decide_eq_false (show ¬ (n : Int) ≤ 16 by omega), Bool.and_false]
          go_wp2
          go_ret
          exact ⟨by rw [HR.out]; first | rfl | (simp; done) | (simp; omega), rfl⟩
      · have e1 : (n : Int) < 1 := by omega
        have HR : Hid (okName l = false) := by show _ = _; rw [HN.out, decide_eq_false (show ¬ (1 : Int) ≤ (n : Int) by omega), Bool.false_and]
        go_wp2
        go_ret
        exact ⟨by rw [HR.out]; first | rfl | (simp; done) | (simp; omega), rfl⟩

def FR (w : World) (n : Nat) (L : NL) (s : List UInt8) (i : Value) (wr : World) : Prop :=
  ∃ k : Nat, k ≤ n ∧ i = .int .i64 (k : Int) ∧ (∀ j, j < k → ∀ e, L[j]? = some e → e.1 ≠ s) ∧ wr = w
def idxV (o : Option Nat) : Int := match o with
  | some k => (k : Int)
  | none => -1
set_option maxHeartbeats 2000000 in
/-- where a name stands -/
theorem find_any {w : World} {m n c : Nat} {A : Option Addr} {L : NL} {ρ : Nat → Nat} {G : Nat → Prop} (hc : w.cell? ⟨m, 1, none⟩ = some (.slice A n c)) (hrow : LiesIn w G 2 A n (rowOf ρ L)) (hlen : n = L.length) (hn : n ≤ 100) (s : ByteArray) :
    Calls Tryz.prog 50 #[.pointer (some ⟨m, 0, none⟩), .string s] w fun x w' => x = .returned (.int .i64 (idxV (idx L s.data.toList))) ∧ w' = w := by
  have HR := Lib.hid hrow; have HL := Lib.hid hlen
  clear hrow hlen
  go_enter Tryz.func50, Tryz.ntmps50
  go_wp2
  go_loopw [5] (fun i wr => FR w n L s.data.toList i wr) (fun i _ => n - (intOf i).toNat)
  case atStart => exact ⟨0, Nat.zero_le _, rfl, fun j hj => by omega, rfl⟩
  case round =>
    obtain ⟨k, hk, rfl, hz, rfl⟩ := hrel
    have HZ := Lib.hid hz
    clear hz
    by_cases hlt : k < n
    · obtain ⟨b, o, e, rfl, hgb, he, q1, q2⟩ := pair_at HR.out hlt
      have HE := Lib.hid he
      obtain ⟨z, hz⟩ : ∃ z : ByteArray, z = ⟨e.1.toArray⟩ := ⟨_, rfl⟩
      have hzd : z.data.toList = e.1 := by rw [hz]
      replace q1 : wr.cell? ⟨b, o + k * 2, none⟩ = some (.string z) := by rw [hz]; exact q1
      have heq : (z.toList == s.toList) = decide (z = s) := txt_eqB _ _
      by_cases hs : e.1 = s.data.toList
      · have h1 : (z.toList == s.toList) = true := by
          rw [heq]; exact decide_eq_true (txt_ext (hzd.trans hs))
        have HF : Hid (idx L s.data.toList = some k) := idx_at (f := e.2) (by rw [HE.out, ← hs]) HZ.out
        clear heq hs he hz hzd
        go_wp2
        go_ret
        exact ⟨by rw [HF.out]; rfl, rfl⟩
      · have h1 : (z.toList == s.toList) = false := by
          rw [heq]; exact decide_eq_false (fun h => hs (by rw [← hzd, h]))
        have HZ2 : Hid (∀ j, j < k + 1 → ∀ e, L[j]? = some e → e.1 ≠ s.data.toList) := fun j hj e' he' => by
          by_cases hj2 : j < k
          · exact HZ.out j hj2 e' he'
          · obtain rfl : j = k := by omega
            rw [HE.out] at he'
            injection he' with he'
            rw [← he']; exact hs
        clear heq hs he hz hzd
        go_wp2
        go_roundw
        case rel => exact ⟨k + 1, hlt, by go_num, HZ2.out, rfl⟩
        case measure => simp [intOf]; omega
    · obtain rfl : n = k := by omega
      have HF : Hid (idx L s.data.toList = none) := idx_not (fun j hj => HZ.out j (by have := HL.out; omega))
      go_wp2
      go_ret
      exact ⟨by rw [HF.out]; rfl, rfl⟩
end Go.Proofs.YtbpdonnneleeeaaGreatDoor

namespace Go.Proofs.YtbpdonnneleeeaaGreatDoor
open Go.RowKit Go.Maps Go.Sort
set_option linter.unusedVariables false
set_option linter.unusedSectionVars false
set_option maxRecDepth 100000

theorem nm_info : (Tryz.prog.info? 106).map (fun i => (i.zero, i.size, i.bytes)) = some (some (.agg #[.string ByteArray.empty, .pointer none]), 2, 24) := by kernel_rfl
section
variable {w : World} {B k n m c : Nat} {A : Option Addr} {xs : List Value}
theorem Lies.takeN (h : Lies w B k A n xs) (hm : m ≤ n) : Lies w B k A m (xs.take (m * k)) := by
  have hl := h.len
  have hmk : m * k ≤ n * k := Nat.mul_le_mul_right _ hm
  refine ⟨by rw [List.length_take, hl]; exact Nat.min_eq_left hmk, fun j hj => ?_⟩
  rw [List.length_take, hl, Nat.min_eq_left hmk] at hj
  obtain ⟨ad, u, e, hb, hx, hc⟩ := h.spot j (by omega)
  exact ⟨ad, u, e, hb, by rw [List.getElem?_take, if_pos hj]; exact hx, hc⟩
/-- where 's[m:]' lies, of elements that are two cells each -/
def cutN (A : Option Addr) (c m : Nat) : Option Addr := if c = m then A else A.map (·.add (m * 2))
theorem Lies.cutN (h : Lies w B 2 A n xs) (hm : m ≤ n) (hc : n ≤ c) : Lies w B 2 (cutN A c m) (n - m) (xs.drop (m * 2)) := by
  have hl := h.len
  unfold Go.Proofs.YtbpdonnneleeeaaGreatDoor.cutN
  by_cases e : c = m
  · rw [if_pos e, show n - m = 0 from by omega, List.drop_eq_nil_of_le (by rw [hl, show m = n from by omega]; exact Nat.le_refl _)]
    exact Lies.none_ _ _ _ _
  · rw [if_neg e]
    refine ⟨by rw [List.length_drop, hl]; omega, fun j hj => ?_⟩
    rw [List.length_drop, hl] at hj
    obtain ⟨ad, u, rfl, hb, hx, hcc⟩ := h.spot (m * 2 + j) (by omega)
    exact ⟨ad.add (m * 2), u, rfl, by rw [add_block]; exact hb, by rw [List.getElem?_drop]; exact hx, by rw [add_add]; exact hcc⟩
end
theorem run_cutN (w : World) (A : Option Addr) (n c l : Nat) (h : l ≤ n) :
    (Instr.slice 86 (.slice A n c) (some (.int .i64 (l : Int))) none none).run Tryz.prog w = .ok (.slice (cutN A c l) (n - l) (c - l)) w := by
  obtain ⟨i0, hi, hz0, hz1, hz2⟩ := info_parts nm_info
  unfold Instr.slice cutN
  simp [run_underlying Tryz.underlying86, Instr.sliceBounds, Instr.sliceBound, asIntOf, sizeOf, typeInfo, hi, hz1, h]
theorem run_headN (w : World) (A : Option Addr) (n c h : Nat) (h3 : h ≤ c) :
    (Instr.slice 86 (.slice A n c) none (some (.int .i64 (h : Int))) none).run Tryz.prog w = .ok (.slice A h c) w := by
  obtain ⟨i0, hi, hz0, hz1, hz2⟩ := info_parts nm_info
  unfold Instr.slice
  simp [run_underlying Tryz.underlying86, Instr.sliceBounds, Instr.sliceBound, asIntOf, sizeOf, typeInfo, hi, h3]
  cases A <;> simp [Addr.add]
theorem sv_self (s : ByteArray) : sv s.data.toList = .string s := by show Value.string _ = _; rw [str_eq]
theorem ent_lies (w : World) (ρ : Nat → Nat) (e : List UInt8 × Nat) (g : Nat) (hg : w.heap.size = g) : Lies (w.alloc (.cells #[sv e.1, fp (ρ e.2)] 106)) (g + 1) 2 (some ⟨g, 0, none⟩) 1 (ent ρ e) := by
  subst hg
  refine ⟨rfl, fun j hj => ⟨_, (ent ρ e)[j], rfl, by simp, List.getElem?_eq_getElem hj, ?_⟩⟩
  rw [add_lit]
  have h : (w.alloc (.cells #[sv e.1, fp (ρ e.2)] 106)).heap[w.heap.size]? = some (.cells #[sv e.1, fp (ρ e.2)] 106 (0, 0)) := heap_alloc_new w _
  rw [Nat.zero_add, cell_of_row _ w.heap.size j _ _ (0, 0) h]
  match j, hj with
  | 0, _ => rfl
  | 1, _ => rfl
theorem ent_one (ρ : Nat → Nat) (e : List UInt8 × Nat) : ∀ u ∈ ent ρ e, u.oneCell' = true := by
  intro u hu
  simp only [ent, List.mem_cons, List.not_mem_nil, or_false] at hu
  rcases hu with rfl | rfl <;> rfl

section
variable {w w4 w5 : World} {G R : Nat → Prop} {m N : Nat} {file : Nat → FileC} {ρ : Nat → Nat} {T : Nat → Prop} {A A2 A' : Option Addr} {n c n2 c2 n' c' : Nat} {L LS L' : NL} {fa : Nat → Option Addr} {fk : Nat → Nat}
theorem rbox_set {W : World} {x y z v : Value} {t : TypeId} {j : Nat} (hw : W.heap[m]? = some (.cells #[x, y, z] t (0, 0))) : (W.setCell ⟨m, j, none⟩ v).heap[m]? = some (.cells (#[x, y, z].setIfInBounds j v) t (0, 0)) := by
  simp only [World.setCell, Array.getElem?_modify, if_pos, hw, Option.map_some, Option.isSome_none, Bool.false_eq_true, if_false]
/-- row memory, and a new row's block -/
def andOwn (R : Nat → Prop) (v : Value) (i : Nat) : Prop := R i ∨ v.ownBlock = some i
variable (h : RfAt w G R m N file ρ T A n c L A2 n2 c2 LS fa fk) (hB : Below w.heap.size w w4)
include h
theorem RfAt.mfile (f : Nat) (hf : T f) : ρ f ≠ m := fun e => by
  have h1 := (h.files f hf).cells
  rw [e, h.box] at h1
  injection h1 with h1; injection h1 with h1 h2; exact absurd h2 (by decide)
include hB
/-- the struct's cell j is written; nothing else that was there -/
theorem row_turn {j : Nat} {v : Value} (hw : w5 = w4.setCell ⟨m, j, none⟩ v) : Turn G w w5 ∧ w5.heap.size = w4.heap.size ∧ (∀ i, i ≠ m → w5.heap[i]? = w4.heap[i]?) := by
  have hx : ∀ i, i ≠ m → w5.heap[i]? = w4.heap[i]? := fun i hi => by rw [hw]; exact Below.heap_setCell _ _ _ _ hi
  have hz : w5.heap.size = w4.heap.size := by rw [hw]; simp [World.setCell]
  have hs := hB.size
  exact ⟨⟨by rw [hw]; exact hB.os, by rw [hw]; exact hB.tape, by rw [hw]; exact hB.output, by omega, fun i hi hn => (hx i (fun e => hn (by rw [e]; exact h.gm))).trans (hB.block i hi)⟩, hz, hx⟩
/-- a new row of names as they are, or as they are durable -/
theorem mk_row (d : Bool) (ho : w4.ownsRow w.heap.size 106 2 (.slice A' n' c') n' (rowOf ρ L')) (hw : w5 = w4.setCell ⟨m, if d then 2 else 1, none⟩ (.slice A' n' c')) (hid : ∀ e ∈ L', T e.2) (hl : L'.length ≤ 70) :
    Turn G w w5 ∧ RfAt w5 (more G w w5) (andOwn R (.slice A' n' c')) m N file ρ T (if d then A else A') (if d then n else n') (if d then c else c') (if d then L else L') (if d then A' else A2) (if d then n' else n2) (if d then c' else c2) (if d then L' else LS) fa fk := by
  obtain ⟨hT, hz, hx⟩ := row_turn h hB hw
  have hs := hB.size
  have h4 := h.below hB
  have hbx := h4.box
  have hx4 : ∀ i, R i → w5.heap[i]? = w4.heap[i]? := fun i hi => hx i (h.rm i hi)
  have hown := ho.lt
  obtain ⟨_, _, he, hnc, hcm, _⟩ := own_shape ho
  injection he with e1 e2 e3
  subst e1 e3
  have ho5 : w5.ownsRow w.heap.size 106 2 (.slice A' n' c') n' (rowOf ρ L') := by
    refine ⟨ho.1, ?_⟩
    rcases ho.2 with h2 | ⟨g, cap, cur, hv, hg, hh, r⟩
    · exact .inl h2
    · exact .inr ⟨g, cap, cur, hv, hg, (hx g (by have := h.lt m h.gm; omega)).trans hh, r⟩
  have hnew : LiesIn w5 (andOwn R (.slice A' n' c')) 2 A' n' (rowOf ρ L') := LiesIn.of_own ho5 fun g hg => .inr hg
  have hR : ∀ i, R i → andOwn R (.slice A' n' c') i := fun i hi => .inl hi
  have hfile : ∀ f, T f → RFile w5 (more G w w5) (andOwn R (.slice A' n' c')) (ρ f) (file f) (fa f) (fk f) := fun f hf => ((h4.files f hf).keep (hx _ (h.mfile f hf)) hx4).mono (fun i hi => .inl hi) hR
  have hsub : ∀ i, andOwn R (.slice A' n' c') i → more G w w5 i := fun i hi => by
    rcases hi with hi | hi
    · exact .inl (h.rsub i hi)
    · have := hown i hi; exact .inr ⟨this.1, by omega⟩
  have hrm : ∀ i, andOwn R (.slice A' n' c') i → i ≠ m := fun i hi => by
    rcases hi with hi | hi
    · exact h.rm i hi
    · have := hown i hi; have := h.lt m h.gm; omega
  have hrf : ∀ i f, andOwn R (.slice A' n' c') i → T f → i ≠ ρ f := fun i f hi hf => by
    rcases hi with hi | hi
    · exact h.rf i f hi hf
    · have := hown i hi; have := h.lt _ (h.files f hf).mem; omega
  have hlt : ∀ i, more G w w5 i → i < w5.heap.size := more_lt h.lt (by omega)
  refine ⟨hT, ?_⟩
  cases d
  · refine ⟨?_, .inl h.gm, hnew, ⟨hnc, hcm⟩, (h4.row2.keep hx4).mono hR, h.cap2, hid, h.ids2, hfile, h.inj, hl, h.few2, h.hi, hsub, hrm, hrf, hlt⟩
    rw [hw]; exact rbox_set hbx
  · refine ⟨?_, .inl h.gm, (h4.row.keep hx4).mono hR, h.cap, hnew, ⟨hnc, hcm⟩, h.ids, hid, hfile, h.inj, h.few, hl, h.hi, hsub, hrm, hrf, hlt⟩
    rw [hw]; exact rbox_set hbx
end

set_option maxHeartbeats 2000000 in
/-- drop: a name, out of the row -/
theorem drop_any {w : World} {G R : Nat → Prop} {m N : Nat} {file : Nat → FileC} {ρ : Nat → Nat} {T : Nat → Prop} {A A2 : Option Addr} {n c n2 c2 : Nat} {L LS : NL} {fa : Nat → Option Addr} {fk : Nat → Nat} (h : RfAt w G R m N file ρ T A n c L A2 n2 c2 LS fa fk) (k : Nat) (hk : k < L.length) :
    Calls Tryz.prog 53 #[.pointer (some ⟨m, 0, none⟩), .int .i64 (k : Int)] w fun x w' => x = .returned (.tuple #[]) ∧ Turn G w w' ∧ ∃ A' n' c' R', RfAt w' (more G w w') R' m N file ρ T A' n' c' (drp L k) A2 n2 c2 LS fa fk := by
  obtain ⟨i0, hi, hz0, hz1, hz2⟩ := info_parts nm_info
  have hn := h.nlen
  have hfew := h.few
  have c1 := h.c1
  have hkn : k < n := by omega
  have hnc := h.cap.1
  have hcm := h.cap.2
  have HH := Lib.hid h
  have HL : Hid (Lies w w.heap.size 2 A n (rowOf ρ L)) := h.row.lies (fun i hi => h.lt i (h.rsub i hi))
  have hr1 : ∀ W, (Instr.slice 86 (.slice A n c) none (some (.int .i64 (k : Int))) none).run Tryz.prog W = .ok (.slice A k c) W := fun W => run_headN W A n c k (by omega)
  have hr2 : ∀ W, (Instr.slice 86 (.slice A n c) (some (.int .i64 ((k : Int) + 1))) none none).run Tryz.prog W = .ok (.slice (cutN A c (k + 1)) (n - (k + 1)) (c - (k + 1))) W := fun W => run_cutN W A n c (k + 1) (by omega)
  have hn70 : n ≤ 70 := by omega
  have HN := Lib.hid hn; have HK := Lib.hid hk
  unfold maxLen at hcm
  clear h hn hfew hk
  go_enter Tryz.func53, Tryz.ntmps53
  go_wp2_with (at_builtin; refine wpList_app _ rfl (.tmp 5) (.tmp 11) 86 rfl w.heap.size 106 i0 _ 2 24 Tryz.underlying86 hi hz0 hz1 hz2 rfl (by decide) (.slice none 0 0) 0 [] rfl (World.ownsRow_nil _ _ _ _) w.heap.size A k c ((rowOf ρ L).take (k * 2)) rfl (HL.out.takeN (by omega)) (fun u hu => rowOf_one ρ L u (List.mem_of_mem_take hu)) (by unfold maxLen; omega) (by omega) (Nat.le_refl _) ?_)
  intro v1 w1 hown1 hg1 _
  have hb1 : Below w.heap.size w w1 := (Below.refl _ _).grown hg1 (Nat.le_refl _) (fun j hj => by cases hj)
  have c1' : w1.cell? ⟨m, 1, none⟩ = some (.slice A n c) := (HH.out.below hb1).c1
  have HO1 := Lib.hid hown1; have HB1 := Lib.hid hb1
  clear hown1 hg1 hb1 c1
  go_wp2_with (at_builtin; refine wpList_app _ rfl (.tmp 14) (.tmp 21) 86 rfl w.heap.size 106 i0 _ 2 24 Tryz.underlying86 hi hz0 hz1 hz2 rfl (by decide) v1 k ((rowOf ρ L).take (k * 2)) rfl HO1.out w.heap.size (cutN A c (k + 1)) (n - (k + 1)) (c - (k + 1)) ((rowOf ρ L).drop ((k + 1) * 2)) rfl ((HL.out.below HB1.out).cutN (by omega) hnc) (fun u hu => rowOf_one ρ L u (List.mem_of_mem_drop hu)) (by unfold maxLen; omega) (by omega) HB1.out.size ?_)
  intro v2 w2 hown2 hg2 _
  have hb2 : Below w.heap.size w w2 := HB1.out.grown hg2 HB1.out.size (fun j hj => (HO1.out.lt j hj).1)
  obtain ⟨A', c', rfl, _⟩ := own_shape hown2
  rw [rowOf_take, rowOf_drop, ← rowOf_app] at hown2
  have hfz : w2.frozen? ⟨m, 1, none⟩ = false := (HH.out.below hb2).thaw 1
  have c2' : w2.cell? ⟨m, 1, none⟩ = some (.slice A n c) := (HH.out.below hb2).c1
  have HE := Lib.hid (mk_row (w5 := w2.setCell ⟨m, 1, none⟩ (.slice A' (k + (n - (k + 1))) c')) (L' := drp L k) HH.out hb2 false hown2 rfl (fun e he => HH.out.ids e (by
    rcases List.mem_append.1 he with he | he
    · exact List.mem_of_mem_take he
    · exact List.mem_of_mem_drop he)) (by unfold drp; have := HN.out; simp; omega))
  clear hown2 hg2 hb2 c1'
  go_wp2
  go_end0
  exact ⟨rfl, HE.out.1, _, _, _, _, HE.out.2⟩

def LdR (w : World) (n : Nat) (L : NL) (s : List UInt8) (i : Value) (wr : World) : Prop :=
  ∃ k : Nat, k ≤ n ∧ i = .int .i64 (k : Int) ∧ (∀ j, j < k → ∀ e, L[j]? = some e → e.1 < s) ∧ wr = w
set_option maxHeartbeats 4000000 in
/-- lead: a name, to a file, into the row -/
theorem lead_any {w : World} {G R : Nat → Prop} {m N : Nat} {file : Nat → FileC} {ρ : Nat → Nat} {T : Nat → Prop} {A A2 : Option Addr} {n c n2 c2 : Nat} {L LS : NL} {fa : Nat → Option Addr} {fk : Nat → Nat} (h : RfAt w G R m N file ρ T A n c L A2 n2 c2 LS fa fk) (s : ByteArray) (f : Nat) (hf : T f) (hl : L.length ≤ 69) :
    Calls Tryz.prog 51 #[.pointer (some ⟨m, 0, none⟩), .string s, fp (ρ f)] w fun x w' => x = .returned (.tuple #[]) ∧ Turn G w w' ∧ ∃ A' n' c' R', RfAt w' (more G w w') R' m N file ρ T A' n' c' (ins L s.data.toList f) A2 n2 c2 LS fa fk := by
  obtain ⟨i0, hi, hz0, hz1, hz2⟩ := info_parts nm_info
  have hn := h.nlen
  have c1 := h.c1
  have hnc := h.cap.1
  have hcm := h.cap.2
  have HH := Lib.hid h
  have HL : Hid (Lies w w.heap.size 2 A n (rowOf ρ L)) := h.row.lies (fun i hi => h.lt i (h.rsub i hi))
  have HRw := Lib.hid h.row
  have hn70 : n ≤ 69 := by omega
  have HN := Lib.hid hn; have HF := Lib.hid hf
  unfold maxLen at hcm
  clear h hn hl hf
  go_enter Tryz.func51, Tryz.ntmps51
  go_wp2
  go_loopw [7] (fun i wr => LdR w n L s.data.toList i wr) (fun i _ => n - (intOf i).toNat)
  case atStart => exact ⟨0, Nat.zero_le _, rfl, fun j hj => by omega, rfl⟩
  case round =>
    obtain ⟨k, hk, rfl, hz, rfl⟩ := hrel
    have HZ := Lib.hid hz
    clear hz
    have key : Hid (k < n → ∀ e, L[k]? = some e → e.1 < s.data.toList → ∀ j, j < k + 1 → ∀ e, L[j]? = some e → e.1 < s.data.toList) := fun hlt e he hes j hj e' he' => by
      by_cases hj2 : j < k
      · exact HZ.out j hj2 e' he'
      · obtain rfl : j = k := by omega
        rw [he] at he'; injection he' with he'; rw [← he']; exact hes
    by_cases hin : ∃ e, L[k]? = some e ∧ e.1 < s.data.toList
    · obtain ⟨e, he, hes⟩ := hin
      have hlt : k < n := by have := (List.getElem?_eq_some_iff.1 he).1; have := HN.out; omega
      obtain ⟨b, o, e', rfl, hgb, he', q1, q2⟩ := pair_at HRw.out hlt
      rw [he] at he'; injection he' with he'; subst he'
      have HZ2 := Lib.hid (key.out hlt e he hes)
      obtain ⟨z, hz⟩ : ∃ z : ByteArray, z = ⟨e.1.toArray⟩ := ⟨_, rfl⟩
      have hzd : z.data.toList = e.1 := by rw [hz]
      replace q1 : wr.cell? ⟨b, o + k * 2, none⟩ = some (.string z) := by rw [hz]; exact q1
      have h1 : Op.bytesLess z.toList s.toList = true := by
        rw [Lib.toList_data, Lib.toList_data, hzd]; exact (less_lt _ _).2 hes
      clear he hes hz hzd key
      go_wp2
      go_roundw
      case rel => exact ⟨k + 1, hlt, by go_num, HZ2.out, rfl⟩
      case measure => simp [intOf]; omega
    · have hah : ahead s.data.toList L = k := ahead_is HZ.out (by have := HN.out; omega) (fun e he hes => hin ⟨e, he, hes⟩)
      have HAh := Lib.hid hah
      have hlies : Lies wr wr.heap.size 2 A k ((rowOf ρ L).take (k * 2)) := HL.out.takeN hk
      have hliesd : Lies wr wr.heap.size 2 (cutN A c k) (n - k) ((rowOf ρ L).drop (k * 2)) := HL.out.cutN hk hnc
      have HT := Lib.hid hlies; have HD := Lib.hid hliesd
      have hr1 : ∀ W, (Instr.slice 86 (.slice A n c) none (some (.int .i64 (k : Int))) none).run Tryz.prog W = .ok (.slice A k c) W := fun W => run_headN W A n c k (by omega)
      have hr2 : ∀ W, (Instr.slice 86 (.slice A n c) (some (.int .i64 (k : Int))) none none).run Tryz.prog W = .ok (.slice (cutN A c k) (n - k) (c - k)) W := fun W => run_cutN W A n c k hk
      have hstep : Hid (∀ (Q : Prop), (∀ (hge : k = n), Q) → (∀ (hlt : k < n) (b o : Nat) (z : ByteArray), A = some ⟨b, o, none⟩ → wr.cell? ⟨b, o + k * 2, none⟩ = some (.string z) → Op.bytesLess z.toList s.toList = false → Q) → Q) := fun Q h1 h2 => by
        by_cases hlt : k < n
        · obtain ⟨b, o, e, hA, hgb, he, q1, q2⟩ := pair_at HRw.out hlt
          refine h2 hlt b o ⟨e.1.toArray⟩ hA q1 ?_
          rw [Lib.toList_data, Lib.toList_data]
          exact Bool.eq_false_iff.2 fun x => hin ⟨e, he, (less_lt _ _).1 x⟩
        · exact h1 (by omega)
      clear hah hlies hliesd hin key
      refine hstep.out _ (fun hge => ?_) (fun hlt b o z hA q1 h1 => ?_)
      · have hlt' : ¬ (k : Int) < (n : Int) := by omega
        clear hge
        have hnk : n - k ≤ 69 := by omega
        have HNk := Lib.hid hnk
        clear hnk hstep
        go_wp2_with (at_builtin; refine wpList_app _ rfl (.tmp 29) (.tmp 35) 86 rfl wr.heap.size 106 i0 _ 2 24 Tryz.underlying86 hi hz0 hz1 hz2 rfl (by decide) (.slice none 0 0) 0 [] rfl (World.ownsRow_nil _ _ _ _) wr.heap.size A k c ((rowOf ρ L).take (k * 2)) rfl HT.out (fun u hu => rowOf_one ρ L u (List.mem_of_mem_take hu)) (by unfold maxLen; omega) (by omega) (Nat.le_refl _) ?_)
        intro v1 w1 hown1 hg1 _
        have hb1 : Below wr.heap.size wr w1 := (Below.refl _ _).grown hg1 (Nat.le_refl _) (fun j hj => by cases hj)
        have HO1 := Lib.hid hown1
        have HB1 := Lib.hid hb1
        clear hown1 hg1 hb1
        go_wp2_with (at_builtin; refine wpList_app _ rfl (.tmp 36) (.tmp 40) 86 rfl wr.heap.size 106 i0 _ 2 24 Tryz.underlying86 hi hz0 hz1 hz2 rfl (by decide) v1 k ((rowOf ρ L).take (k * 2)) rfl (HO1.out.alloc _) (w1.heap.size + 1) (some ⟨w1.heap.size, 0, none⟩) 1 1 (ent ρ (s.data.toList, f)) rfl ?l1 (ent_one ρ _) (by unfold maxLen; omega) (by omega) ?l2 ?_)
        case l1 =>
          have := ent_lies w1 ρ (s.data.toList, f) w1.heap.size rfl
          rw [show sv (s.data.toList, f).1 = .string s from sv_self s] at this; exact this
        case l2 => have := HB1.out.size; simp; omega
        intro v2 w2 hown2 hg2 _
        have hb2 : Below wr.heap.size wr w2 := (HB1.out.alloc HB1.out.size _).grown hg2 (by have := HB1.out.size; simp; omega) (fun j hj => (HO1.out.lt j hj).1)
        have HO2 := Lib.hid hown2; have HB2 := Lib.hid hb2
        have c1' : w2.cell? ⟨m, 1, none⟩ = some (.slice A n c) := (HH.out.below hb2).c1
        clear hown2 hg2 hb2
        go_wp2_with (at_builtin; refine wpList_app _ rfl (.tmp 43) (.tmp 49) 86 rfl wr.heap.size 106 i0 _ 2 24 Tryz.underlying86 hi hz0 hz1 hz2 rfl (by decide) v2 (k + 1) ((rowOf ρ L).take (k * 2) ++ ent ρ (s.data.toList, f)) rfl HO2.out wr.heap.size (cutN A c k) (n - k) (c - k) ((rowOf ρ L).drop (k * 2)) rfl (HD.out.below HB2.out) (fun u hu => rowOf_one ρ L u (List.mem_of_mem_drop hu)) (by have := HNk.out; unfold maxLen; omega) (by have := HNk.out; omega) HB2.out.size ?_)
        intro v3 w3 hown3 hg3 _
        have hb3 : Below wr.heap.size wr w3 := HB2.out.grown hg3 HB2.out.size (fun j hj => (HO2.out.lt j hj).1)
        obtain ⟨A', c', rfl, _⟩ := own_shape hown3
        have hrow : (rowOf ρ L).take (k * 2) ++ (ent ρ (s.data.toList, f) ++ (rowOf ρ L).drop (k * 2)) = rowOf ρ (ins L s.data.toList f) := by
          unfold ins
          rw [HAh.out, rowOf_app, rowOf_app, rowOf_take, rowOf_drop, List.append_assoc]
          rfl
        rw [hrow] at hown3
        have hfz : w3.frozen? ⟨m, 1, none⟩ = false := (HH.out.below hb3).thaw 1
        have c1'' : w3.cell? ⟨m, 1, none⟩ = some (.slice A n c) := (HH.out.below hb3).c1
        have HE := Lib.hid (mk_row (w5 := w3.setCell ⟨m, 1, none⟩ (.slice A' (k + 1 + (n - k)) c')) (L' := ins L s.data.toList f) HH.out hb3 false hown3 rfl (fun e he => by
          rcases mem_ins.1 he with rfl | he
          · exact HF.out
          · exact HH.out.ids e he) (by rw [len_ins]; have := HN.out; omega))
        clear hown3 hg3 hb3 hrow c1'
        go_wp2
        go_end0
        exact ⟨rfl, HE.out.1, _, _, _, _, HE.out.2⟩
      · subst hA
        have hnk : n - k ≤ 69 := by omega
        have HNk := Lib.hid hnk
        clear hnk hstep
        go_wp2_with (at_builtin; refine wpList_app _ rfl (.tmp 29) (.tmp 35) 86 rfl wr.heap.size 106 i0 _ 2 24 Tryz.underlying86 hi hz0 hz1 hz2 rfl (by decide) (.slice none 0 0) 0 [] rfl (World.ownsRow_nil _ _ _ _) wr.heap.size (some ⟨b, o, none⟩) k c ((rowOf ρ L).take (k * 2)) rfl HT.out (fun u hu => rowOf_one ρ L u (List.mem_of_mem_take hu)) (by unfold maxLen; omega) (by omega) (Nat.le_refl _) ?_)
        intro v1 w1 hown1 hg1 _
        have hb1 : Below wr.heap.size wr w1 := (Below.refl _ _).grown hg1 (Nat.le_refl _) (fun j hj => by cases hj)
        have HO1 := Lib.hid hown1
        have HB1 := Lib.hid hb1
        clear hown1 hg1 hb1
        go_wp2_with (at_builtin; refine wpList_app _ rfl (.tmp 36) (.tmp 40) 86 rfl wr.heap.size 106 i0 _ 2 24 Tryz.underlying86 hi hz0 hz1 hz2 rfl (by decide) v1 k ((rowOf ρ L).take (k * 2)) rfl (HO1.out.alloc _) (w1.heap.size + 1) (some ⟨w1.heap.size, 0, none⟩) 1 1 (ent ρ (s.data.toList, f)) rfl ?l1 (ent_one ρ _) (by unfold maxLen; omega) (by omega) ?l2 ?_)
        case l1 =>
          have := ent_lies w1 ρ (s.data.toList, f) w1.heap.size rfl
          rw [show sv (s.data.toList, f).1 = .string s from sv_self s] at this; exact this
        case l2 => have := HB1.out.size; simp; omega
        intro v2 w2 hown2 hg2 _
        have hb2 : Below wr.heap.size wr w2 := (HB1.out.alloc HB1.out.size _).grown hg2 (by have := HB1.out.size; simp; omega) (fun j hj => (HO1.out.lt j hj).1)
        have HO2 := Lib.hid hown2; have HB2 := Lib.hid hb2
        have c1' : w2.cell? ⟨m, 1, none⟩ = some (.slice (some ⟨b, o, none⟩) n c) := (HH.out.below hb2).c1
        clear hown2 hg2 hb2
        go_wp2_with (at_builtin; refine wpList_app _ rfl (.tmp 43) (.tmp 49) 86 rfl wr.heap.size 106 i0 _ 2 24 Tryz.underlying86 hi hz0 hz1 hz2 rfl (by decide) v2 (k + 1) ((rowOf ρ L).take (k * 2) ++ ent ρ (s.data.toList, f)) rfl HO2.out wr.heap.size (cutN (some ⟨b, o, none⟩) c k) (n - k) (c - k) ((rowOf ρ L).drop (k * 2)) rfl (HD.out.below HB2.out) (fun u hu => rowOf_one ρ L u (List.mem_of_mem_drop hu)) (by have := HNk.out; unfold maxLen; omega) (by have := HNk.out; omega) HB2.out.size ?_)
        intro v3 w3 hown3 hg3 _
        have hb3 : Below wr.heap.size wr w3 := HB2.out.grown hg3 HB2.out.size (fun j hj => (HO2.out.lt j hj).1)
        obtain ⟨A', c', rfl, _⟩ := own_shape hown3
        have hrow : (rowOf ρ L).take (k * 2) ++ (ent ρ (s.data.toList, f) ++ (rowOf ρ L).drop (k * 2)) = rowOf ρ (ins L s.data.toList f) := by
          unfold ins
          rw [HAh.out, rowOf_app, rowOf_app, rowOf_take, rowOf_drop, List.append_assoc]
          rfl
        rw [hrow] at hown3
        have hfz : w3.frozen? ⟨m, 1, none⟩ = false := (HH.out.below hb3).thaw 1
        have c1'' : w3.cell? ⟨m, 1, none⟩ = some (.slice (some ⟨b, o, none⟩) n c) := (HH.out.below hb3).c1
        have HE := Lib.hid (mk_row (w5 := w3.setCell ⟨m, 1, none⟩ (.slice A' (k + 1 + (n - k)) c')) (L' := ins L s.data.toList f) HH.out hb3 false hown3 rfl (fun e he => by
          rcases mem_ins.1 he with rfl | he
          · exact HF.out
          · exact HH.out.ids e he) (by rw [len_ins]; have := HN.out; omega))
        clear hown3 hg3 hb3 hrow c1'
        go_wp2
        go_end0
        exact ⟨rfl, HE.out.1, _, _, _, _, HE.out.2⟩
end Go.Proofs.YtbpdonnneleeeaaGreatDoor

