/-
  Words of FilesTwice: what is left of a disk beside that disk, told apart; rows that a call on another disk leaves alone; what files have, name by name.
-/
import Derived.Test.YteelmgmigfeabaaSure
namespace Go.Proofs.Yteelmgmigfeabaa
open Go.RowKit Go.Maps Go.Sort
set_option linter.unusedVariables false
set_option linter.unusedSectionVars false

/-- what a name's file has -/
def textOf (C : St) (k : List UInt8) : ByteArray := ⟨((C.file ((look C.pres k).getD 0)).bytes).toArray⟩
abbrev tv (C : St) (k : List UInt8) : Value := .string (textOf C k)
/-- all of it is durable -/
def Full (C : St) : Prop := ∀ k b, look C.pres k = some b → (C.file b).sure = (C.file b).bytes.length

theorem cut_full (m : Nat) (c : FileC) (h : c.sure = c.bytes.length) : (cutC m c).bytes = c.bytes := by
  show c.bytes.take (c.sure + min m (c.bytes.length - c.sure)) = _
  rw [List.take_of_length_le (by omega)]
theorem cut_sured (k : Nat) (c : FileC) (h : c.sure ≤ c.bytes.length) : (cutC k c).sure = (cutC k c).bytes.length := by
  show c.sure + min k (c.bytes.length - c.sure) = (c.bytes.take (c.sure + min k (c.bytes.length - c.sure))).length
  rw [List.length_take]; omega
theorem fail_look {S C : St} {D : Dir} {keep : Nat} (h : FailSpec S D keep C) {k : List UInt8} {b : Nat} (hb : look C.pres k = some b) : ∃ f, look D k = some f ∧ C.file b = cutC keep (S.file f) := by
  obtain ⟨h1, h2⟩ := h.2.2 k
  cases hk : look D k with
  | none => rw [h1 hk] at hb; cases hb
  | some f =>
    obtain ⟨b', hb', hc⟩ := h2 f hk
    rw [hb] at hb'; injection hb' with hb'
    exact ⟨f, rfl, by rw [hb']; exact hc⟩
theorem fail_full {S C : St} {D : Dir} {keep : Nat} (h : FailSpec S D keep C) (hs : ∀ k f, look D k = some f → (S.file f).sure ≤ (S.file f).bytes.length) : Full C := fun k b hb => by
  obtain ⟨f, hf, hc⟩ := fail_look h hb
  rw [hc]; exact cut_sured keep _ (hs k f hf)
theorem fail_named {S C : St} {D : Dir} {keep : Nat} (h : FailSpec S D keep C) (hn : ∀ k f, look D k = some f → okName k = true) : Named C := by
  have h1 : ∀ k f, look C.pres k = some f → okName k = true := fun k b hb => by
    obtain ⟨f, hf, _⟩ := fail_look h hb
    exact hn k f hf
  exact ⟨h1, by rw [h.2.1]; exact h1⟩
/-- failed once more, it has the same -/
theorem again_text {C B : St} {m : Nat} (h : FailSpec C C.pres m B) (hf : Full C) {k : List UInt8} {b : Nat} (hk : look C.pres k = some b) : ∃ b', look B.pres k = some b' ∧ (B.file b').bytes = (C.file b).bytes := by
  obtain ⟨b', h1, h2⟩ := (h.2.2 k).2 b hk
  exact ⟨b', h1, by rw [h2]; exact cut_full m _ (hf k b hk)⟩
theorem new_named (n : Nat) : Named (St.new n) := ⟨fun k f h => (by cases h), fun k f h => (by cases h)⟩
theorem mem_list {C : St} (hD : DirOK C.pres) (hT : Tidy C.pres) {i : Nat} {k : List UInt8} (h : C.list[i]? = some k) : ∃ f, look C.pres k = some f := by
  have h1 : k ∈ C.list := List.mem_of_getElem? h
  have h2 : k ∈ strKeys C.pres := List.mem_mergeSort.1 h1
  exact Option.isSome_iff_exists.1 ((key_look hD hT k).1 h2)
theorem name_size {k : List UInt8} (h : okName k = true) : (⟨k.toArray⟩ : ByteArray).size ≤ 140737488355328 := by
  have h1 : k.length ≤ 16 := by
    unfold okName at h
    rw [Bool.and_eq_true] at h
    exact (of_decide_eq_true h.1).2
  show k.toArray.size ≤ _
  rw [List.size_toArray]; omega

/-- what a crash leaves, and the disk that failed, told apart -/
theorem fail_open {w0 w : World} {d : Nat} {S : St} (h : At w0 w d S) (keep : Nat) (hk : keep ≤ 9223372036854775807) (names : Bool) :
    Calls Try.prog 14 #[dp d, .int .i64 (keep : Int), .bool names] w fun x w' => ∃ c C F G, x = .returned (.tuple #[dp c, er 0]) ∧ Below w.heap.size w w' ∧ Disk w' F d S ∧ Disk w' G c C ∧ (∀ i, G i → ¬ F i) ∧ (∀ i, F i → w0.heap.size ≤ i) ∧ (∀ i, G i → w0.heap.size ≤ i) ∧ Below w0.heap.size w0 w' ∧
      C.dur = C.pres ∧ Full C ∧ (Named S → Named C) ∧ (names = true → ∀ k, (look C.pres k).isSome = (look S.pres k).isSome) := by
  have hlive : ∀ f, S.live f → (S.file f).sure ≤ (S.file f).bytes.length := fun f hf => by obtain ⟨F, ⟨pm, dm, val, hD⟩, _⟩ := h; exact (hD.files f hf).sure
  refine (pair_fail h keep hk names).mono fun x w' ⟨c, C, hx, hb, ⟨F, G, h1, h2, h3, h4, h5, h6⟩, hs⟩ => ⟨c, C, F, G, hx, hb, h1, h2, h3, h4, h5, h6, hs.2.1, ?_, ?_, ?_⟩
  · refine fail_full hs fun k f hf => hlive f ?_
    cases names
    · exact .inr ⟨k, hf⟩
    · exact .inl ⟨k, hf⟩
  · intro hn
    refine fail_named hs ?_
    cases names
    · exact hn.2
    · exact hn.1
  · intro e k
    subst e
    exact fail_names hs k

/-- a row that lies behind all of a disk stays -/
theorem own_turn {w w' : World} {F : Nat → Prop} {base e k n : Nat} {v : Value} {xs : List Value} (h : w.ownsRow base e k v n xs) (ht : Turn F w w') (hF : ∀ i, F i → i < base) : w'.ownsRow base e k v n xs := by
  refine ⟨h.1, ?_⟩
  rcases h.2 with h2 | ⟨g, cap, cur, hv, hg, hh, r⟩
  · exact .inl h2
  · exact .inr ⟨g, cap, cur, hv, hg, (ht.block g (Array.getElem?_eq_some_iff.1 hh).1 (fun hf => by have := hF g hf; omega)).trans hh, r⟩
theorem at_list_own {w0 w : World} {d : Nat} {S : St} (h : At w0 w d S) : Calls Try.prog 15 #[dp d] w fun x w' => ∃ v, x = .returned v ∧ w'.ownsRow w.heap.size 9 1 v S.list.length (S.list.map sv) ∧ Below w.heap.size w w' := by
  obtain ⟨F, ⟨pm, dm, val, hD⟩, hF, hB⟩ := h
  exact list_ok hD
theorem str_info : (Try.prog.info? 9).map (fun i => (i.zero, i.size, i.bytes)) = some (some (.string ByteArray.empty), 1, 16) := by kernel_rfl
end Go.Proofs.Yteelmgmigfeabaa
