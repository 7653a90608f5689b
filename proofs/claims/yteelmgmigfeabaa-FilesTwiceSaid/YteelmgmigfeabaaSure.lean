/-
  Words that FilesSure and FilesTwice share: names of a disk, how many there are; what is left of a file, and left again; does and Remove at a law's own disk.
-/
import Derived.Test.YteelmgmigfeabaaFilesMovesW
import Derived.Test.YteelmgmigfeabaaDoes
import Derived.Test.YteelmgmigfeabaaGreat5
namespace Go.Proofs.Yteelmgmigfeabaa
open Go.RowKit Go.Maps Go.Sort
set_option linter.unusedVariables false
set_option linter.unusedSectionVars false

/-- two strings in a block of their own -/
def kw2 (a b : ByteArray) (w : World) : World := w.alloc (.cells #[.string a, .string b] 45)
theorem kw2_facts (a b : ByteArray) (w : World) : Below w.heap.size w (kw2 a b w) ∧ ∀ W, Below (kw2 a b w).heap.size (kw2 a b w) W → W.cell? ⟨w.heap.size, 0, none⟩ = some (.string a) ∧ W.cell? ⟨w.heap.size, 1, none⟩ = some (.string b) := by
  unfold kw2
  have s1 := alloc_size w (.cells #[.string a, .string b] 45)
  have h1 : (w.alloc (.cells #[.string a, .string b] 45)).heap[w.heap.size]? = some (.cells #[.string a, .string b] 45) := heap_alloc_new w _
  have hb1 := below_a (Below.refl w.heap.size w) (.cells #[.string a, .string b] 45)
  generalize w.alloc (.cells #[.string a, .string b] 45) = w1 at *
  refine ⟨hb1, fun W hW => ⟨?_, ?_⟩⟩
  · rw [cell_of_row W w.heap.size 0 _ _ (0, 0) ((hW.block _ (by omega)).trans h1)]; rfl
  · rw [cell_of_row W w.heap.size 1 _ _ (0, 0) ((hW.block _ (by omega)).trans h1)]; rfl

/-- what is kept of a file of which the first bytes are durable -/
theorem cut_app (k : Nat) (la lb : List UInt8) : (cutC k ⟨la ++ lb, la.length⟩).bytes = la ++ lb.take k := by
  show (la ++ lb).take (la.length + min k ((la ++ lb).length - la.length)) = _
  rw [List.take_length_add_append, List.length_append, show la.length + lb.length - la.length = lb.length by omega, ← List.take_eq_take_min]
/-- a file that was left is durable -/
theorem cut_all (k m : Nat) (c : FileC) (h : c.sure ≤ c.bytes.length) : (cutC m (cutC k c)).bytes = (cutC k c).bytes := by
  show ((cutC k c).bytes).take ((cutC k c).sure + min m ((cutC k c).bytes.length - (cutC k c).sure)) = _
  have e : (cutC k c).bytes.length = (cutC k c).sure := by
    show (c.bytes.take (c.sure + min k (c.bytes.length - c.sure))).length = c.sure + min k (c.bytes.length - c.sure)
    rw [List.length_take]; omega
  rw [List.take_of_length_le (by omega)]

theorem list_len {S : St} (hT : Tidy S.pres) : S.list.length = Maps.size S.pres := by
  obtain ⟨es, he, _⟩ := hT
  show ((strKeys S.pres).mergeSort _).length = _
  rw [List.length_mergeSort, he]
  show (es.map fun p => strOf p.1).length = es.length
  rw [List.length_map]
theorem list_same {w0 w w0' w' : World} {d e : Nat} {S T : St} (hS : At w0 w d S) (hT : At w0' w' e T) (h : ∀ k, (look S.pres k).isSome = (look T.pres k).isSome) : S.list = T.list :=
  list_is hS.presOK hS.tidy (strKeys T.pres) (keys_nodup hT.presOK hT.tidy) fun k => by rw [h k]; exact key_look hT.presOK hT.tidy k
theorem fail_names {S S' : St} {D : Dir} {keep : Nat} (h : FailSpec S D keep S') (k : List UInt8) : (look S'.pres k).isSome = (look D k).isSome := by
  obtain ⟨h1, h2⟩ := h.2.2 k
  cases hk : look D k with
  | none => rw [h1 hk]
  | some f => obtain ⟨b, hb, _⟩ := h2 f hk; rw [hb]; rfl

theorem At.inj {w0 w : World} {d : Nat} {S : St} (h : At w0 w d S) : ∀ k k' f, look S.pres k = some f → look S.pres k' = some f → k = k' := by obtain ⟨F, ⟨pm, dm, val, hD⟩, _⟩ := h; exact hD.inj
theorem At.sure {w0 w : World} {d : Nat} {S : St} (h : At w0 w d S) {k : List UInt8} {f : Nat} (hk : look S.pres k = some f) : (S.file f).sure ≤ (S.file f).bytes.length := by obtain ⟨F, ⟨pm, dm, val, hD⟩, _⟩ := h; exact (hD.files f (.inl ⟨k, hk⟩)).sure
theorem At.few {w0 w : World} {d : Nat} {S : St} (h : At w0 w d S) : Maps.size S.pres ≤ 64 := by obtain ⟨F, ⟨pm, dm, val, hD⟩, _⟩ := h; exact OwnD.size_le hD.pres
theorem step_left {n m : Nat} {S : St} (h : Step (St.new n) S m) : n - m ≤ S.left := by
  have h1 := h.size
  have h2 := h.tot
  have h3 : tot (St.new n).pres (St.new n).len = 0 := rfl
  have h4 : (St.new n).size = n := rfl
  show _ ≤ S.size - tot S.pres S.len
  omega

theorem at_does {w0 w : World} {d : Nat} {S : St} (h : At w0 w d S) (A : Option Addr) (n c : Nat) (l : List AcC) (hl : Lies w0 w0.heap.size 7 A n (acs l)) (ha : Acts w0 w0.heap.size l) (hn : n ≤ 200) :
    Calls Try.prog 26 #[dp d, .slice A n c] w fun x w' => x = .returned (.tuple #[]) ∧ ∃ S', At w0 w' d S' ∧ Step S S' (weigh l) := by
  obtain ⟨F, hD, hF, hB⟩ := h
  exact (does_any hD A n c l (hl.below hB) (ha.below hB) hB.size hF hn).mono fun x w' ⟨hx, S', hl, hs⟩ => ⟨hx, S', At.step hF hB hl, hs⟩
theorem at_removed {w0 w : World} {d : Nat} {S : St} (h : At w0 w d S) (s : ByteArray) (hs : s.size ≤ 140737488355328) (hn : okName s.data.toList = true) :
    Calls Try.prog 18 #[dp d, .string s] w fun x w' => ∃ e S', x = .returned (er e) ∧ At w0 w' d S' ∧ Step S S' 0 ∧ look S'.pres s.data.toList = none := by
  obtain ⟨F, hD, hF, hB⟩ := h
  exact (grow_remove hD s hs).mono fun x w' ⟨e, S', hx, hl, hs, hk⟩ => ⟨e, S', hx, At.step hF hB hl, hs, hk hn⟩
/-- Fail, where both directories are one -/
theorem at_fail_both {w0 w : World} {d : Nat} {S : St} (h : At w0 w d S) (he : S.dur = S.pres) (keep : Nat) (hk : keep ≤ 9223372036854775807) (names : Bool) :
    Calls Try.prog 14 #[dp d, .int .i64 (keep : Int), .bool names] w fun x w' => ∃ d' S', x = .returned (.tuple #[dp d', er 0]) ∧ Below w.heap.size w w' ∧ At w0 w' d' S' ∧ FailSpec S S.pres keep S' := by
  refine (at_fail h keep hk names).mono fun x w' ⟨d', S', hx, hb, hd, hs⟩ => ⟨d', S', hx, hb, hd, ?_⟩
  cases names
  · have hs : FailSpec S S.dur keep S' := hs
    rw [he] at hs; exact hs
  · exact hs
end Go.Proofs.Yteelmgmigfeabaa
