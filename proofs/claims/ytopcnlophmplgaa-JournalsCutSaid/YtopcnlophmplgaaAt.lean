/-
  The methods of package files, at a disk that a law made: 'At w0 w d S': since w0, a disk S was made; its struct lies in block d; nothing that was there was written.
-/
import Derived.Test.YtopcnlophmplgaaRename
namespace Go.Proofs.Ytopcnlophmplgaa
open Go.RowKit Go.Maps Go.Sort
set_option maxRecDepth 100000
set_option linter.unusedVariables false

def At (w0 w : World) (d : Nat) (S : St) : Prop := ∃ F, Disk w F d S ∧ (∀ i, F i → w0.heap.size ≤ i) ∧ Below w0.heap.size w0 w
abbrev dp (d : Nat) : Value := .pointer (some ⟨d, 0, none⟩)
theorem At.low {w0 w : World} {d : Nat} {S : St} (h : At w0 w d S) : Below w0.heap.size w0 w := h.choose_spec.2.2
theorem At.below {w0 w w' : World} {d : Nat} {S : St} (h : At w0 w d S) (hb : Below w.heap.size w w') : At w0 w' d S := by
  obtain ⟨F, hD, hF, hB⟩ := h
  exact ⟨F, hD.below hb, hF, hB.trans (hb.mono hB.size)⟩
theorem At.step {w0 w w' : World} {d : Nat} {S' : St} {F : Nat → Prop} (hF : ∀ i, F i → w0.heap.size ≤ i) (hB : Below w0.heap.size w0 w) (h : Left5 F d w w' S') : At w0 w' d S' :=
  ⟨_, h.2, fun i hi => by rcases hi with hi | hi; exact hF i hi; exact Nat.le_trans hB.size hi.1, hB.trans (h.1.below hB.size hF)⟩
theorem at_new {w0 w : World} (hB : Below w0.heap.size w0 w) (n : Nat) (h1 : 1 ≤ n) (h2 : n ≤ 8388608) :
    Calls Try.prog 36 #[.int .i64 (n : Int)] w fun x w' => ∃ d, x = .returned (.tuple #[dp d, er 0]) ∧ At w0 w' d (St.new n) :=
  (new_ok n w h1 h2).mono fun x w' ⟨d, hx, hb, hD⟩ => ⟨d, hx, _, hD, fun i hi => Nat.le_trans hB.size hi.1, hB.trans (hb.mono hB.size)⟩
theorem argOK1 {s : ByteArray} (h : okName s.data.toList = true) : argErr [okName s.data.toList] = 0 := argErr_ok (by simp [h])

section
variable {w0 w : World} {d : Nat} {S : St} (h : At w0 w d S)
include h
theorem at_create (s : ByteArray) (hs : s.size ≤ 140737488355328) (hn : okName s.data.toList = true) (hk : look S.pres s.data.toList = none) (hz : Maps.size S.pres < 64) :
    Calls Try.prog 17 #[dp d, .string s] w fun x w' => x = .returned (er 0) ∧ ∃ b, w.heap.size ≤ b ∧ At w0 w' d (S.create s.data.toList b) := by
  obtain ⟨F, ⟨pm, dm, val, hD⟩, hF, hB⟩ := h
  exact (create_ok hD s hs (argOK1 hn) hk hz).mono fun x w' ⟨hx, b, hb, hl⟩ => ⟨hx, b, hb, At.step hF hB hl⟩
theorem at_sync (s : ByteArray) (hs : s.size ≤ 140737488355328) (hn : okName s.data.toList = true) {f : Nat} (hk : look S.pres s.data.toList = some f) :
    Calls Try.prog 65 #[dp d, .string s] w fun x w' => x = .returned (er 0) ∧ At w0 w' d (S.sync f) := by
  obtain ⟨F, ⟨pm, dm, val, hD⟩, hF, hB⟩ := h
  exact (sync_ok hD s hs (argOK1 hn) hk).mono fun x w' ⟨hx, hl⟩ => ⟨hx, At.step hF hB hl⟩
theorem at_append (s : ByteArray) (hs : s.size ≤ 140737488355328) (hn : okName s.data.toList = true) (A : Option Addr) (n c : Nat) (l : List UInt8) (hl : Lies w w.heap.size 1 A n (l.map bv)) {f : Nat} (hk : look S.pres s.data.toList = some f) (hsp : n ≤ S.left ∧ n + S.len f ≤ 1048576) :
    Calls Try.prog 18 #[dp d, .string s, .slice A n c] w fun x w' => x = .returned (er 0) ∧ At w0 w' d (S.append f l) := by
  obtain ⟨F, ⟨pm, dm, val, hD⟩, hF, hB⟩ := h
  exact (append_ok hD s hs A n c l hl (by omega) (argOK1 hn) hk hsp).mono fun x w' ⟨hx, hl⟩ => ⟨hx, At.step hF hB hl⟩
theorem at_left : Calls Try.prog 76 #[dp d] w fun x w' => x = .returned (.int .i64 (S.left : Int)) ∧ Below w.heap.size w w' := by
  obtain ⟨F, ⟨pm, dm, val, hD⟩, hF, hB⟩ := h
  exact left_ok hD
/-- calls that are refused -/
theorem at_create_no (s : ByteArray) (hs : s.size ≤ 140737488355328) (e : Int) (he : firstErr [0, argErr [okName s.data.toList], thereErr (look S.pres s.data.toList), fullErr S.pres] = e) (hne : e ≠ 0) :
    Calls Try.prog 17 #[dp d, .string s] w fun x w' => x = .returned (er e) ∧ Below w.heap.size w w' := by
  obtain ⟨F, ⟨pm, dm, val, hD⟩, hF, hB⟩ := h
  exact create_fails _ s w hs 0 _ _ e hD.gives (fun _ _ => hD.free hs) (fun _ _ _ => hD.freeName) he hne
theorem at_append_full (s : ByteArray) (hs : s.size ≤ 140737488355328) (hn : okName s.data.toList = true) (A : Option Addr) (n c : Nat) (hn47 : n ≤ 140737488355328) {f : Nat} (hk : look S.pres s.data.toList = some f) (hsp : ¬ (n ≤ S.left ∧ n + S.len f ≤ 1048576)) :
    Calls Try.prog 18 #[dp d, .string s, .slice A n c] w fun x w' => x = .returned (er 6) ∧ Below w.heap.size w w' := by
  obtain ⟨F, ⟨pm, dm, val, hD⟩, hF, hB⟩ := h
  exact append_fails _ s A n c w hs 0 0 6 6 hD.gives (fun _ _ => by have := hD.leads hs; rw [hk] at this; exact this) (fun _ _ _ => by have := hD.space hs hk n hn47; rw [spaceErr_no hsp] at this; exact this) (by rw [argOK1 hn]; rfl) (by decide)
theorem at_read_short (s : ByteArray) (hs : s.size ≤ 140737488355328) (hn : okName s.data.toList = true) (a n : Nat) (ha : a ≤ 9223372036854775807) {f : Nat} (hk : look S.pres s.data.toList = some f) (hsp : S.len f < a + n) :
    Calls Try.prog 16 #[dp d, .string s, .int .i64 (a : Int), .int .i64 (n : Int)] w fun x w' => x = .returned (.tuple #[.slice none 0 0, er 5]) ∧ Below w.heap.size w w' := by
  obtain ⟨F, ⟨pm, dm, val, hD⟩, hF, hB⟩ := h
  have hA3 : argErr [okName s.data.toList, decide ((0 : Int) ≤ (a : Int)), decide ((0 : Int) ≤ (n : Int))] = 0 := argErr_ok (by simp [hn])
  exact read_fails _ s a n w hs 0 0 5 5 hD.gives (fun _ _ => by have := hD.leads hs; rw [hk] at this; exact this) (fun _ _ _ => by have := hD.reach hs hk (a : Int) (n : Int) (by omega) (by omega); rw [shortErr_no (by omega)] at this; exact this) (by rw [hA3]; rfl) (by decide)
theorem at_read_none (s : ByteArray) (hs : s.size ≤ 140737488355328) (hn : okName s.data.toList = true) (a n : Nat) (hk : look S.pres s.data.toList = none) :
    Calls Try.prog 16 #[dp d, .string s, .int .i64 (a : Int), .int .i64 (n : Int)] w fun x w' => x = .returned (.tuple #[.slice none 0 0, er 7]) ∧ Below w.heap.size w w' := by
  obtain ⟨F, ⟨pm, dm, val, hD⟩, hF, hB⟩ := h
  have hA3 : argErr [okName s.data.toList, decide ((0 : Int) ≤ (a : Int)), decide ((0 : Int) ≤ (n : Int))] = 0 := argErr_ok (by simp [hn])
  exact read_fails _ s a n w hs 0 7 0 7 hD.gives (fun _ _ => by have := hD.leads hs; rw [hk] at this; exact this) (fun _ _ h7 => by cases h7) (by rw [hA3]; rfl) (by decide)
theorem at_read (s : ByteArray) (hs : s.size ≤ 140737488355328) (hn : okName s.data.toList = true) (a n : Nat) (ha : a ≤ 9223372036854775807) {f : Nat} (hk : look S.pres s.data.toList = some f) (hr : a + n ≤ S.len f) :
    Calls Try.prog 16 #[dp d, .string s, .int .i64 (a : Int), .int .i64 (n : Int)] w fun x w' => ∃ A c, x = .returned (.tuple #[.slice A n c, er 0]) ∧ Lies w' w'.heap.size 1 A n ((((S.file f).bytes.drop a).take n).map bv) ∧ Below w.heap.size w w' := by
  obtain ⟨F, ⟨pm, dm, val, hD⟩, hF, hB⟩ := h
  have hA3 : argErr [okName s.data.toList, decide ((0 : Int) ≤ (a : Int)), decide ((0 : Int) ≤ (n : Int))] = 0 := argErr_ok (by simp [hn])
  refine (read_ok hD s hs a n ha hA3 hk hr).mono fun x w' ⟨v, hx, ho, hb⟩ => ?_
  obtain ⟨A, c, rfl, _⟩ := own_shape ho
  exact ⟨A, c, hx, Lies.of_own ho, hb⟩
theorem At.hi : S.size ≤ 8388608 := by obtain ⟨F, ⟨pm, dm, val, hD⟩, _⟩ := h; exact hD.hi
theorem At.presOK : DirOK S.pres := by obtain ⟨F, ⟨pm, dm, val, hD⟩, _⟩ := h; exact hD.presOK
theorem At.tidy : Tidy S.pres := by obtain ⟨F, ⟨pm, dm, val, hD⟩, _⟩ := h; exact hD.tidy
end

/-! which names there are, by which of them lead to files -/
theorem key_look {D : Dir} (hD : DirOK D) (hT : Tidy D) (k : List UInt8) : k ∈ strKeys D ↔ (look D k).isSome = true := by
  obtain ⟨es, rfl, hp⟩ := hT
  constructor
  · intro hk
    obtain ⟨e, he, rfl⟩ := List.mem_map.1 hk
    obtain ⟨k', b, h1, h2⟩ := hD e he
    have hf : (es.find? fun p => p.1.sameKey (.string k')) = some e := by
      refine List.find?_eq_some_iff_getElem.2 ⟨by rw [h1]; exact WideAt.sameKey_self (isKey k'), ?_⟩
      obtain ⟨i, hi, hie⟩ := List.getElem_of_mem he
      refine ⟨i, hi, hie, fun j hj => ?_⟩
      have := List.pairwise_iff_getElem.1 hp j i (by omega) hi hj
      rw [hie, h1] at this
      rw [sameKey_ne this]; rfl
    have hs : strOf e.1 = k' := by rw [h1]; rfl
    rw [hs]
    show (blk _).isSome = true
    simp only [DataW.atKey, hf, h2]
    rfl
  · intro hl
    cases hf : es.find? fun p => p.1.sameKey (.string k) with
    | none =>
      have : look (.map es) k = none := by unfold look; simp only [DataW.atKey, hf]; rfl
      rw [this] at hl; cases hl
    | some e =>
      have h1 := WideAt.sameKey_eq (List.find?_some (p := fun p : Lit × DataW Unit => p.1.sameKey (.string k)) hf)
      exact List.mem_map.2 ⟨e, List.mem_of_find?_eq_some hf, by rw [h1]; rfl⟩
theorem keys_nodup {D : Dir} (hD : DirOK D) (hT : Tidy D) : (strKeys D).Nodup := by
  obtain ⟨es, rfl, hp⟩ := hT
  show (es.map fun p => strOf p.1).Nodup
  rw [List.Nodup, List.pairwise_map]
  refine List.Pairwise.imp_of_mem (fun {a b} ha hb hne => ?_) hp
  obtain ⟨k1, b1, h1, _⟩ := hD a ha
  obtain ⟨k2, b2, h2, _⟩ := hD b hb
  intro e
  rw [h1, h2] at e hne
  exact hne (by have e : k1 = k2 := e; rw [e])
/-- the names are the ones of a list without repeats, sorted -/
theorem list_is {S : St} (hD : DirOK S.pres) (hT : Tidy S.pres) (l : List (List UInt8)) (hn : l.Nodup) (h : ∀ k, k ∈ l ↔ (look S.pres k).isSome = true) : S.list = l.mergeSort fun x y => decide (x ≤ y) :=
  sorts_same ((List.perm_ext_iff_of_nodup (keys_nodup hD hT) hn).2 fun k => by rw [key_look hD hT, h])
end Go.Proofs.Ytopcnlophmplgaa
