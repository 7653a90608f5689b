/-
  The methods that write to a disk of package files, whatever comes of them: some disk is there afterwards; and with another disk beside it.
-/
import Derived.Test.YtopcnlophmplgaaAt
namespace Go.Proofs.Ytopcnlophmplgaa
open Go.RowKit Go.Maps Go.Sort
set_option maxRecDepth 100000
set_option linter.unusedVariables false

theorem all_zero3 {a b c : Int} (h : firstErr [a, b, c] = 0) : a = 0 ∧ b = 0 ∧ c = 0 := by
  unfold firstErr at h; split at h
  · unfold firstErr at h; split at h
    · unfold firstErr at h; split at h
      · exact ⟨by assumption, by assumption, by assumption⟩
      · exact absurd h (by assumption)
    · exact absurd h (by assumption)
  · exact absurd h (by assumption)
theorem all_zero4 {a b c d : Int} (h : firstErr [a, b, c, d] = 0) : a = 0 ∧ b = 0 ∧ c = 0 ∧ d = 0 := by
  have h1 : a = 0 := by
    unfold firstErr at h; split at h
    · assumption
    · exact absurd h (by assumption)
  subst h1
  exact ⟨rfl, all_zero3 h⟩
theorem there_no {o : Option Nat} (h : thereErr o = 0) : o = none := by
  cases o with
  | none => rfl
  | some f => exact absurd (show (8 : Int) = 0 from h) (by decide)
theorem none_some {o : Option Nat} (h : noneErr o = 0) : ∃ f, o = some f := by
  cases o with
  | none => exact absurd h (by decide)
  | some f => exact ⟨f, rfl⟩
theorem full_lt {D : Dir} (h : fullErr D = 0) : Maps.size D < 64 := by
  unfold fullErr at h; split at h
  · assumption
  · cases h
theorem space_ok {S : St} {l n : Nat} (h : spaceErr S l n = 0) : n ≤ S.left ∧ n + l ≤ 1048576 := by
  unfold spaceErr at h; split at h
  · assumption
  · cases h

section
variable {w : World} {F : Nat → Prop} {d : Nat} {S : St} (h : Disk w F d S)
include h
/-- some error, some disk -/
theorem any_create (s : ByteArray) (hs : s.size ≤ 140737488355328) : Calls Try.prog 17 #[dp d, .string s] w fun x w' => ∃ e S', x = .returned (er e) ∧ Left5 F d w w' S' := by
  obtain ⟨pm, dm, val, hD⟩ := h
  by_cases he : firstErr [0, argErr [okName s.data.toList], thereErr (look S.pres s.data.toList), fullErr S.pres] = 0
  · obtain ⟨_, h1, h2, h3⟩ := all_zero4 he
    exact (create_ok hD s hs h1 (there_no h2) (full_lt h3)).mono fun x w' ⟨hx, b, hb, hl⟩ => ⟨_, _, hx, hl⟩
  · exact (create_fails _ s w hs 0 _ _ _ hD.gives (fun _ _ => hD.free hs) (fun _ _ _ => hD.freeName) rfl he).mono fun x w' ⟨hx, hb⟩ => ⟨_, S, hx, left_same ⟨pm, dm, val, hD⟩ hb⟩
theorem any_sync (s : ByteArray) (hs : s.size ≤ 140737488355328) : Calls Try.prog 65 #[dp d, .string s] w fun x w' => ∃ e S', x = .returned (er e) ∧ Left5 F d w w' S' := by
  obtain ⟨pm, dm, val, hD⟩ := h
  by_cases he : firstErr [0, argErr [okName s.data.toList], noneErr (look S.pres s.data.toList)] = 0
  · obtain ⟨_, h1, h2⟩ := all_zero3 he
    obtain ⟨f, hf⟩ := none_some h2
    exact (sync_ok hD s hs h1 hf).mono fun x w' ⟨hx, hl⟩ => ⟨_, _, hx, hl⟩
  · exact (sync_fails _ s w hs 0 _ _ hD.gives (fun _ _ => hD.leads hs) rfl he).mono fun x w' ⟨hx, hb⟩ => ⟨_, S, hx, left_same ⟨pm, dm, val, hD⟩ hb⟩
theorem any_append (s : ByteArray) (hs : s.size ≤ 140737488355328) (A : Option Addr) (n c : Nat) (l : List UInt8) (hl : Lies w w.heap.size 1 A n (l.map bv)) (hn : n ≤ 140737488355328) :
    Calls Try.prog 18 #[dp d, .string s, .slice A n c] w fun x w' => ∃ e S', x = .returned (er e) ∧ Left5 F d w w' S' := by
  obtain ⟨pm, dm, val, hD⟩ := h
  cases hlk : look S.pres s.data.toList with
  | none =>
    have hne : firstErr [0, argErr [okName s.data.toList], 7, 0] ≠ 0 := fun he => by have := (all_zero4 he).2.2.1; cases this
    exact (append_fails _ s A n c w hs 0 7 0 _ hD.gives (fun _ _ => by have := hD.leads hs; rw [hlk] at this; exact this) (fun _ _ h7 => by cases h7) rfl hne).mono fun x w' ⟨hx, hb⟩ => ⟨_, S, hx, left_same ⟨pm, dm, val, hD⟩ hb⟩
  | some f =>
    by_cases he : firstErr [0, argErr [okName s.data.toList], 0, spaceErr S (S.len f) n] = 0
    · obtain ⟨_, h1, _, h3⟩ := all_zero4 he
      exact (append_ok hD s hs A n c l hl hn h1 hlk (space_ok h3)).mono fun x w' ⟨hx, hl⟩ => ⟨_, _, hx, hl⟩
    · exact (append_fails _ s A n c w hs 0 0 _ _ hD.gives (fun _ _ => by have := hD.leads hs; rw [hlk] at this; exact this) (fun _ _ _ => hD.space hs hlk n hn) rfl he).mono fun x w' ⟨hx, hb⟩ => ⟨_, S, hx, left_same ⟨pm, dm, val, hD⟩ hb⟩
end

/-- two disks, apart from each other -/
def Pair (w0 w : World) (d : Nat) (S : St) (e : Nat) (T : St) : Prop :=
  ∃ F G, Disk w F d S ∧ Disk w G e T ∧ (∀ i, G i → ¬ F i) ∧ (∀ i, F i → w0.heap.size ≤ i) ∧ (∀ i, G i → w0.heap.size ≤ i) ∧ Below w0.heap.size w0 w
theorem Pair.fst {w0 w : World} {d e : Nat} {S T : St} (h : Pair w0 w d S e T) : At w0 w d S := by
  obtain ⟨F, G, h1, _, _, h2, _, h3⟩ := h; exact ⟨F, h1, h2, h3⟩
theorem Pair.snd {w0 w : World} {d e : Nat} {S T : St} (h : Pair w0 w d S e T) : At w0 w e T := by
  obtain ⟨F, G, _, h1, _, _, h2, h3⟩ := h; exact ⟨G, h1, h2, h3⟩
theorem Pair.below {w0 w w' : World} {d e : Nat} {S T : St} (h : Pair w0 w d S e T) (hb : Below w.heap.size w w') : Pair w0 w' d S e T := by
  obtain ⟨F, G, h1, h2, h3, h4, h5, h6⟩ := h
  exact ⟨F, G, h1.below hb, h2.below hb, h3, h4, h5, h6.trans (hb.mono h6.size)⟩
/-- a call on the first of them leaves the second one as it was -/
theorem Pair.run {w0 w : World} {d e : Nat} {S T : St} (h : Pair w0 w d S e T) {f : FuncId} {args : Array Value} {Q : Ending → St → Prop} (hc : ∀ F, Disk w F d S → Calls Try.prog f args w fun x w' => ∃ S', Q x S' ∧ Left5 F d w w' S') :
    Calls Try.prog f args w fun x w' => ∃ S', Q x S' ∧ Pair w0 w' d S' e T := by
  obtain ⟨F, G, h1, h2, h3, h4, h5, h6⟩ := h
  refine (hc F h1).mono fun x w' ⟨S', hq, hT, hD⟩ => ⟨S', hq, _, G, hD, h2.other hT h3, fun i hg hm => ?_, fun i hi => ?_, h5, h6.trans (hT.below h6.size h4)⟩
  · rcases hm with hm | hm
    · exact h3 i hg hm
    · have := h2.lt i hg; omega
  · rcases hi with hi | hi
    · exact h4 i hi
    · exact Nat.le_trans h6.size hi.1
end Go.Proofs.Ytopcnlophmplgaa
