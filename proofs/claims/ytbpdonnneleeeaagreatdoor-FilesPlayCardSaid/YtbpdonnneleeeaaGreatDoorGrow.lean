/-
  How many bytes files have, from call to call: a disk's size stays, its files grow by what is appended at most.
-/
import Derived.Test.YtbpdonnneleeeaaGreatDoorAtZ
namespace Go.Proofs.YtbpdonnneleeeaaGreatDoor
open Go.RowKit Go.Maps Go.Sort
set_option linter.unusedVariables false

/-- all names may be names -/
def Named (S : St) : Prop := (∀ k f, look S.pres k = some f → okName k = true) ∧ ∀ k f, look S.dur k = some f → okName k = true
/-- the disk's size stays, its files have at most n bytes more; names may be names -/
structure Step (S S' : St) (n : Nat) : Prop where
  size : S'.size = S.size
  tot : tot S'.pres S'.len ≤ tot S.pres S.len + n
  named : Named S → Named S'
theorem Step.refl (S : St) : Step S S 0 := ⟨rfl, Nat.le_refl _, id⟩
theorem Step.trans {S S1 S2 : St} {n m : Nat} (h : Step S S1 n) (k : Step S1 S2 m) : Step S S2 (n + m) := ⟨k.size.trans h.size, by have := h.tot; have := k.tot; omega, fun x => k.named (h.named x)⟩
theorem Step.more {S S' : St} {n m : Nat} (h : Step S S' n) (hm : n ≤ m) : Step S S' m := ⟨h.size, by have := h.tot; omega, h.named⟩
theorem argErr_all {l : List Bool} (h : argErr l = 0) : ∀ b ∈ l, b = true := by
  cases hb : l.all id with
  | true => exact fun b hm => by have := List.all_eq_true.1 hb b hm; exact this
  | false => unfold argErr at h; rw [hb] at h; exact absurd h (by decide)
theorem map_of_tidy {D : Dir} (h : Tidy D) : IsMap D := by obtain ⟨es, he, _⟩ := h; exact ⟨es, he⟩

theorem sum_le_map {α : Type} (f g : α → Nat) (l : List α) (h : ∀ x ∈ l, f x ≤ g x) : (l.map f).sum ≤ (l.map g).sum := by
  induction l with
  | nil => simp
  | cons a l ih =>
    rw [List.map_cons, List.map_cons, List.sum_cons, List.sum_cons]
    have h1 := h a (by simp)
    have h2 := ih fun x hx => h x (by simp [hx])
    omega
theorem sum_filter_le {α : Type} (f : α → Nat) (p : α → Bool) (l : List α) : ((l.filter p).map f).sum ≤ (l.map f).sum := by
  induction l with
  | nil => simp
  | cons a l ih =>
    rw [List.filter_cons, List.map_cons, List.sum_cons]
    split
    · rw [List.map_cons, List.sum_cons]; omega
    · omega
theorem tot_mono (D : Dir) (g g' : Nat → Nat) (h : ∀ b, g b ≤ g' b) : tot D g ≤ tot D g' := by
  unfold tot
  refine sum_le_map _ _ _ fun e _ => ?_
  unfold valE
  cases blk e.2 with
  | none => exact Nat.le_refl _
  | some b => exact h b
theorem tot_del_le (D : Dir) (hD : Tidy D) (k : List UInt8) (g : Nat → Nat) : tot (D.del (.string k)) g ≤ tot D g := by
  obtain ⟨es, rfl, _⟩ := hD
  exact sum_filter_le (fun e => valE g e.2) (fun p => !p.1.sameKey (.string k)) es
theorem ent_look {D : Dir} (hD : DirOK D) (hT : Tidy D) {e : Lit × DataW Unit} (he : e ∈ ents D) : ∃ (k : List UInt8) (b : Nat), e.1 = .string k ∧ e.2 = .lit (.int .u64 (b : Int)) ∧ look D k = some b := by
  obtain ⟨es, rfl, hp⟩ := hT
  obtain ⟨k, b, h1, h2⟩ := hD e he
  have he' : e ∈ es := he
  have hf : (es.find? fun p => p.1.sameKey (.string k)) = some e := by
    refine List.find?_eq_some_iff_getElem.2 ⟨by rw [h1]; exact WideAt.sameKey_self (isKey k), ?_⟩
    obtain ⟨i, hi, hie⟩ := List.getElem_of_mem he'
    refine ⟨i, hi, hie, fun j hj => ?_⟩
    have := List.pairwise_iff_getElem.1 hp j i (by omega) hi hj
    rw [hie, h1] at this
    rw [sameKey_ne this]; rfl
  refine ⟨k, b, h1, h2, ?_⟩
  unfold look
  simp only [DataW.atKey, hf, h2]
  rfl
theorem ent_del {D : Dir} (hT : Tidy D) {k : List UInt8} {e : Lit × DataW Unit} (he : e ∈ ents (D.del (.string k))) : e ∈ ents D ∧ e.1 ≠ .string k := by
  obtain ⟨es, rfl, hp⟩ := hT
  have he' : e ∈ es.filter fun p => !p.1.sameKey (.string k) := he
  obtain ⟨h1, h2⟩ := List.mem_filter.1 he'
  refine ⟨h1, fun hk => ?_⟩
  rw [hk, WideAt.sameKey_self (isKey k)] at h2
  cases h2

theorem step_create {S : St} (hT : Tidy S.pres) (k : List UInt8) (b : Nat) (hn : okName k = true) : Step S (S.create k b) 0 := by
  refine ⟨rfl, ?_, fun h => ⟨fun k' f hk' => ?_, h.2⟩⟩
  rotate_left
  · have hk' : look (S.pres.put (.string k) (.lit (.int .u64 (b : Int)))) k' = some f := hk'
    rw [look_put _ (map_of_tidy hT)] at hk'
    by_cases e : k' = k
    · rw [e]; exact hn
    · rw [if_neg e] at hk'; exact h.1 k' f hk'
  show tot (S.pres.put (.string k) (.lit (.int .u64 (b : Int)))) _ ≤ _
  rw [tot_put _ hT]
  have h0 : (S.create k b).len b = 0 := by show (upd S.file b ⟨[], 0⟩ b).bytes.length = 0; rw [upd_same]; rfl
  have h1 : ∀ i, (S.create k b).len i ≤ S.len i := fun i => by
    show (upd S.file b ⟨[], 0⟩ i).bytes.length ≤ (S.file i).bytes.length
    by_cases e : i = b
    · rw [e, upd_same]; exact Nat.zero_le _
    · rw [upd_other _ _ e]; exact Nat.le_refl _
  have h2 := tot_del_le S.pres hT k (S.create k b).len
  have h3 := tot_mono S.pres _ _ h1
  omega
theorem step_remove {S : St} (hT : Tidy S.pres) (k : List UInt8) : Step S (S.remove k) 0 := ⟨rfl, tot_del_le S.pres hT k _, fun h => ⟨fun k' f hk' => by
  have hk' : look (S.pres.del (.string k)) k' = some f := hk'
  rw [look_del] at hk'
  by_cases e : k' = k
  · rw [if_pos e] at hk'; cases hk'
  · rw [if_neg e] at hk'; exact h.1 k' f hk', h.2⟩⟩
theorem step_rename {S : St} (hT : Tidy S.pres) (hM : IsMap S.pres) (k k' : List UInt8) (f : Nat) (hk : look S.pres k = some f) (hne : k ≠ k') (hn : okName k' = true) : Step S (S.rename k k' f) 0 := by
  refine ⟨rfl, ?_, fun h => ⟨fun x g hx => ?_, h.2⟩⟩
  rotate_left
  · have hx : look ((S.pres.put (.string k') (.lit (.int .u64 (f : Int)))).del (.string k)) x = some g := hx
    rw [look_del] at hx
    by_cases e : x = k
    · rw [if_pos e] at hx; cases hx
    · rw [if_neg e, look_put _ hM] at hx
      by_cases e2 : x = k'
      · rw [e2]; exact hn
      · rw [if_neg e2] at hx; exact h.1 x g hx
  show tot ((S.pres.put (.string k') (.lit (.int .u64 (f : Int)))).del (.string k)) S.len ≤ _
  have h1 := tot_del (S.pres.put (.string k') (.lit (.int .u64 (f : Int)))) (hT.put (isKey k') _) k f S.len (by rw [look_put _ hM, if_neg hne]; exact hk)
  have h2 := tot_put S.pres hT k' f S.len
  have h3 := tot_del_le S.pres hT k' S.len
  omega
theorem step_append {S : St} (hT : Tidy S.pres) (hD : DirOK S.pres) (hi : ∀ k k' f, look S.pres k = some f → look S.pres k' = some f → k = k') (k : List UInt8) (f : Nat) (hk : look S.pres k = some f) (l : List UInt8) : Step S (S.append f l) l.length := by
  refine ⟨rfl, ?_, fun h => h⟩
  show tot S.pres (S.append f l).len ≤ _
  have h1 := tot_del S.pres hT k f S.len hk
  have h2 := tot_del S.pres hT k f (S.append f l).len hk
  have h3 : (S.append f l).len f = S.len f + l.length := by
    show (upd S.file f ⟨(S.file f).bytes ++ l, (S.file f).sure⟩ f).bytes.length = _
    rw [upd_same]; exact List.length_append
  have h4 : tot (S.pres.del (.string k)) (S.append f l).len = tot (S.pres.del (.string k)) S.len := by
    refine tot_congr _ _ _ fun e he b hb => ?_
    obtain ⟨he1, he2⟩ := ent_del hT he
    obtain ⟨k2, b2, e1, e2, e3⟩ := ent_look hD hT he1
    rw [e2] at hb
    have hb2 : some b2 = some b := hb
    injection hb2 with hb2
    have hbf : b ≠ f := fun h => he2 (by rw [e1, hi k2 k f (by rw [e3, hb2, h]) hk])
    show (upd S.file f _ b).bytes.length = _
    rw [upd_other _ _ hbf]; rfl
  omega
theorem step_sync {S : St} (f : Nat) : Step S (S.sync f) 0 := by
  refine ⟨rfl, tot_mono S.pres _ _ fun i => ?_, fun h => h⟩
  show (upd S.file f ⟨(S.file f).bytes, (S.file f).bytes.length⟩ i).bytes.length ≤ (S.file i).bytes.length
  by_cases e : i = f
  · rw [e, upd_same]; exact Nat.le_refl _
  · rw [upd_other _ _ e]; exact Nat.le_refl _
theorem step_names {S : St} : Step S S.names 0 := ⟨rfl, Nat.le_refl _, fun h => ⟨h.1, h.1⟩⟩

section
variable {w : World} {F : Nat → Prop} {d : Nat} {S : St} (h : Disk w F d S)
include h
theorem grow_create (s : ByteArray) (hs : s.size ≤ 140737488355328) : Calls Tryz.prog 9 #[dp d, .string s] w fun x w' => ∃ e S', x = .returned (er e) ∧ Left5 F d w w' S' ∧ Step S S' 0 := by
  obtain ⟨pm, dm, val, hD⟩ := h
  by_cases he : firstErr [0, argErr [okName s.data.toList], thereErr (look S.pres s.data.toList), fullErr S.pres] = 0
  · obtain ⟨_, h1, h2, h3⟩ := all_zero4 he
    exact (create_ok hD s hs h1 (there_no h2) (full_lt h3)).mono fun x w' ⟨hx, b, hb, hl⟩ => ⟨_, _, hx, hl, step_create hD.tidy _ _ (argErr_all h1 _ (by simp))⟩
  · exact (create_fails _ s w hs 0 _ _ _ hD.gives (fun _ _ => hD.free hs) (fun _ _ _ => hD.freeName) rfl he).mono fun x w' ⟨hx, hb⟩ => ⟨_, S, hx, left_same ⟨pm, dm, val, hD⟩ hb, Step.refl S⟩
/-- behind it the name leads nowhere, if it may be one -/
theorem grow_remove (s : ByteArray) (hs : s.size ≤ 140737488355328) : Calls Tryz.prog 11 #[dp d, .string s] w fun x w' => ∃ e S', x = .returned (er e) ∧ Left5 F d w w' S' ∧ Step S S' 0 ∧ (okName s.data.toList = true → look S'.pres s.data.toList = none) := by
  obtain ⟨pm, dm, val, hD⟩ := h
  by_cases he : firstErr [0, argErr [okName s.data.toList], noneErr (look S.pres s.data.toList)] = 0
  · obtain ⟨_, h1, h2⟩ := all_zero3 he
    obtain ⟨f, hf⟩ := none_some h2
    exact (remove_ok hD s hs h1 hf).mono fun x w' ⟨hx, hl⟩ => ⟨_, _, hx, hl, step_remove hD.tidy _, fun _ => by
      show look (S.pres.del (.string s.data.toList)) _ = none
      rw [look_del, if_pos rfl]⟩
  · refine (remove_fails _ s w hs 0 _ _ hD.gives (fun _ _ => hD.leads hs) rfl he).mono fun x w' ⟨hx, hb⟩ => ⟨_, S, hx, left_same ⟨pm, dm, val, hD⟩ hb, Step.refl S, fun hn => ?_⟩
    cases hk : look S.pres s.data.toList with
    | none => rfl
    | some f => exact absurd (by rw [hk, argOK1 hn]; rfl) he
theorem grow_sync (s : ByteArray) (hs : s.size ≤ 140737488355328) : Calls Tryz.prog 21 #[dp d, .string s] w fun x w' => ∃ e S', x = .returned (er e) ∧ Left5 F d w w' S' ∧ Step S S' 0 := by
  obtain ⟨pm, dm, val, hD⟩ := h
  by_cases he : firstErr [0, argErr [okName s.data.toList], noneErr (look S.pres s.data.toList)] = 0
  · obtain ⟨_, h1, h2⟩ := all_zero3 he
    obtain ⟨f, hf⟩ := none_some h2
    exact (sync_ok hD s hs h1 hf).mono fun x w' ⟨hx, hl⟩ => ⟨_, _, hx, hl, step_sync _⟩
  · exact (sync_fails _ s w hs 0 _ _ hD.gives (fun _ _ => hD.leads hs) rfl he).mono fun x w' ⟨hx, hb⟩ => ⟨_, S, hx, left_same ⟨pm, dm, val, hD⟩ hb, Step.refl S⟩
theorem grow_rename (s t : ByteArray) (hs : s.size ≤ 140737488355328) (ht : t.size ≤ 140737488355328) : Calls Tryz.prog 13 #[dp d, .string s, .string t] w fun x w' => ∃ e S', x = .returned (er e) ∧ Left5 F d w w' S' ∧ Step S S' 0 := by
  obtain ⟨pm, dm, val, hD⟩ := h
  by_cases he : firstErr [0, argErr [okName s.data.toList, okName t.data.toList], noneErr (look S.pres s.data.toList)] = 0
  · obtain ⟨_, h1, h2⟩ := all_zero3 he
    obtain ⟨f, hf⟩ := none_some h2
    by_cases hst : s = t
    · exact (rename_same hD s t hs ht h1 hf hst).mono fun x w' ⟨hx, hb⟩ => ⟨_, S, hx, left_same ⟨pm, dm, val, hD⟩ hb, Step.refl S⟩
    · exact (rename_ok hD s t hs ht h1 hf hst).mono fun x w' ⟨hx, hl⟩ => ⟨_, _, hx, hl, step_rename hD.tidy (World.ownsMap.isMap hD.pres) _ _ _ hf (fun e => hst (txt_same e)) (argErr_all h1 _ (by simp))⟩
  · exact (rename_fails _ s t w hs ht 0 _ _ hD.gives (fun _ _ => hD.leads hs) rfl he).mono fun x w' ⟨hx, hb⟩ => ⟨_, S, hx, left_same ⟨pm, dm, val, hD⟩ hb, Step.refl S⟩
theorem grow_names : Calls Tryz.prog 23 #[dp d] w fun x w' => ∃ e S', x = .returned (er e) ∧ Left5 F d w w' S' ∧ Step S S' 0 := by
  obtain ⟨pm, dm, val, hD⟩ := h
  exact (names_ok hD).mono fun x w' ⟨hx, hl⟩ => ⟨_, _, hx, hl, step_names⟩
theorem grow_append (s : ByteArray) (hs : s.size ≤ 140737488355328) (A : Option Addr) (n c : Nat) (l : List UInt8) (hl : Lies w w.heap.size 1 A n (l.map bv)) (hn : n ≤ 140737488355328) :
    Calls Tryz.prog 15 #[dp d, .string s, .slice A n c] w fun x w' => ∃ e S', x = .returned (er e) ∧ Left5 F d w w' S' ∧ Step S S' n := by
  obtain ⟨pm, dm, val, hD⟩ := h
  have hln : l.length = n := by have := hl.len; simpa using this
  cases hlk : look S.pres s.data.toList with
  | none =>
    have hne : firstErr [0, argErr [okName s.data.toList], 7, 0] ≠ 0 := fun he => by have := (all_zero4 he).2.2.1; cases this
    exact (append_fails _ s A n c w hs 0 7 0 _ hD.gives (fun _ _ => by have := hD.leads hs; rw [hlk] at this; exact this) (fun _ _ h7 => by cases h7) rfl hne).mono fun x w' ⟨hx, hb⟩ => ⟨_, S, hx, left_same ⟨pm, dm, val, hD⟩ hb, (Step.refl S).more (Nat.zero_le _)⟩
  | some f =>
    by_cases he : firstErr [0, argErr [okName s.data.toList], 0, spaceErr S (S.len f) n] = 0
    · obtain ⟨_, h1, _, h3⟩ := all_zero4 he
      exact (append_ok hD s hs A n c l hl hn h1 hlk (space_ok h3)).mono fun x w' ⟨hx, hl⟩ => ⟨_, _, hx, hl, by rw [← hln]; exact step_append hD.tidy hD.presOK hD.inj _ f hlk l⟩
    · exact (append_fails _ s A n c w hs 0 0 _ _ hD.gives (fun _ _ => by have := hD.leads hs; rw [hlk] at this; exact this) (fun _ _ _ => hD.space hs hlk n hn) rfl he).mono fun x w' ⟨hx, hb⟩ => ⟨_, S, hx, left_same ⟨pm, dm, val, hD⟩ hb, (Step.refl S).more (Nat.zero_le _)⟩
end

/-- one call behind another -/
theorem Left5.trans {w w1 w2 : World} {F : Nat → Prop} {d : Nat} {S1 S2 : St} (hF : ∀ i, F i → i < w.heap.size) (h : Left5 F d w w1 S1) (k : Left5 (more F w w1) d w1 w2 S2) : Left5 F d w w2 S2 := by
  refine ⟨h.1.trans k.1 fun i hi hlt => ?_, k.2.mono (fun i hi => ?_) (more_lt hF (Nat.le_trans h.1.size k.1.size))⟩
  · rcases hi with hi | hi
    · exact hi
    · omega
  · rcases hi with (hi | hi) | hi
    · exact .inl hi
    · have := k.1.size; exact .inr ⟨hi.1, by omega⟩
    · have := h.1.size; exact .inr ⟨by omega, hi.2⟩
theorem Left5.below {w w1 w2 : World} {F : Nat → Prop} {d : Nat} {S : St} (hF : ∀ i, F i → i < w.heap.size) (h : Left5 F d w w1 S) (hb : Below w1.heap.size w1 w2) : Left5 F d w w2 S :=
  h.trans hF (left_same h.2 hb)
end Go.Proofs.YtbpdonnneleeeaaGreatDoor
