/-
  What becomes of a disk, where its memory turns: a name put or dropped, a file appended to or made durable, the directory made durable.
-/
import Derived.Test.YtopcnlophmplgaaDisk
namespace Go.Proofs.Ytopcnlophmplgaa
open Go.RowKit Go.Maps
open Go.WideShapes (insert_perm)
set_option maxRecDepth 100000
set_option linter.unusedVariables false
set_option linter.unusedSectionVars false

def upd {α : Type} (g : Nat → α) (b : Nat) (x : α) : Nat → α := fun i => if i = b then x else g i
theorem upd_same {α : Type} (g : Nat → α) (b : Nat) (x : α) : upd g b x b = x := if_pos rfl
theorem upd_other {α : Type} (g : Nat → α) {b i : Nat} (x : α) (h : i ≠ b) : upd g b x i = g i := if_neg h

def St.create (S : St) (k : List UInt8) (b : Nat) : St := { S with pres := S.pres.put (.string k) (.lit (.int .u64 (b : Int))), file := upd S.file b ⟨[], 0⟩ }
def St.remove (S : St) (k : List UInt8) : St := { S with pres := S.pres.del (.string k) }
def St.rename (S : St) (k k' : List UInt8) (f : Nat) : St := { S with pres := (S.pres.put (.string k') (.lit (.int .u64 (f : Int)))).del (.string k) }
def St.append (S : St) (f : Nat) (l : List UInt8) : St := { S with file := upd S.file f ⟨(S.file f).bytes ++ l, (S.file f).sure⟩ }
def St.sync (S : St) (f : Nat) : St := { S with file := upd S.file f ⟨(S.file f).bytes, (S.file f).bytes.length⟩ }
def St.names (S : St) : St := { S with dur := S.pres }

/-- what a call on a disk may write: its own memory, and new memory -/
structure Turn (F : Nat → Prop) (w w' : World) : Prop where
  os : w'.os = w.os
  tape : w'.tape = w.tape
  output : w'.output = w.output
  size : w.heap.size ≤ w'.heap.size
  block : ∀ i, i < w.heap.size → ¬ F i → w'.heap[i]? = w.heap[i]?
/-- F, and what was made since w -/
def more (F : Nat → Prop) (w w' : World) (i : Nat) : Prop := F i ∨ (w.heap.size ≤ i ∧ i < w'.heap.size)

theorem dirOK_put {D : Dir} (h : DirOK D) (k : List UInt8) (b : Nat) : DirOK (D.put (.string k) (.lit (.int .u64 (b : Int)))) := by
  cases D with
  | map es =>
    intro e he
    have he' : e ∈ DataW.insert ((Lit.string k), (DataW.lit (.int .u64 (b : Int)) : DataW Unit)) (es.filter fun p => !p.1.sameKey (.string k)) := he
    rcases List.mem_cons.1 ((insert_perm _ _).mem_iff.1 he') with rfl | h2
    · exact ⟨k, b, rfl, rfl⟩
    · exact h e (List.mem_filter.1 h2).1
  | _ => exact h
theorem dirOK_del {D : Dir} (h : DirOK D) (k : List UInt8) : DirOK (D.del (.string k)) := by
  cases D with
  | map es => exact fun e he => h e (List.mem_filter.1 he).1
  | _ => exact h
theorem look_lt {w : World} {F : Nat → Prop} {d pm dm : Nat} {S : St} {val : Nat → Value} (h : DiskAt w F d pm dm S val) {f : Nat} (hf : S.live f) : f < w.heap.size := h.lt f (h.files f hf).mem
theorem heap_len {w : World} {i : Nat} {o : Obj} (h : w.heap[i]? = some o) : i < w.heap.size := (Array.getElem?_eq_some_iff.1 h).1
theorem size_put_le {D : Dir} (h : Tidy D) (k : List UInt8) (b : Nat) : Maps.size (D.put (.string k) (.lit (.int .u64 (b : Int)))) ≤ Maps.size D + 1 := by
  rw [size_put h]; split <;> omega

section
variable {w w' : World} {F F' : Nat → Prop} {d pm dm : Nat} {S : St} {val : Nat → Value} (h : DiskAt w F d pm dm S val) (hF : ∀ i, F i → F' i) (hlt : ∀ i, F' i → i < w'.heap.size)
include h hF hlt

/-- the blocks of a file that no one writes -/
theorem file_on {f : Nat} (hf : S.live f) {x : Nat} (hx : ∀ i, F i → i ≠ x → w'.heap[i]? = w.heap[i]?) (h1 : f ≠ x) (h2 : ∀ r, (val f).ownBlock = some r → r ≠ x) : FileAt w' F' f (S.file f) (val f) := by
  have H := h.files f hf
  refine ⟨hF _ H.mem, (hx f H.mem h1).trans H.cells, ?_, fun r hr => hF r (H.row r hr), H.sure, H.max⟩
  obtain ⟨a1, a2⟩ := H.own
  refine ⟨a1, ?_⟩
  rcases a2 with a2 | ⟨g, cap, cur, hv, hg, hh, r⟩
  · exact .inl a2
  · have hr : (val f).ownBlock = some g := by rw [hv]; rfl
    exact .inr ⟨g, cap, cur, hv, hg, (hx g (H.row g hr) (h2 g hr)).trans hh, r⟩
theorem not_map {f : Nat} (hf : S.live f) {m n : Nat} {D : Dir} (hm : OwnD w m n D) : f ≠ m ∧ ∀ r, (val f).ownBlock = some r → r ≠ m := by
  have H := h.files f hf
  obtain ⟨es, clock, hb, _⟩ := hm
  refine ⟨fun e => ?_, fun r hr e => ?_⟩
  · subst e; rw [H.cells] at hb; cases hb
  · subst e
    rcases H.own.2 with ⟨hv, _⟩ | ⟨g, cap, cur, hv, _, hh, _⟩
    · rw [hv] at hr; cases hr
    · rw [hv] at hr; injection hr with hr
      have hr : g = r := hr
      subst hr; rw [hh] at hb; cases hb
theorem box_ne {m n : Nat} {D : Dir} (hm : OwnD w m n D) : d ≠ m := fun e => by
  obtain ⟨es, clock, hb, _⟩ := hm
  subst e; rw [h.box] at hb; cases hb

theorem mk_create {k : List UInt8} {b : Nat} (hb : b = w.heap.size) (hx : ∀ i, i < w.heap.size → i ≠ pm → w'.heap[i]? = w.heap[i]?) (hn : w'.heap[b]? = some (.cells #[.int .i64 0, .slice none 0 0] 90 (0, 0)))
    (ho : OwnD w' pm 65 (S.pres.put (.string k) (.lit (.int .u64 (b : Int))))) (hb' : F' b) (hk : look S.pres k = none) (hs : Maps.size S.pres < 64) : DiskAt w' F' d pm dm (S.create k b) (upd val b (.slice none 0 0)) := by
  have hM : IsMap S.pres := World.ownsMap.isMap h.pres
  have hlk := fun k' => look_put S.pres hM k k' b
  have hlive : ∀ f, (S.create k b).live f → f = b ∨ S.live f := by
    rintro f (⟨k', hk'⟩ | ⟨k', hk'⟩)
    · have hk' : look (S.pres.put (.string k) (.lit (.int .u64 (b : Int)))) k' = some f := hk'
      rw [hlk] at hk'
      by_cases e : k' = k
      · rw [if_pos e] at hk'; injection hk' with hk'; exact .inl hk'.symm
      · rw [if_neg e] at hk'; exact .inr (.inl ⟨k', hk'⟩)
    · exact .inr (.inr ⟨k', hk'⟩)
  have hxF : ∀ i, F i → i ≠ pm → w'.heap[i]? = w.heap[i]? := fun i hi hne => hx i (h.lt i hi) hne
  have hne : ∀ f, S.live f → f ≠ b := fun f hf e => by have := look_lt h hf; omega
  refine ⟨(hxF d h.fd (box_ne h hF hlt h.pres)).trans h.box, hF d h.fd, hF pm h.fp, hF dm h.fm, h.ne, OwnD.less ho ?_, h.dur.at_ (hxF dm h.fm h.ne.symm), dirOK_put h.presOK k b, h.durOK, ?_, ?_, ?_, h.lo, h.hi, hlt⟩
  · have := size_put_le h.tidy k b
    show Maps.size (S.pres.put (.string k) (.lit (.int .u64 (b : Int)))) ≤ 64
    omega
  · intro f hf
    show FileAt w' F' f (upd S.file b ⟨[], 0⟩ f) (upd val b (.slice none 0 0) f)
    by_cases e : f = b
    · rw [e, upd_same, upd_same]
      exact ⟨hb', hn, ⟨rfl, .inl ⟨rfl, rfl⟩⟩, fun r hr => by (cases hr), Nat.le_refl _, by simp⟩
    · rw [upd_other _ _ e, upd_other _ _ e]
      have hl := (hlive f hf).resolve_left e
      exact file_on h hF hlt hl hxF (not_map h hF hlt hl h.pres).1 (not_map h hF hlt hl h.pres).2
  · intro f g hf hg hfg r hr
    by_cases e : f = b
    · rw [e, upd_same] at hr; cases hr
    · by_cases e2 : g = b
      · rw [e2, upd_same]; exact fun e => by cases e
      · rw [upd_other _ _ e] at hr; rw [upd_other _ _ e2]
        exact h.apart f g ((hlive f hf).resolve_left e) ((hlive g hg).resolve_left e2) hfg r hr
  · intro k1 k2 f h1 h2
    have h1 : look (S.pres.put (.string k) (.lit (.int .u64 (b : Int)))) k1 = some f := h1
    have h2 : look (S.pres.put (.string k) (.lit (.int .u64 (b : Int)))) k2 = some f := h2
    rw [hlk] at h1 h2
    by_cases e1 : k1 = k
    · by_cases e2 : k2 = k
      · rw [e1, e2]
      · rw [if_pos e1] at h1; rw [if_neg e2] at h2
        injection h1 with h1
        exact absurd h1.symm (hne f (.inl ⟨k2, h2⟩))
    · by_cases e2 : k2 = k
      · rw [if_neg e1] at h1; rw [if_pos e2] at h2
        injection h2 with h2
        exact absurd h2.symm (hne f (.inl ⟨k1, h1⟩))
      · rw [if_neg e1] at h1; rw [if_neg e2] at h2
        exact h.inj k1 k2 f h1 h2

/-- another present directory, over files that were there -/
theorem mk_dir {D : Dir} (hx : ∀ i, F i → i ≠ pm → w'.heap[i]? = w.heap[i]?) (ho : OwnD w' pm 64 D) (hOK : DirOK D) (hl : ∀ k f, look D k = some f → S.live f) (hi : ∀ k k' f, look D k = some f → look D k' = some f → k = k') :
    DiskAt w' F' d pm dm { S with pres := D } val := by
  have hlive : ∀ f, St.live { S with pres := D } f → S.live f := by
    rintro f (⟨k', hk'⟩ | ⟨k', hk'⟩)
    · exact hl k' f hk'
    · exact .inr ⟨k', hk'⟩
  refine ⟨(hx d h.fd (box_ne h hF hlt h.pres)).trans h.box, hF d h.fd, hF pm h.fp, hF dm h.fm, h.ne, ho, h.dur.at_ (hx dm h.fm h.ne.symm), hOK, h.durOK, ?_, ?_, hi, h.lo, h.hi, hlt⟩
  · intro f hf
    have hl := hlive f hf
    exact file_on h hF hlt hl hx (not_map h hF hlt hl h.pres).1 (not_map h hF hlt hl h.pres).2
  · intro f g hf hg
    exact h.apart f g (hlive f hf) (hlive g hg)
theorem mk_remove {k : List UInt8} (hx : ∀ i, F i → i ≠ pm → w'.heap[i]? = w.heap[i]?) (ho : OwnD w' pm 64 (S.pres.del (.string k))) : DiskAt w' F' d pm dm (S.remove k) val := by
  have hlk : ∀ k' f, look (S.pres.del (.string k)) k' = some f → look S.pres k' = some f := fun k' f hh => by
    rw [look_del] at hh
    by_cases e : k' = k
    · rw [if_pos e] at hh; cases hh
    · rw [if_neg e] at hh; exact hh
  exact mk_dir h hF hlt hx ho (dirOK_del h.presOK k) (fun k' f hh => .inl ⟨k', hlk k' f hh⟩) (fun k1 k2 f h1 h2 => h.inj k1 k2 f (hlk _ _ h1) (hlk _ _ h2))
theorem mk_rename {k k' : List UInt8} {f : Nat} (hx : ∀ i, F i → i ≠ pm → w'.heap[i]? = w.heap[i]?) (ho : OwnD w' pm 65 ((S.pres.put (.string k') (.lit (.int .u64 (f : Int)))).del (.string k))) (hk : look S.pres k = some f) (hne : k ≠ k') : DiskAt w' F' d pm dm (S.rename k k' f) val := by
  have hM : IsMap S.pres := World.ownsMap.isMap h.pres
  have hlk : ∀ x g, look ((S.pres.put (.string k') (.lit (.int .u64 (f : Int)))).del (.string k)) x = some g → x ≠ k ∧ ((x = k' ∧ g = f) ∨ (x ≠ k' ∧ look S.pres x = some g)) := fun x g hh => by
    rw [look_del] at hh
    by_cases e : x = k
    · rw [if_pos e] at hh; cases hh
    · rw [if_neg e, look_put _ hM] at hh
      refine ⟨e, ?_⟩
      by_cases e2 : x = k'
      · rw [if_pos e2] at hh; injection hh with hh; exact .inl ⟨e2, hh.symm⟩
      · rw [if_neg e2] at hh; exact .inr ⟨e2, hh⟩
  refine mk_dir h hF hlt hx (OwnD.less ho ?_) (dirOK_del (dirOK_put h.presOK k' f) k) (fun x g hh => ?_) (fun x y g h1 h2 => ?_)
  · have t1 := size_put_le h.tidy k' f
    have t2 := size_del (k := .string k) (h.tidy.put (isKey k') (.lit (.int .u64 (f : Int)) : DataW Unit))
    have hh : Maps.has (S.pres.put (.string k') (.lit (.int .u64 (f : Int)))) (.string k) = true := by
      rw [has_put_other (fun e => hne (by injection e))]; exact has_look hk
    rw [hh, if_pos rfl] at t2
    have t3 := OwnD.size_le h.pres
    omega
  · rcases (hlk x g hh).2 with ⟨_, rfl⟩ | ⟨_, h2⟩
    · exact .inl ⟨k, hk⟩
    · exact .inl ⟨x, h2⟩
  · obtain ⟨n1, r1⟩ := hlk x g h1
    obtain ⟨n2, r2⟩ := hlk y g h2
    rcases r1 with ⟨rfl, rfl⟩ | ⟨_, r1⟩ <;> rcases r2 with ⟨rfl, e2⟩ | ⟨_, r2⟩
    · rfl
    · exact absurd (h.inj y k g r2 hk) n2
    · subst e2; exact absurd (h.inj x k g r1 hk) n1
    · exact h.inj x y g r1 r2

/-- a file's struct is written: its bytes, or how many of them are durable -/
theorem mk_file {f : Nat} (hf : S.live f) {c : FileC} {v' : Value} (hx : ∀ i, F i → i ≠ f → (∀ r, (val f).ownBlock = some r → i ≠ r) → w'.heap[i]? = w.heap[i]?) (hA : FileAt w' F' f c v')
    (hv : ∀ r, v'.ownBlock = some r → (val f).ownBlock = some r ∨ w.heap.size ≤ r) : DiskAt w' F' d pm dm { S with file := upd S.file f c } (upd val f v') := by
  have hlive : ∀ g, St.live { S with file := upd S.file f c } g → S.live g := fun g hg => hg
  have hrow : ∀ r, (val f).ownBlock = some r → ∃ cur, w.heap[r]? = some (.cells cur 5 (0, 0)) := fun r hr => by
    rcases (h.files f hf).own.2 with ⟨e, _⟩ | ⟨g, cap, cur, e, _, hh, _⟩
    · rw [e] at hr; cases hr
    · rw [e] at hr; injection hr with hr; have hr : g = r := hr; subst hr; exact ⟨cur, hh⟩
  have other : ∀ i o, w.heap[i]? = some o → F i → i ≠ f → (∀ cur, o ≠ .cells cur 5 (0, 0)) → w'.heap[i]? = some o := fun i o hi hFi hne ho =>
    (hx i hFi hne (fun r hr e => by subst e; obtain ⟨cur, hc⟩ := hrow i hr; rw [hc] at hi; injection hi with hi; exact ho cur hi.symm)).trans hi
  have hd : d ≠ f := fun e => by
    have h1 := h.box; rw [e, (h.files f hf).cells] at h1
    injection h1 with h1; injection h1 with h1 h2; exact absurd h2 (by decide)
  have mapOn : ∀ m n D, OwnD w m n D → F m → OwnD w' m n D := fun m n D hm hFm => by
    have hne := (not_map h hF hlt hf hm).1
    obtain ⟨es, clock, hb, r⟩ := hm
    exact ⟨es, clock, other m _ hb hFm hne.symm (fun cur e => by cases e), r⟩
  refine ⟨other d _ h.box h.fd hd (fun cur e => by injection e with e1 e2; exact absurd e2 (by decide)), hF d h.fd, hF pm h.fp, hF dm h.fm, h.ne, mapOn _ _ _ h.pres h.fp, mapOn _ _ _ h.dur h.fm, h.presOK, h.durOK, ?_, ?_, h.inj, h.lo, h.hi, hlt⟩
  · intro g hg
    show FileAt w' F' g (upd S.file f c g) (upd val f v' g)
    by_cases e : g = f
    · rw [e, upd_same, upd_same]; exact hA
    · rw [upd_other _ _ e, upd_other _ _ e]
      have H := h.files g (hlive g hg)
      refine ⟨hF _ H.mem, other g _ H.cells H.mem e (fun cur e => by injection e with e1 e2; exact absurd e2 (by decide)), ?_, fun r hr => hF r (H.row r hr), H.sure, H.max⟩
      obtain ⟨a1, a2⟩ := H.own
      refine ⟨a1, ?_⟩
      rcases a2 with a2 | ⟨q, cap, cur, hv', hq, hh, r⟩
      · exact .inl a2
      · have hr : (val g).ownBlock = some q := by rw [hv']; rfl
        refine .inr ⟨q, cap, cur, hv', hq, (hx q (H.row q hr) ?_ ?_).trans hh, r⟩
        · intro e3; subst e3
          rw [(h.files q hf).cells] at hh
          injection hh with hh; injection hh with h1 h2; exact absurd h2 (by decide)
        · intro r' hr' e3; subst e3
          exact h.apart f g hf (hlive g hg) (fun e4 => e e4.symm) q hr' hr
  · intro a b ha hb hab r hr
    by_cases e : a = f
    · rw [e, upd_same] at hr
      have eb : b ≠ f := fun e2 => hab (e.trans e2.symm)
      rw [upd_other _ _ eb]
      intro h3
      rcases hv r hr with h4 | h4
      · exact h.apart f b hf (hlive b hb) (fun e5 => eb e5.symm) r h4 h3
      · have := h.lt r ((h.files b (hlive b hb)).row r h3); omega
    · rw [upd_other _ _ e] at hr
      by_cases e2 : b = f
      · rw [e2, upd_same]
        intro h3
        rcases hv r h3 with h4 | h4
        · exact h.apart f a hf (hlive a ha) (fun e5 => e e5.symm) r h4 hr
        · have := h.lt r ((h.files a (hlive a ha)).row r hr); omega
      · rw [upd_other _ _ e2]; exact h.apart a b (hlive a ha) (hlive b hb) hab r hr

theorem mk_names {dm' : Nat} (hx : ∀ i, F i → i ≠ d → w'.heap[i]? = w.heap[i]?) (hbox : w'.heap[d]? = some (.cells #[.int .i64 (S.size : Int), .map (some pm), .map (some dm')] 95 (0, 0))) (hd : OwnD w' dm' 64 S.pres) (hF' : F' dm') (hne : pm ≠ dm') :
    DiskAt w' F' d pm dm' S.names val := by
  have hlive : ∀ f, S.names.live f → S.live f := by
    rintro f (⟨k', hk'⟩ | ⟨k', hk'⟩)
    · exact .inl ⟨k', hk'⟩
    · exact .inl ⟨k', hk'⟩
  refine ⟨hbox, hF d h.fd, hF pm h.fp, hF', hne, h.pres.at_ (hx pm h.fp (fun e => box_ne h hF hlt h.pres e.symm)), hd, h.presOK, h.presOK, ?_, ?_, h.inj, h.lo, h.hi, hlt⟩
  · intro f hf
    have hl := hlive f hf
    have H := h.files f hl
    refine file_on h hF hlt hl hx ?_ ?_
    · intro e; have h1 := h.box; rw [← e, H.cells] at h1
      injection h1 with h1; injection h1 with h1 h2; exact absurd h2 (by decide)
    · intro r hr e
      rcases H.own.2 with ⟨e1, _⟩ | ⟨g, cap, cur, e1, _, hh, _⟩
      · rw [e1] at hr; cases hr
      · rw [e1] at hr; injection hr with hr; have hr : g = r := hr
        rw [hr, e, h.box] at hh; injection hh with hh; injection hh with h1 h2; exact absurd h2 (by decide)
  · intro f g hf hg
    exact h.apart f g (hlive f hf) (hlive g hg)
end
end Go.Proofs.Ytopcnlophmplgaa
