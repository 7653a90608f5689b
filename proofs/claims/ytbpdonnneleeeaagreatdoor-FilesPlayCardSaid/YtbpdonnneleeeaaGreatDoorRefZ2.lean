/-
  The document's own disk holds what a disk of package files has ('Rf'); contracts of its Create, Remove, Rename.
  Contracts of the document's own disk: Remove, Sync, Size, Names, Rename.
-/
import Derived.Test.YtbpdonnneleeeaaGreatDoorRefZ1
import Derived.Deep.RegionHeld3
import Derived.BigQuiet
import Derived.StillTailTactics
namespace Go.Proofs.YtbpdonnneleeeaaGreatDoor
open Go.RowKit Go.Maps Go.Sort
set_option linter.unusedVariables false
set_option linter.unusedSectionVars false
set_option maxRecDepth 100000

/-- a row has a directory's names, with their files -/
def Rep (D : Dir) (L : NL) : Prop := Rise L ∧ ∀ k f, (k, f) ∈ L ↔ look D k = some f
theorem Rep.find {D : Dir} {L : NL} (h : Rep D L) {k : List UInt8} {f : Nat} (hk : look D k = some f) : ∃ i, idx L k = some i ∧ L[i]? = some (k, f) := by
  cases hi : idx L k with
  | none => exact absurd rfl (idx_none hi (k, f) ((h.2 k f).2 hk))
  | some i =>
    obtain ⟨g, h1, _⟩ := idx_some hi
    have := (h.2 k g).1 (List.mem_of_getElem? h1)
    rw [hk] at this; injection this with this
    exact ⟨i, rfl, by rw [this]; exact h1⟩
theorem Rep.not {D : Dir} {L : NL} (h : Rep D L) {k : List UInt8} (hk : look D k = none) : idx L k = none ∧ ∀ e ∈ L, e.1 ≠ k := by
  have h1 : ∀ e ∈ L, e.1 ≠ k := fun e he hek => by
    have := (h.2 e.1 e.2).1 he
    rw [hek, hk] at this; cases this
  exact ⟨idx_not fun j hj e he => h1 e (List.mem_of_getElem? he), h1⟩
theorem Rep.same {D D' : Dir} {L : NL} (h : Rep D L) (he : ∀ x, look D' x = look D x) : Rep D' L := ⟨h.1, fun k f => by rw [he]; exact h.2 k f⟩
theorem Rep.del {D : Dir} {L : NL} (h : Rep D L) {k : List UInt8} {f i : Nat} (hi : L[i]? = some (k, f)) : Rep (D.del (.string k)) (drp L i) := by
  refine ⟨rise_drp h.1 i, fun k' f' => ?_⟩
  rw [mem_drp h.1 hi, look_del]
  by_cases e : k' = k
  · rw [if_pos e]; exact ⟨fun x => absurd e x.2, fun x => by cases x⟩
  · rw [if_neg e, h.2]; exact ⟨fun x => x.1, fun x => ⟨x, e⟩⟩
theorem Rep.put {D : Dir} {L : NL} (h : Rep D L) (hM : IsMap D) {k : List UInt8} (f : Nat) (hk : look D k = none) : Rep (D.put (.string k) (.lit (.int .u64 (f : Int)))) (ins L k f) := by
  refine ⟨rise_ins h.1 (h.not hk).2, fun k' f' => ?_⟩
  rw [mem_ins, look_put _ hM, h.2]
  by_cases e : k' = k
  · rw [if_pos e]
    subst e
    rw [hk]
    constructor
    · rintro (x | x)
      · injection x with _ x; rw [x]
      · cases x
    · intro x; injection x with x; rw [x]; exact .inl rfl
  · rw [if_neg e]
    constructor
    · rintro (x | x)
      · injection x with x _; exact absurd x e
      · exact x
    · exact .inr
theorem rise_nodup {L : NL} (h : Rise L) : (L.map (·.1)).Nodup := by
  rw [List.Nodup, List.pairwise_map]
  exact List.Pairwise.imp (fun {a b} hab e => by rw [e] at hab; exact List.lt_irrefl _ hab) h
theorem Rep.keys {D : Dir} {L : NL} (h : Rep D L) (hD : DirOK D) (hT : Tidy D) : (L.map (·.1)).Perm (strKeys D) := by
  refine (List.perm_ext_iff_of_nodup (rise_nodup h.1) (keys_nodup hD hT)).2 fun k => ?_
  rw [key_look hD hT, List.mem_map]
  constructor
  · rintro ⟨e, he, rfl⟩
    rw [(h.2 e.1 e.2).1 he]; rfl
  · intro hk
    obtain ⟨f, hf⟩ := Option.isSome_iff_exists.1 hk
    exact ⟨(k, f), (h.2 k f).2 hf, rfl⟩
theorem Rep.len {D : Dir} {L : NL} (h : Rep D L) (hD : DirOK D) (hT : Tidy D) : L.length = Maps.size D := by
  have h1 := (h.keys hD hT).length_eq
  rw [List.length_map] at h1
  obtain ⟨es, rfl, _⟩ := hT
  rw [h1]
  show (es.map fun p => strOf p.1).length = es.length
  rw [List.length_map]
/-- the names, as List tells them -/
theorem Rep.list {S : St} {L : NL} (h : Rep S.pres L) (hD : DirOK S.pres) (hT : Tidy S.pres) : S.list = L.map (·.1) := by
  have h1 : S.list = (L.map (·.1)).mergeSort fun x y => decide (x ≤ y) := sorts_same (h.keys hD hT).symm
  rw [h1]
  refine List.mergeSort_of_pairwise ?_
  rw [List.pairwise_map]
  exact List.Pairwise.imp (fun {a b} hab => decide_eq_true (List.le_of_lt hab)) h.1

/-- the document's own disk in block m holds the disk S -/
def Rf (w : World) (G : Nat → Prop) (m : Nat) (S : St) : Prop :=
  ∃ R ρ A n c L A2 n2 c2 LS fa fk, RfAt w G R m S.size S.file ρ S.live A n c L A2 n2 c2 LS fa fk ∧ Rep S.pres L ∧ Rep S.dur LS
/-- behind a call on it -/
def Left6 (G : Nat → Prop) (m : Nat) (w w' : World) (S' : St) : Prop := Turn G w w' ∧ Rf w' (more G w w') m S'
theorem Rf.lt {w : World} {G : Nat → Prop} {m : Nat} {S : St} (h : Rf w G m S) : ∀ i, G i → i < w.heap.size := by
  obtain ⟨R, ρ, A, n, c, L, A2, n2, c2, LS, fa, fk, h, _⟩ := h; exact h.lt
theorem Rf.keep {w w' : World} {G : Nat → Prop} {m : Nat} {S : St} (h : Rf w G m S) (hs : ∀ i, G i → w'.heap[i]? = w.heap[i]?) (hz : w.heap.size ≤ w'.heap.size) : Rf w' G m S := by
  obtain ⟨R, ρ, A, n, c, L, A2, n2, c2, LS, fa, fk, h, h2⟩ := h
  exact ⟨R, ρ, A, n, c, L, A2, n2, c2, LS, fa, fk, h.keep hs hz, h2⟩
theorem Rf.below {w w' : World} {G : Nat → Prop} {m : Nat} {S : St} (h : Rf w G m S) (hb : Below w.heap.size w w') : Rf w' G m S := h.keep (fun i hi => hb.block i (h.lt i hi)) hb.size
theorem Rf.other {w w' : World} {F G : Nat → Prop} {m : Nat} {S : St} (h : Rf w G m S) (ht : Turn F w w') (hd : ∀ i, G i → ¬ F i) : Rf w' G m S := h.keep (fun i hi => ht.block i (h.lt i hi) (hd i hi)) ht.size
theorem Rf.mono {w : World} {G G' : Nat → Prop} {m : Nat} {S : St} (h : Rf w G m S) (hG : ∀ i, G i → G' i) (hlt : ∀ i, G' i → i < w.heap.size) : Rf w G' m S := by
  obtain ⟨R, ρ, A, n, c, L, A2, n2, c2, LS, fa, fk, h, h2⟩ := h
  exact ⟨R, ρ, A, n, c, L, A2, n2, c2, LS, fa, fk, h.mono hG hlt, h2⟩
theorem left6_same {w w' : World} {G : Nat → Prop} {m : Nat} {S : St} (h : Rf w G m S) (hb : Below w.heap.size w w') : Left6 G m w w' S :=
  ⟨Turn.of_below hb, (h.below hb).mono (fun i hi => .inl hi) (more_lt h.lt hb.size)⟩
/-- fewer files, and the files as they are -/
theorem RfAt.less {w : World} {G R : Nat → Prop} {m N : Nat} {file file' : Nat → FileC} {ρ : Nat → Nat} {T T' : Nat → Prop} {A A2 : Option Addr} {n c n2 c2 : Nat} {L LS : NL} {fa : Nat → Option Addr} {fk : Nat → Nat} (h : RfAt w G R m N file ρ T A n c L A2 n2 c2 LS fa fk)
    (hT : ∀ f, T' f → T f) (h1 : ∀ e ∈ L, T' e.2) (h2 : ∀ e ∈ LS, T' e.2) (hf : ∀ f, T' f → file' f = file f) : RfAt w G R m N file' ρ T' A n c L A2 n2 c2 LS fa fk :=
  ⟨h.box, h.gm, h.row, h.cap, h.row2, h.cap2, h1, h2, fun f hh => by rw [hf f hh]; exact h.files f (hT f hh), fun f g hf hg => h.inj f g (hT f hf) (hT g hg), h.few, h.few2, h.hi, h.rsub, h.rm, fun i f hi hf => h.rf i f hi (hT f hf), h.lt⟩
theorem live_rep {S : St} {L LS : NL} (h1 : Rep S.pres L) (h2 : Rep S.dur LS) : (∀ e ∈ L, S.live e.2) ∧ ∀ e ∈ LS, S.live e.2 :=
  ⟨fun e he => .inl ⟨e.1, (h1.2 e.1 e.2).1 he⟩, fun e he => .inr ⟨e.1, (h2.2 e.1 e.2).1 he⟩⟩
/-- one more turn behind another -/
theorem turn_more {w w1 w2 : World} {G : Nat → Prop} (h : Turn G w w1) (k : Turn (more G w w1) w1 w2) : Turn G w w2 := h.trans k fun i hi hlt => by
  rcases hi with hi | hi
  · exact hi
  · omega
theorem more_more {w w1 w2 : World} {G : Nat → Prop} (h : w.heap.size ≤ w1.heap.size) (k : w1.heap.size ≤ w2.heap.size) : ∀ i, more (more G w w1) w1 w2 i → more G w w2 i := fun i hi => by
  rcases hi with (hi | hi) | hi
  · exact .inl hi
  · exact .inr ⟨hi.1, by omega⟩
  · exact .inr ⟨by omega, hi.2⟩
theorem RfAt.few64 {S : St} {L : NL} (h : Rep S.pres L) (hD : DirOK S.pres) (hT : Tidy S.pres) (hz : Maps.size S.pres < 64) : L.length ≤ 63 := by
  rw [h.len hD hT]; omega
/-- a new, empty file in a block of its own -/
theorem RfAt.file_new {w : World} {G R : Nat → Prop} {m N : Nat} {file : Nat → FileC} {ρ : Nat → Nat} {T : Nat → Prop} {A A2 : Option Addr} {n c n2 c2 : Nat} {L LS : NL} {fa : Nat → Option Addr} {fk : Nat → Nat} (h : RfAt w G R m N file ρ T A n c L A2 n2 c2 LS fa fk) (b : Nat) (hb : ¬ T b) :
    RfAt (w.alloc (.cells #[.slice none 0 0, .int .i64 0] 103)) (more G w (w.alloc (.cells #[.slice none 0 0, .int .i64 0] 103))) R m N (upd file b ⟨[], 0⟩) (upd ρ b w.heap.size) (fun f => f = b ∨ T f) A n c L A2 n2 c2 LS (upd fa b none) (upd fk b 0) := by
  have hs := alloc_size w (.cells #[.slice none 0 0, .int .i64 0] 103)
  have hn := heap_alloc_new w (.cells #[.slice none 0 0, .int .i64 0] 103)
  have hB : Below w.heap.size w (w.alloc (.cells #[.slice none 0 0, .int .i64 0] 103)) := below_a (Below.refl _ _) _
  generalize w.alloc (.cells #[.slice none 0 0, .int .i64 0] 103) = W at *
  have h4 := h.below hB
  have hne : ∀ f, T f → f ≠ b := fun f hf e => hb (by rw [← e]; exact hf)
  have hr : ∀ e : List UInt8 × Nat, T e.2 → ρ e.2 = upd ρ b w.heap.size e.2 := fun e he => (upd_other _ _ (hne _ he)).symm
  have hG : ∀ i, G i → more G w W i := fun i hi => .inl hi
  have hold : ∀ f, T f → upd ρ b w.heap.size f = ρ f := fun f hf => upd_other _ _ (hne f hf)
  have hlt : ∀ f, T f → ρ f < w.heap.size := fun f hf => h.lt _ (h.files f hf).mem
  refine ⟨h4.box, .inl h.gm, by rw [← rowOf_congr fun e he => hr e (h.ids e he)]; exact h4.row, h.cap, by rw [← rowOf_congr fun e he => hr e (h.ids2 e he)]; exact h4.row2, h.cap2, fun e he => .inr (h.ids e he), fun e he => .inr (h.ids2 e he), ?_, ?_, h.few, h.few2, h.hi, fun i hi => .inl (h.rsub i hi), h.rm, ?_, more_lt h.lt (by omega)⟩
  · intro f hf
    by_cases e : f = b
    · subst e
      rw [upd_same, upd_same, upd_same, upd_same]
      exact ⟨.inr ⟨Nat.le_refl _, by omega⟩, hn, LiesIn.nil, ⟨Nat.le_refl _, Nat.zero_le _⟩, Nat.le_refl _, by simp⟩
    · rw [upd_other _ _ e, upd_other _ _ e, upd_other _ _ e, upd_other _ _ e]
      exact (h4.files f (hf.resolve_left e)).mono hG (fun i hi => hi)
  · intro f g hf hg hfg
    by_cases e : f = b
    · by_cases e2 : g = b
      · rw [e, e2]
      · have := hlt g (hg.resolve_left e2)
        rw [e, upd_same, upd_other _ _ e2] at hfg; omega
    · by_cases e2 : g = b
      · have := hlt f (hf.resolve_left e)
        rw [e2, upd_same, upd_other _ _ e] at hfg; omega
      · rw [upd_other _ _ e, upd_other _ _ e2] at hfg
        exact h.inj f g (hf.resolve_left e) (hg.resolve_left e2) hfg
  · intro i f hi hf
    by_cases e : f = b
    · rw [e, upd_same]; have := h.lt i (h.rsub i hi); omega
    · rw [upd_other _ _ e]; exact h.rf i f hi (hf.resolve_left e)

theorem fer3 {a b c : Int} : firstErr [0, a, b, c] = if a = 0 then (if b = 0 then c else b) else a := by
  unfold firstErr; rw [if_pos rfl]; unfold firstErr; split
  · unfold firstErr; split
    · unfold firstErr; split
      · rename_i h; rw [h]; rfl
      · rfl
    · rfl
  · rfl
theorem fer2 {a b : Int} : firstErr [0, a, b] = if a = 0 then b else a := by
  unfold firstErr; rw [if_pos rfl]; unfold firstErr; split
  · unfold firstErr; split
    · rename_i h; rw [h]; rfl
    · rfl
  · rfl
theorem arg1 (b : Bool) : argErr [b] = if b then 0 else 1 := by cases b <;> rfl

set_option maxHeartbeats 2000000 in
theorem rcreate_fails {w : World} {G : Nat → Prop} {m : Nat} {S : St} (h : Rf w G m S) (hD : DirOK S.pres) (hT : Tidy S.pres) (s : ByteArray) (hs : s.size ≤ 140737488355328) {e : Int} (he : firstErr [0, argErr [okName s.data.toList], thereErr (look S.pres s.data.toList), fullErr S.pres] = e) (hne : e ≠ 0) :
    Calls Tryz.prog 10 #[.pointer (some ⟨m, 0, none⟩), .string s] w fun x w' => x = .returned (er e) ∧ w' = w := by
  obtain ⟨R, ρ, A, n, c, L, A2, n2, c2, LS, fa, fk, h, h1, h2⟩ := h
  rw [fer3, arg1] at he
  have HN := Lib.hid (rname_any s w hs)
  have HF := Lib.hid (find_any h.c1 h.row h.nlen (by have := h.few; have := h.nlen; omega) s)
  have hc1 := h.c1
  have hnl : n = Maps.size S.pres := by rw [h.nlen]; exact h1.len hD hT
  cases hok : okName s.data.toList with
  | false =>
    rw [hok] at he HN
    have he : (1 : Int) = e := he
    have HE := Lib.hid he
    clear he hok
    go_enter Tryz.func10, Tryz.ntmps10
    go_wp2_with fail
    refine HN.out.mono ?_
    rintro x w' ⟨rfl, rfl⟩
    go_wp2
    go_ret
    exact ⟨by rw [← HE.out]; rfl, rfl⟩
  | true =>
    rw [hok] at he HN
    have he : (if thereErr (look S.pres s.data.toList) = 0 then fullErr S.pres else thereErr (look S.pres s.data.toList)) = e := he
    cases hk : look S.pres s.data.toList with
    | some f =>
      rw [hk] at he
      have he : (8 : Int) = e := he
      obtain ⟨i, hi, _⟩ := h1.find hk
      rw [hi] at HF
      have HF : Hid (Calls Tryz.prog 50 #[.pointer (some ⟨m, 0, none⟩), .string s] w fun x w' => x = .returned (.int .i64 (i : Int)) ∧ w' = w) := HF.out
      have HE := Lib.hid he
      clear he hok hk hi
      go_enter Tryz.func10, Tryz.ntmps10
      go_wp2_with fail
      refine HN.out.mono ?_
      rintro x w' ⟨rfl, rfl⟩
      go_wp2_with fail
      refine HF.out.mono ?_
      rintro x w'' ⟨rfl, rfl⟩
      go_wp2
      go_ret
      exact ⟨by rw [← HE.out]; rfl, rfl⟩
    | none =>
      rw [hk] at he
      have he : fullErr S.pres = e := he
      have hz : ¬ Maps.size S.pres < 64 := fun x => hne (by rw [← he]; unfold fullErr; rw [if_pos x])
      have he6 : (6 : Int) = e := by rw [← he]; unfold fullErr; rw [if_neg hz]
      have HF : Hid (Calls Tryz.prog 50 #[.pointer (some ⟨m, 0, none⟩), .string s] w fun x w' => x = .returned (.int .i64 (-1)) ∧ w' = w) := by have := HF.out; rw [(h1.not hk).1] at this; exact this
      have j1 : (64 : Int) ≤ (n : Int) := by omega
      have HE := Lib.hid he6
      clear he hok hk he6 hz hnl
      go_enter Tryz.func10, Tryz.ntmps10
      go_wp2_with fail
      refine HN.out.mono ?_
      rintro x w' ⟨rfl, rfl⟩
      go_wp2_with fail
      refine HF.out.mono ?_
      rintro x w'' ⟨rfl, rfl⟩
      go_wp2
      go_ret
      exact ⟨by rw [← HE.out]; rfl, rfl⟩

set_option maxHeartbeats 2000000 in
theorem rcreate_ok {w : World} {G : Nat → Prop} {m : Nat} {S : St} (h : Rf w G m S) (hD : DirOK S.pres) (hT : Tidy S.pres) (s : ByteArray) (hs : s.size ≤ 140737488355328) (hn : okName s.data.toList = true) (hk : look S.pres s.data.toList = none) (hz : Maps.size S.pres < 64) (b : Nat) (hb : ¬ S.live b) :
    Calls Tryz.prog 10 #[.pointer (some ⟨m, 0, none⟩), .string s] w fun x w' => x = .returned (er 0) ∧ Left6 G m w w' (S.create s.data.toList b) := by
  obtain ⟨R, ρ, A, n, c, L, A2, n2, c2, LS, fa, fk, h, h1, h2⟩ := h
  have HN := Lib.hid (rname_any s w hs)
  rw [hn] at HN
  have hF := find_any h.c1 h.row h.nlen (by have := h.few; have := h.nlen; omega) s
  rw [(h1.not hk).1] at hF
  have HF : Hid (Calls Tryz.prog 50 #[.pointer (some ⟨m, 0, none⟩), .string s] w fun x w' => x = .returned (.int .i64 (-1)) ∧ w' = w) := hF
  have hc1 := h.c1
  have hL := h1.len hD hT
  have j1 : (n : Int) < 64 := by rw [h.nlen, hL]; omega
  have hB1 : Below w.heap.size w (w.alloc (.cells #[.slice none 0 0, .int .i64 0] 103)) := below_a (Below.refl _ _) _
  have hnew := h.file_new b hb
  have HLd := Lib.hid (lead_any hnew s b (.inl rfl) (by omega))
  rw [upd_same] at HLd
  have HB1 := Lib.hid hB1
  have HLt := Lib.hid h.lt
  have hM : IsMap S.pres := by obtain ⟨es, he, _⟩ := hT; exact ⟨es, he⟩
  have HR1 := Lib.hid (h1.put hM b hk); have HR2 := Lib.hid h2
  clear hF hn hk hz hL hB1 hnew h h1 h2
  go_enter Tryz.func10, Tryz.ntmps10
  go_wp2_with fail
  refine HN.out.mono ?_
  rintro x w' ⟨rfl, rfl⟩
  go_wp2_with fail
  refine HF.out.mono ?_
  rintro x w'' ⟨rfl, rfl⟩
  go_wp2_with fail
  refine HLd.out.mono ?_
  rintro x w3 ⟨rfl, hT3, A', n', c', R', hR'⟩
  have HE : Hid (Left6 G m w'' w3 (S.create s.data.toList b)) := by
    refine ⟨turn_more (Turn.of_below HB1.out) hT3, R', upd ρ b w''.heap.size, A', n', c', ins L s.data.toList b, A2, n2, c2, LS, upd fa b none, upd fk b 0, ?_, HR1.out, HR2.out⟩
    refine RfAt.mono (RfAt.less hR' (T' := (S.create s.data.toList b).live) ?_ ?_ ?_ (fun f _ => rfl)) (more_more HB1.out.size hT3.size) (more_lt HLt.out (Nat.le_trans HB1.out.size hT3.size))
    · rintro f (⟨k, hk⟩ | ⟨k, hk⟩)
      · have hk : look (S.pres.put (.string s.data.toList) (.lit (.int .u64 (b : Int)))) k = some f := hk
        rw [look_put _ hM] at hk
        by_cases e : k = s.data.toList
        · rw [if_pos e] at hk; injection hk with hk; exact .inl hk.symm
        · rw [if_neg e] at hk; exact .inr (.inl ⟨k, hk⟩)
      · exact .inr (.inr ⟨k, hk⟩)
    · intro e he; exact .inl ⟨e.1, (HR1.out.2 e.1 e.2).1 he⟩
    · intro e he; exact .inr ⟨e.1, (HR2.out.2 e.1 e.2).1 he⟩
  clear hT3 hR'
  go_wp2
  go_ret
  exact ⟨rfl, HE.out⟩
end Go.Proofs.YtbpdonnneleeeaaGreatDoor

namespace Go.Proofs.YtbpdonnneleeeaaGreatDoor
open Go.RowKit Go.Maps Go.Sort
set_option linter.unusedVariables false
set_option linter.unusedSectionVars false
set_option maxRecDepth 100000

section
variable {w w4 w5 : World} {G R : Nat → Prop} {m N : Nat} {file : Nat → FileC} {ρ : Nat → Nat} {T : Nat → Prop} {A A2 : Option Addr} {n c n2 c2 : Nat} {L LS : NL} {fa : Nat → Option Addr} {fk : Nat → Nat}
theorem RfAt.found {S : St} (h : RfAt w G R m N file ρ T A n c L A2 n2 c2 LS fa fk) (h1 : Rep S.pres L) {k : List UInt8} {f : Nat} (hk : look S.pres k = some f) :
    ∃ i b o, idx L k = some i ∧ i < n ∧ L[i]? = some (k, f) ∧ A = some ⟨b, o, none⟩ ∧ w.cell? ⟨b, o + i * 2 + 1, none⟩ = some (fp (ρ f)) ∧ T f := by
  obtain ⟨i, hi, he⟩ := h1.find hk
  have hin : i < n := by rw [h.nlen]; exact (List.getElem?_eq_some_iff.1 he).1
  obtain ⟨b, o, e, hA, _, he2, q1, q2⟩ := pair_at h.row hin
  rw [he] at he2; injection he2 with he2; subst he2
  exact ⟨i, b, o, hi, hin, he, hA, q2, h.ids _ (List.mem_of_getElem? he)⟩
theorem RFile.f0 {b k : Nat} {cc : FileC} (h : RFile w G R b cc A k) : w.cell? ⟨b, 0, none⟩ = some (.slice A cc.bytes.length k) := by rw [cell_of_row w b 0 _ _ (0, 0) h.cells]; rfl
theorem RFile.f1 {b k : Nat} {cc : FileC} (h : RFile w G R b cc A k) : w.cell? ⟨b, 1, none⟩ = some (.int .i64 (cc.sure : Int)) := by rw [cell_of_row w b 1 _ _ (0, 0) h.cells]; rfl
theorem RFile.thaw {b k : Nat} {cc : FileC} (h : RFile w G R b cc A k) (j : Nat) : w.frozen? ⟨b, j, none⟩ = false := by simp [World.frozen?, h.cells]
theorem rfile_box {W : World} {b : Nat} {x y v : Value} {t : TypeId} {j : Nat} (hw : W.heap[b]? = some (.cells #[x, y] t (0, 0))) : (W.setCell ⟨b, j, none⟩ v).heap[b]? = some (.cells (#[x, y].setIfInBounds j v) t (0, 0)) := by
  simp only [World.setCell, Array.getElem?_modify, if_pos, hw, Option.map_some, Option.isSome_none, Bool.false_eq_true, if_false]
/-- a file's struct is written -/
theorem mk_rfile (h : RfAt w G R m N file ρ T A n c L A2 n2 c2 LS fa fk) (hB : Below w.heap.size w w4) {f j : Nat} {v : Value} (hf : T f) (hw : w5 = w4.setCell ⟨ρ f, j, none⟩ v) {cc : FileC} {A' : Option Addr} {k' : Nat} {R' : Nat → Prop} (hR : ∀ i, R i → R' i) (hnew : ∀ i, R' i → R i ∨ (w.heap.size ≤ i ∧ i < w4.heap.size))
    (hcells : w5.heap[ρ f]? = some (.cells #[.slice A' cc.bytes.length k', .int .i64 (cc.sure : Int)] 103 (0, 0))) (hl : LiesIn w5 R' 1 A' cc.bytes.length (cc.bytes.map bv)) (hc : cc.bytes.length ≤ k' ∧ k' ≤ maxLen) (hs : cc.sure ≤ cc.bytes.length) (hm : cc.bytes.length ≤ 1048576) :
    Turn G w w5 ∧ RfAt w5 (more G w w5) R' m N (upd file f cc) ρ T A n c L A2 n2 c2 LS (upd fa f A') (upd fk f k') := by
  have hx : ∀ i, i ≠ ρ f → w5.heap[i]? = w4.heap[i]? := fun i hi => by rw [hw]; exact Below.heap_setCell _ _ _ _ hi
  have hz : w5.heap.size = w4.heap.size := by rw [hw]; simp [World.setCell]
  have hsz := hB.size
  have h4 := h.below hB
  have hxR : ∀ i, R i → w5.heap[i]? = w4.heap[i]? := fun i hi => hx i (h.rf i f hi hf)
  have hmf := h.mfile f hf
  have hold : ∀ i, R' i → ∀ b, b < w.heap.size → (R i → i ≠ b) → i ≠ b := fun i hi b hb h1 => by
    rcases hnew i hi with h2 | h2
    · exact h1 h2
    · omega
  refine ⟨⟨by rw [hw]; exact hB.os, by rw [hw]; exact hB.tape, by rw [hw]; exact hB.output, by omega, fun i hi hn => (hx i (fun e => hn (by rw [e]; exact (h.files f hf).mem))).trans (hB.block i hi)⟩, ?_⟩
  refine ⟨(hx m (fun e => hmf e.symm)).trans h4.box, .inl h.gm, (h4.row.keep hxR).mono hR, h.cap, (h4.row2.keep hxR).mono hR, h.cap2, h.ids, h.ids2, ?_, h.inj, h.few, h.few2, h.hi, ?_, fun i hi => hold i hi m (h.lt m h.gm) (h.rm i), fun i g hi hg => hold i hi _ (h.lt _ (h.files g hg).mem) (fun hr => h.rf i g hr hg), more_lt h.lt (by omega)⟩
  · intro g hg
    by_cases e : g = f
    · subst e
      rw [upd_same, upd_same, upd_same]
      exact ⟨.inl (h.files g hg).mem, hcells, hl, hc, hs, hm⟩
    · rw [upd_other _ _ e, upd_other _ _ e, upd_other _ _ e]
      exact ((h4.files g hg).keep (hx _ (fun x => e (h.inj g f hg hf x))) hxR).mono (fun i hi => .inl hi) hR
  · intro i hi
    rcases hnew i hi with h2 | h2
    · exact .inl (h.rsub i h2)
    · exact .inr ⟨h2.1, by omega⟩
end

set_option maxHeartbeats 2000000 in
theorem rremove_fails {w : World} {G : Nat → Prop} {m : Nat} {S : St} (h : Rf w G m S) (s : ByteArray) (hs : s.size ≤ 140737488355328) {e : Int} (he : firstErr [0, argErr [okName s.data.toList], noneErr (look S.pres s.data.toList)] = e) (hne : e ≠ 0) :
    Calls Tryz.prog 12 #[.pointer (some ⟨m, 0, none⟩), .string s] w fun x w' => x = .returned (er e) ∧ w' = w := by
  obtain ⟨R, ρ, A, n, c, L, A2, n2, c2, LS, fa, fk, h, h1, h2⟩ := h
  rw [fer2, arg1] at he
  have HN := Lib.hid (rname_any s w hs)
  have HF := Lib.hid (find_any h.c1 h.row h.nlen (by have := h.few; have := h.nlen; omega) s)
  cases hok : okName s.data.toList with
  | false =>
    rw [hok] at he HN
    have he : (1 : Int) = e := he
    have HE := Lib.hid he
    clear he hok
    go_enter Tryz.func12, Tryz.ntmps12
    go_wp2_with fail
    refine HN.out.mono ?_
    rintro x w' ⟨rfl, rfl⟩
    go_wp2
    go_ret
    exact ⟨by rw [← HE.out]; rfl, rfl⟩
  | true =>
    rw [hok] at he HN
    have he : noneErr (look S.pres s.data.toList) = e := he
    cases hk : look S.pres s.data.toList with
    | some f => rw [hk] at he; exact absurd he.symm hne
    | none =>
      rw [hk] at he
      have he : (7 : Int) = e := he
      have HF : Hid (Calls Tryz.prog 50 #[.pointer (some ⟨m, 0, none⟩), .string s] w fun x w' => x = .returned (.int .i64 (-1)) ∧ w' = w) := by have := HF.out; rw [(h1.not hk).1] at this; exact this
      have HE := Lib.hid he
      clear he hok hk
      go_enter Tryz.func12, Tryz.ntmps12
      go_wp2_with fail
      refine HN.out.mono ?_
      rintro x w' ⟨rfl, rfl⟩
      go_wp2_with fail
      refine HF.out.mono ?_
      rintro x w'' ⟨rfl, rfl⟩
      go_wp2
      go_ret
      exact ⟨by rw [← HE.out]; rfl, rfl⟩

set_option maxHeartbeats 2000000 in
theorem rsync_fails {w : World} {G : Nat → Prop} {m : Nat} {S : St} (h : Rf w G m S) (s : ByteArray) (hs : s.size ≤ 140737488355328) {e : Int} (he : firstErr [0, argErr [okName s.data.toList], noneErr (look S.pres s.data.toList)] = e) (hne : e ≠ 0) :
    Calls Tryz.prog 22 #[.pointer (some ⟨m, 0, none⟩), .string s] w fun x w' => x = .returned (er e) ∧ w' = w := by
  obtain ⟨R, ρ, A, n, c, L, A2, n2, c2, LS, fa, fk, h, h1, h2⟩ := h
  rw [fer2, arg1] at he
  have HN := Lib.hid (rname_any s w hs)
  have HF := Lib.hid (find_any h.c1 h.row h.nlen (by have := h.few; have := h.nlen; omega) s)
  cases hok : okName s.data.toList with
  | false =>
    rw [hok] at he HN
    have he : (1 : Int) = e := he
    have HE := Lib.hid he
    clear he hok
    go_enter Tryz.func22, Tryz.ntmps22
    go_wp2_with fail
    refine HN.out.mono ?_
    rintro x w' ⟨rfl, rfl⟩
    go_wp2
    go_ret
    exact ⟨by rw [← HE.out]; rfl, rfl⟩
  | true =>
    rw [hok] at he HN
    have he : noneErr (look S.pres s.data.toList) = e := he
    cases hk : look S.pres s.data.toList with
    | some f => rw [hk] at he; exact absurd he.symm hne
    | none =>
      rw [hk] at he
      have he : (7 : Int) = e := he
      have HF : Hid (Calls Tryz.prog 50 #[.pointer (some ⟨m, 0, none⟩), .string s] w fun x w' => x = .returned (.int .i64 (-1)) ∧ w' = w) := by have := HF.out; rw [(h1.not hk).1] at this; exact this
      have HE := Lib.hid he
      clear he hok hk
      go_enter Tryz.func22, Tryz.ntmps22
      go_wp2_with fail
      refine HN.out.mono ?_
      rintro x w' ⟨rfl, rfl⟩
      go_wp2_with fail
      refine HF.out.mono ?_
      rintro x w'' ⟨rfl, rfl⟩
      go_wp2
      go_ret
      exact ⟨by rw [← HE.out]; rfl, rfl⟩

set_option maxHeartbeats 2000000 in
theorem rsize_fails {w : World} {G : Nat → Prop} {m : Nat} {S : St} (h : Rf w G m S) (s : ByteArray) (hs : s.size ≤ 140737488355328) {e : Int} (he : firstErr [0, argErr [okName s.data.toList], noneErr (look S.pres s.data.toList)] = e) (hne : e ≠ 0) :
    Calls Tryz.prog 29 #[.pointer (some ⟨m, 0, none⟩), .string s] w fun x w' => x = .returned (.tuple #[.int .i64 0, er e]) ∧ w' = w := by
  obtain ⟨R, ρ, A, n, c, L, A2, n2, c2, LS, fa, fk, h, h1, h2⟩ := h
  rw [fer2, arg1] at he
  have HN := Lib.hid (rname_any s w hs)
  have HF := Lib.hid (find_any h.c1 h.row h.nlen (by have := h.few; have := h.nlen; omega) s)
  cases hok : okName s.data.toList with
  | false =>
    rw [hok] at he HN
    have he : (1 : Int) = e := he
    have HE := Lib.hid he
    clear he hok
    go_enter Tryz.func29, Tryz.ntmps29
    go_wp2_with fail
    refine HN.out.mono ?_
    rintro x w' ⟨rfl, rfl⟩
    go_wp2
    go_ret2
    exact ⟨by rw [← HE.out]; rfl, rfl⟩
  | true =>
    rw [hok] at he HN
    have he : noneErr (look S.pres s.data.toList) = e := he
    cases hk : look S.pres s.data.toList with
    | some f => rw [hk] at he; exact absurd he.symm hne
    | none =>
      rw [hk] at he
      have he : (7 : Int) = e := he
      have HF : Hid (Calls Tryz.prog 50 #[.pointer (some ⟨m, 0, none⟩), .string s] w fun x w' => x = .returned (.int .i64 (-1)) ∧ w' = w) := by have := HF.out; rw [(h1.not hk).1] at this; exact this
      have HE := Lib.hid he
      clear he hok hk
      go_enter Tryz.func29, Tryz.ntmps29
      go_wp2_with fail
      refine HN.out.mono ?_
      rintro x w' ⟨rfl, rfl⟩
      go_wp2_with fail
      refine HF.out.mono ?_
      rintro x w'' ⟨rfl, rfl⟩
      go_wp2
      go_ret2
      exact ⟨by rw [← HE.out]; rfl, rfl⟩

set_option maxHeartbeats 2000000 in
theorem rremove_ok {w : World} {G : Nat → Prop} {m : Nat} {S : St} (h : Rf w G m S) (s : ByteArray) (hs : s.size ≤ 140737488355328) (hn : okName s.data.toList = true) {f : Nat} (hk : look S.pres s.data.toList = some f) :
    Calls Tryz.prog 12 #[.pointer (some ⟨m, 0, none⟩), .string s] w fun x w' => x = .returned (er 0) ∧ Left6 G m w w' (S.remove s.data.toList) := by
  obtain ⟨R, ρ, A, n, c, L, A2, n2, c2, LS, fa, fk, h, h1, h2⟩ := h
  have HN := Lib.hid (rname_any s w hs)
  rw [hn] at HN
  have hF := find_any h.c1 h.row h.nlen (by have := h.few; have := h.nlen; omega) s
  obtain ⟨i, b, o, hi, hin, hie, hA, q2, hf⟩ := h.found h1 hk
  rw [hi] at hF
  have HF : Hid (Calls Tryz.prog 50 #[.pointer (some ⟨m, 0, none⟩), .string s] w fun x w' => x = .returned (.int .i64 (i : Int)) ∧ w' = w) := hF
  have HD := Lib.hid (drop_any h i (List.getElem?_eq_some_iff.1 hie).1)
  have HR1 := Lib.hid (h1.del hie); have HR2 := Lib.hid h2
  clear hF hn hk hi hie q2 hf h h1 h2 hA
  go_enter Tryz.func12, Tryz.ntmps12
  go_wp2_with fail
  refine HN.out.mono ?_
  rintro x w' ⟨rfl, rfl⟩
  go_wp2_with fail
  refine HF.out.mono ?_
  rintro x w'' ⟨rfl, rfl⟩
  go_wp2_with fail
  refine HD.out.mono ?_
  rintro x w3 ⟨rfl, hT3, A', n', c', R', hR'⟩
  have HE : Hid (Left6 G m w'' w3 (S.remove s.data.toList)) := by
    refine ⟨hT3, R', ρ, A', n', c', drp L i, A2, n2, c2, LS, fa, fk, ?_, HR1.out, HR2.out⟩
    refine RfAt.less hR' (T' := (S.remove s.data.toList).live) ?_ (fun e he => .inl ⟨e.1, (HR1.out.2 e.1 e.2).1 he⟩) (fun e he => .inr ⟨e.1, (HR2.out.2 e.1 e.2).1 he⟩) (fun f _ => rfl)
    rintro f (⟨k, hk⟩ | ⟨k, hk⟩)
    · have hk : look (S.pres.del (.string s.data.toList)) k = some f := hk
      rw [look_del] at hk
      by_cases e : k = s.data.toList
      · rw [if_pos e] at hk; cases hk
      · rw [if_neg e] at hk; exact .inl ⟨k, hk⟩
    · exact .inr ⟨k, hk⟩
  clear hT3 hR'
  go_wp2
  go_ret
  exact ⟨rfl, HE.out⟩

set_option maxHeartbeats 2000000 in
theorem rsize_ok {w : World} {G : Nat → Prop} {m : Nat} {S : St} (h : Rf w G m S) (s : ByteArray) (hs : s.size ≤ 140737488355328) (hn : okName s.data.toList = true) {f : Nat} (hk : look S.pres s.data.toList = some f) :
    Calls Tryz.prog 29 #[.pointer (some ⟨m, 0, none⟩), .string s] w fun x w' => x = .returned (.tuple #[.int .i64 (S.len f : Int), er 0]) ∧ w' = w := by
  obtain ⟨R, ρ, A, n, c, L, A2, n2, c2, LS, fa, fk, h, h1, h2⟩ := h
  have HN := Lib.hid (rname_any s w hs)
  rw [hn] at HN
  have hF := find_any h.c1 h.row h.nlen (by have := h.few; have := h.nlen; omega) s
  obtain ⟨i, b, o, hi, hin, hie, hA, q2, hf⟩ := h.found h1 hk
  rw [hi] at hF
  have HF : Hid (Calls Tryz.prog 50 #[.pointer (some ⟨m, 0, none⟩), .string s] w fun x w' => x = .returned (.int .i64 (i : Int)) ∧ w' = w) := hF
  have c1 := h.c1
  have f0 := (h.files f hf).f0
  have hnc := h.cap.1
  have hfl : (S.file f).bytes.length = S.len f := rfl
  rw [hfl] at f0
  subst hA
  have hl70 : n ≤ 70 := by have := h.few; have := h.nlen; omega
  clear hF hn hk hi hie hf h h1 h2 hfl
  go_enter Tryz.func29, Tryz.ntmps29
  go_wp2_with fail
  refine HN.out.mono ?_
  rintro x w' ⟨rfl, rfl⟩
  go_wp2_with fail
  refine HF.out.mono ?_
  rintro x w'' ⟨rfl, rfl⟩
  go_wp2
  go_ret2
  exact ⟨rfl, rfl⟩

set_option maxHeartbeats 2000000 in
theorem rsync_ok {w : World} {G : Nat → Prop} {m : Nat} {S : St} (h : Rf w G m S) (s : ByteArray) (hs : s.size ≤ 140737488355328) (hn : okName s.data.toList = true) {f : Nat} (hk : look S.pres s.data.toList = some f) :
    Calls Tryz.prog 22 #[.pointer (some ⟨m, 0, none⟩), .string s] w fun x w' => x = .returned (er 0) ∧ Left6 G m w w' (S.sync f) := by
  obtain ⟨R, ρ, A, n, c, L, A2, n2, c2, LS, fa, fk, h, h1, h2⟩ := h
  have HN := Lib.hid (rname_any s w hs)
  rw [hn] at HN
  have hF := find_any h.c1 h.row h.nlen (by have := h.few; have := h.nlen; omega) s
  obtain ⟨i, b, o, hi, hin, hie, hA, q2, hf⟩ := h.found h1 hk
  rw [hi] at hF
  have HF : Hid (Calls Tryz.prog 50 #[.pointer (some ⟨m, 0, none⟩), .string s] w fun x w' => x = .returned (.int .i64 (i : Int)) ∧ w' = w) := hF
  have c1 := h.c1
  have hfile := h.files f hf
  have f0 := hfile.f0
  have f1 := hfile.f1
  have hfz := hfile.thaw 1
  have hnc := h.cap.1
  have hl70 : n ≤ 70 := by have := h.few; have := h.nlen; omega
  have HH := Lib.hid h; have HFi := Lib.hid hfile; have HT := Lib.hid hf; have H1 := Lib.hid h1; have H2 := Lib.hid h2
  have HE : Hid (∀ q : Nat, Left6 G m w ((w.drewN q).setCell ⟨ρ f, 1, none⟩ (.int .i64 ((S.file f).bytes.length : Int))) (S.sync f)) := fun q => by
    have hbx := rfile_box (j := 1) (v := .int .i64 ((S.file f).bytes.length : Int)) (show (w.drewN q).heap[ρ f]? = _ from hfile.cells)
    obtain ⟨a1, a2⟩ := mk_rfile (cc := ⟨(S.file f).bytes, (S.file f).bytes.length⟩) (A' := fa f) (k' := fk f) (R' := R) h (below_q w q) hf rfl (fun i hi => hi) (fun i hi => .inl hi) hbx
      (hfile.lies.keep fun i hi => Below.heap_setCell _ _ _ _ (h.rf i f hi hf)) hfile.cap (Nat.le_refl _) hfile.max
    exact ⟨a1, R, ρ, A, n, c, L, A2, n2, c2, LS, _, _, a2, h1, h2⟩
  generalize (S.file f).bytes.length = len at *
  subst hA
  clear hF hn hk hi hie hf h h1 h2 hfile
  go_enter Tryz.func22, Tryz.ntmps22
  go_wp2_with fail
  refine HN.out.mono ?_
  rintro x w' ⟨rfl, rfl⟩
  go_wp2_with fail
  refine HF.out.mono ?_
  rintro x w'' ⟨rfl, rfl⟩
  have HE1 : Hid (Left6 G m w'' (w''.drew.setCell ⟨ρ f, 1, none⟩ (.int .i64 (len : Int))) (S.sync f)) := HE.out 1
  have hfz1 : w''.drew.frozen? ⟨ρ f, 1, none⟩ = false := hfz
  have f1' : w''.drew.cell? ⟨ρ f, 1, none⟩ = some (.int .i64 ((S.file f).sure : Int)) := f1
  clear HE
  go_wp2_with fail
  go_still_tail 22, (by kernel_rfl)
  change wpList _ _ _ _ _ w''.drew
  generalize w''.drew = w2 at *
  go_wp2
  go_ret
  exact ⟨rfl, HE1.out⟩

set_option maxHeartbeats 2000000 in
theorem rnames_ok {w : World} {G : Nat → Prop} {m : Nat} {S : St} (h : Rf w G m S) :
    Calls Tryz.prog 24 #[.pointer (some ⟨m, 0, none⟩)] w fun x w' => x = .returned (er 0) ∧ Left6 G m w w' S.names := by
  obtain ⟨i0, hi, hz0, hz1, hz2⟩ := info_parts nm_info
  obtain ⟨R, ρ, A, n, c, L, A2, n2, c2, LS, fa, fk, h, h1, h2⟩ := h
  have c1 := h.c1
  have hl70 : n ≤ 70 := by have := h.few; have := h.nlen; omega
  have HH := Lib.hid h; have H1 := Lib.hid h1; have H2 := Lib.hid h2
  have HL : Hid (Lies w w.heap.size 2 A n (rowOf ρ L)) := h.row.lies (fun i hi => h.lt i (h.rsub i hi))
  clear h h1 h2
  go_enter Tryz.func24, Tryz.ntmps24
  go_wp2_with (at_builtin; refine wpList_app _ rfl (.const (.slice none 0 0)) (.tmp 7) 86 rfl w.heap.size 106 i0 _ 2 24 Tryz.underlying86 hi hz0 hz1 hz2 rfl (by decide) (.slice none 0 0) 0 [] rfl (World.ownsRow_nil _ _ _ _) w.heap.size A n c (rowOf ρ L) rfl HL.out (rowOf_one ρ L) (by unfold maxLen; omega) (by omega) (Nat.le_refl _) ?_)
  intro v1 w1 hown1 hg1 _
  have hb1 : Below w.heap.size w w1 := (Below.refl _ _).grown hg1 (Nat.le_refl _) (fun j hj => by cases hj)
  have hown1 : w1.ownsRow w.heap.size 106 2 v1 n (rowOf ρ L) := by simpa using hown1
  obtain ⟨A', c', rfl, _⟩ := own_shape hown1
  have hfz : w1.frozen? ⟨m, 2, none⟩ = false := (HH.out.below hb1).thaw 2
  have c2' : w1.cell? ⟨m, 2, none⟩ = some (.slice A2 n2 c2) := (HH.out.below hb1).c2'
  obtain ⟨a1, a2⟩ := mk_row (w5 := w1.setCell ⟨m, 2, none⟩ (.slice A' n c')) (L' := L) HH.out hb1 true hown1 rfl HH.out.ids HH.out.few
  have HE : Hid (Left6 G m w (w1.setCell ⟨m, 2, none⟩ (.slice A' n c')) S.names) := by
    refine ⟨a1, andOwn R (.slice A' n c'), ρ, A, n, c, L, A', n, c', L, fa, fk, ?_, H1.out, H1.out⟩
    refine RfAt.less a2 (T' := S.names.live) ?_ (fun e he => .inl ⟨e.1, (H1.out.2 e.1 e.2).1 he⟩) (fun e he => .inr ⟨e.1, (H1.out.2 e.1 e.2).1 he⟩) (fun f _ => rfl)
    rintro f (⟨k, hk⟩ | ⟨k, hk⟩)
    · exact .inl ⟨k, hk⟩
    · exact .inl ⟨k, hk⟩
  clear hown1 hg1 hb1 a1 a2 c1
  go_wp2
  go_ret
  exact ⟨rfl, HE.out⟩
end Go.Proofs.YtbpdonnneleeeaaGreatDoor

