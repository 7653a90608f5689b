/-
  Two disks, one of package files and the document's own, a Book beside them, and other memory, all apart from each other.
  What becomes of each call, on a disk of package files and on the document's own: p.. and r..
-/
import Derived.Test.YtbpdonnneleeeaaGreatDoorBookJ
import Derived.Test.YtbpdonnneleeeaaGreatDoorRefZ3
namespace Go.Proofs.YtbpdonnneleeeaaGreatDoor
open Go.RowKit Go.Maps Go.Sort
set_option linter.unusedVariables false
set_option linter.unusedSectionVars false
set_option maxRecDepth 100000

structure PlayAt (w0 w : World) (d m g : Nat) (S S2 : St) (ls : List BL) (T F G K : Nat → Prop) (vb : Value) : Prop where
  disk : Disk w F d S
  ref : Rf w G m S2
  kept : Kept w w0.heap.size g ls vb K
  fg : ∀ i, F i → ¬ G i
  fk : ∀ i, F i → ¬ K i
  gk : ∀ i, G i → ¬ K i
  tt : ∀ i, T i → ¬ F i ∧ ¬ G i ∧ ¬ K i ∧ i < w.heap.size ∧ w0.heap.size ≤ i
  f0 : ∀ i, F i → w0.heap.size ≤ i
  g0 : ∀ i, G i → w0.heap.size ≤ i
  low : Below w0.heap.size w0 w
/-- T: the blocks that stay as they are -/
def Play (w0 w : World) (d m g : Nat) (S S2 : St) (ls : List BL) (T : Nat → Prop) : Prop := ∃ F G K vb, PlayAt w0 w d m g S S2 ls T F G K vb
theorem Play.low {w0 w : World} {d m g : Nat} {S S2 : St} {ls : List BL} {T : Nat → Prop} (h : Play w0 w d m g S S2 ls T) : Below w0.heap.size w0 w := by obtain ⟨F, G, K, vb, h⟩ := h; exact h.low
/-- new memory -/
theorem Play.more {w0 w w' : World} {d m g : Nat} {S S2 : St} {ls : List BL} {T T' : Nat → Prop} (h : Play w0 w d m g S S2 ls T) (hb : Below w.heap.size w w') (hT : ∀ i, T' i → T i ∨ (w.heap.size ≤ i ∧ i < w'.heap.size)) : Play w0 w' d m g S S2 ls T' := by
  obtain ⟨F, G, K, vb, h⟩ := h
  refine ⟨F, G, K, vb, h.disk.below hb, h.ref.below hb, h.kept.keep (fun i hi => hb.block i (h.kept.lt i hi)) hb.size, h.fg, h.fk, h.gk, fun i hi => ?_, h.f0, h.g0, h.low.trans (hb.mono h.low.size)⟩
  rcases hT i hi with hi | ⟨h1, h2⟩
  · obtain ⟨a, b, c, e, f⟩ := h.tt i hi; exact ⟨a, b, c, Nat.lt_of_lt_of_le e hb.size, f⟩
  · exact ⟨fun x => by have := h.disk.lt i x; omega, fun x => by have := h.ref.lt i x; omega, fun x => by have := h.kept.lt i x; omega, h2, Nat.le_trans h.low.size h1⟩
theorem Play.below {w0 w w' : World} {d m g : Nat} {S S2 : St} {ls : List BL} {T : Nat → Prop} (h : Play w0 w d m g S S2 ls T) (hb : Below w.heap.size w w') : Play w0 w' d m g S S2 ls T := h.more hb fun i hi => .inl hi
/-- what becomes of a call of package files -/
theorem Play.prog {w0 w : World} {d m g : Nat} {S S2 : St} {ls : List BL} {T : Nat → Prop} (h : Play w0 w d m g S S2 ls T) {f : FuncId} {args : Array Value} {Q : Ending → St → Prop} (hc : ∀ F, Disk w F d S → Calls Tryz.prog f args w fun x w' => ∃ S', Q x S' ∧ Left5 F d w w' S') :
    Calls Tryz.prog f args w fun x w' => ∃ S', Q x S' ∧ Play w0 w' d m g S' S2 ls T ∧ w.heap.size ≤ w'.heap.size ∧ ∀ i, T i → w'.heap[i]? = w.heap[i]? := by
  obtain ⟨F, G, K, vb, h⟩ := h
  refine (hc F h.disk).mono ?_
  rintro x w' ⟨S', hq, hT, hD⟩
  have hs := hT.size
  refine ⟨S', hq, ⟨_, G, K, vb, hD, h.ref.other hT (fun i hg hf => h.fg i hf hg), h.kept.keep (fun i hk => hT.block i (h.kept.lt i hk) (fun hf => h.fk i hf hk)) hs, fun i hi hg => ?_, fun i hi hk => ?_, h.gk, fun i ht => ?_, fun i hi => ?_, h.g0, h.low.trans (hT.below h.low.size h.f0)⟩, hs, fun i ht => hT.block i (h.tt i ht).2.2.2.1 (h.tt i ht).1⟩
  · rcases hi with hi | hi
    · exact h.fg i hi hg
    · have := h.ref.lt i hg; omega
  · rcases hi with hi | hi
    · exact h.fk i hi hk
    · have := h.kept.lt i hk; omega
  · obtain ⟨a, b, c, e, f⟩ := h.tt i ht
    refine ⟨fun x => ?_, b, c, by omega, f⟩
    rcases x with x | x
    · exact a x
    · omega
  · rcases hi with hi | hi
    · exact h.f0 i hi
    · exact Nat.le_trans h.low.size hi.1
/-- what becomes of a call of the document's own -/
theorem Play.doc {w0 w : World} {d m g : Nat} {S S2 S' : St} {ls : List BL} {T : Nat → Prop} (h : Play w0 w d m g S S2 ls T) {f : FuncId} {args : Array Value} {Q : Ending → Prop} (hc : ∀ G, Rf w G m S2 → Calls Tryz.prog f args w fun x w' => Q x ∧ Left6 G m w w' S') :
    Calls Tryz.prog f args w fun x w' => Q x ∧ Play w0 w' d m g S S' ls T ∧ w.heap.size ≤ w'.heap.size ∧ ∀ i, T i → w'.heap[i]? = w.heap[i]? := by
  obtain ⟨F, G, K, vb, h⟩ := h
  refine (hc G h.ref).mono ?_
  rintro x w' ⟨hq, hT, hD⟩
  have hs := hT.size
  refine ⟨hq, ⟨F, _, K, vb, h.disk.other hT h.fg, hD, h.kept.keep (fun i hk => hT.block i (h.kept.lt i hk) (fun hf => h.gk i hf hk)) hs, fun i hf hg => ?_, h.fk, fun i hi hk => ?_, fun i ht => ?_, h.f0, fun i hi => ?_, h.low.trans (hT.below h.low.size h.g0)⟩, hs, fun i ht => hT.block i (h.tt i ht).2.2.2.1 (h.tt i ht).2.1⟩
  · rcases hg with hg | hg
    · exact h.fg i hf hg
    · have := h.disk.lt i hf; omega
  · rcases hi with hi | hi
    · exact h.gk i hi hk
    · have := h.kept.lt i hk; omega
  · obtain ⟨a, b, c, e, f⟩ := h.tt i ht
    refine ⟨a, fun x => ?_, c, by omega, f⟩
    rcases x with x | x
    · exact b x
    · omega
  · rcases hi with hi | hi
    · exact h.g0 i hi
    · exact Nat.le_trans h.low.size hi.1
/-- a list more in the Book -/
theorem Play.bytes {w0 w : World} {d m g : Nat} {S S2 : St} {ls : List BL} {T T' : Nat → Prop} (h : Play w0 w d m g S S2 ls T) (A : Option Addr) (n c : Nat) (hl : ls.length ≤ 1000) (hn : n ≤ 1099511627776) (hd : Kd w w0.heap.size ⟨A, n, c, ls.length + 1⟩) (hT : ∀ i, (Value.slice A n c).ownBlock = some i → T i) (hT' : ∀ i, T' i → T i ∧ (Value.slice A n c).ownBlock ≠ some i) :
    Calls Tryz.prog 20 #[dp g, .slice A n c] w fun e w' => e = .returned (.tuple #[]) ∧ Play w0 w' d m g S S2 (ls ++ [⟨A, n, c, ls.length + 1⟩]) T' ∧ w.heap.size ≤ w'.heap.size ∧ ∀ i, T' i → w'.heap[i]? = w.heap[i]? := by
  obtain ⟨F, G, K, vb, h⟩ := h
  have hs0 := h.low.size
  refine (h.kept.bytes hs0 A n c hl hn hd fun i hi hk => (h.tt i (hT i hi)).2.2.1 hk).mono ?_
  rintro e w' ⟨he, vb', K', hK', hTu, hor⟩
  have hs := hTu.size
  refine ⟨he, ⟨F, G, K', vb', h.disk.other hTu h.fk, h.ref.keep (fun i hi => hTu.block i (h.ref.lt i hi) (h.gk i hi)) hs, hK', h.fg, fun i hf hk => ?_, fun i hg hk => ?_, fun i ht => ?_, h.f0, h.g0, h.low.trans (hTu.below hs0 h.kept.low)⟩, hs, fun i ht => hTu.block i (h.tt i (hT' i ht).1).2.2.2.1 (h.tt i (hT' i ht).1).2.2.1⟩
  · rcases hor i hk with hk | hk | hk
    · exact h.fk i hf hk
    · exact (h.tt i (hT i hk)).1 hf
    · have := h.disk.lt i hf; omega
  · rcases hor i hk with hk | hk | hk
    · exact h.gk i hg hk
    · exact (h.tt i (hT i hk)).2.1 hg
    · have := h.ref.lt i hg; omega
  · obtain ⟨a, b, c', e', f⟩ := h.tt i (hT' i ht).1
    refine ⟨a, b, fun hk => ?_, by omega, f⟩
    rcases hor i hk with hk | hk | hk
    · exact c' hk
    · exact (hT' i ht).2 hk
    · omega
/-- two other disks, made since -/
theorem Play.fork {w0 w w' w'' : World} {d m g d' m' : Nat} {S S2 S' : St} {ls : List BL} {T : Nat → Prop} (h : Play w0 w d m g S S2 ls T) (hb : Below w.heap.size w w') (hD : Disk w' (since w w') d' S') (hb2 : Below w'.heap.size w' w'') (hR : Rf w'' (fun i => w'.heap.size ≤ i ∧ i < w''.heap.size) m' S') : Play w0 w'' d' m' g S' S' ls T := by
  obtain ⟨F, G, K, vb, h⟩ := h
  have hs := hb.size
  have hs2 := hb2.size
  have hs0 := h.low.size
  have hbb : Below w.heap.size w w'' := hb.trans (hb2.mono hs)
  refine ⟨since w w', _, K, vb, hD.below hb2, hR, h.kept.keep (fun i hi => hbb.block i (h.kept.lt i hi)) hbb.size, fun i hf hg => ?_, fun i hf hk => ?_, fun i hg hk => ?_, fun i ht => ?_, fun i hf => ?_, fun i hg => ?_, h.low.trans (hbb.mono hs0)⟩
  · have := hf.2; have := hg.1; omega
  · have := hf.1; have := h.kept.lt i hk; omega
  · have := hg.1; have := h.kept.lt i hk; omega
  · obtain ⟨a, b, c, e, f⟩ := h.tt i ht
    exact ⟨fun x => by have := x.1; omega, fun x => by have := x.1; omega, c, by omega, f⟩
  · have := hf.1; omega
  · have := hg.1; omega
/-- at the beginning: two disks, then the Book -/
theorem play_start {w0 w w' : World} {d m : Nat} {S : St} {F G : Nat → Prop} (hb : Below w0.heap.size w0 w) (hD : Disk w F d S) (hF : ∀ i, F i → w0.heap.size ≤ i) (hb2 : Below w.heap.size w w') (hR : Rf w' (fun i => w.heap.size ≤ i ∧ i < w'.heap.size) m S) :
    Play w0 (w'.alloc (.cells (bookCells 0 nilS) 45)) d m w'.heap.size S S [] (fun _ => False) := by
  have hs := hb.size
  have hs2 := hb2.size
  have hb3 : Below w'.heap.size w' (w'.alloc (.cells (bookCells 0 nilS) 45)) := below_a (Below.refl _ _) _
  refine ⟨F, _, _, _, (hD.below hb2).below hb3, hR.below hb3, kept_start (w0 := w0) (by omega), fun i hf hg => ?_, fun i hf hk => ?_, fun i hg hk => ?_, fun i ht => ht.elim, hF, fun i hg => ?_, (hb.trans (hb2.mono hs)).trans (hb3.mono (by omega))⟩
  · have := hD.lt i hf; have := hg.1; omega
  · have := hD.lt i hf; have hk : i = w'.heap.size := hk; omega
  · have := hg.2; have hk : i = w'.heap.size := hk; omega
  · have := hg.1; omega
end Go.Proofs.YtbpdonnneleeeaaGreatDoor

namespace Go.Proofs.YtbpdonnneleeeaaGreatDoor
open Go.RowKit Go.Maps Go.Sort
set_option linter.unusedVariables false
set_option linter.unusedSectionVars false
set_option maxRecDepth 100000

def Sound (S : St) : Prop := DirOK S.pres ∧ Tidy S.pres
theorem Disk.sound {w : World} {F : Nat → Prop} {d : Nat} {S : St} (h : Disk w F d S) : Sound S := by obtain ⟨_, _, _, h⟩ := h; exact ⟨h.presOK, h.tidy⟩
theorem Play.sound {w0 w : World} {d m g : Nat} {S S2 : St} {ls : List BL} {T : Nat → Prop} (h : Play w0 w d m g S S2 ls T) : Sound S := by obtain ⟨F, G, K, vb, h⟩ := h; exact h.disk.sound
theorem Disk.inj {w : World} {F : Nat → Prop} {d : Nat} {S : St} (h : Disk w F d S) : ∀ k k' f, look S.pres k = some f → look S.pres k' = some f → k = k' := by obtain ⟨_, _, _, h⟩ := h; exact h.inj
def createErr (S : St) (l : List UInt8) : Int := firstErr [0, argErr [okName l], thereErr (look S.pres l), fullErr S.pres]
def CreateR (S : St) (l : List UInt8) (S' : St) : Prop := (createErr S l ≠ 0 ∧ S' = S) ∨ (createErr S l = 0 ∧ ∃ b, ¬ S.live b ∧ S' = S.create l b)
def RemoveR (S : St) (l : List UInt8) (S' : St) : Prop := (sizeErr S l ≠ 0 ∧ S' = S) ∨ (sizeErr S l = 0 ∧ S' = S.remove l)
def SyncR (S : St) (l : List UInt8) (S' : St) : Prop := (sizeErr S l ≠ 0 ∧ S' = S) ∨ (sizeErr S l = 0 ∧ ∃ f, look S.pres l = some f ∧ S' = S.sync f)
def renErr (S : St) (l t : List UInt8) : Int := firstErr [0, argErr [okName l, okName t], noneErr (look S.pres l)]
def RenR (S : St) (s t : ByteArray) (S' : St) : Prop := (renErr S s.data.toList t.data.toList ≠ 0 ∧ S' = S) ∨ (renErr S s.data.toList t.data.toList = 0 ∧ ((s = t ∧ S' = S) ∨ (s ≠ t ∧ ∃ f, look S.pres s.data.toList = some f ∧ S' = S.rename s.data.toList t.data.toList f)))
def AppR (S : St) (l : List UInt8) (n : Nat) (xs : List UInt8) (S' : St) : Prop := (appErr S l n ≠ 0 ∧ S' = S) ∨ (appErr S l n = 0 ∧ ∃ f, look S.pres l = some f ∧ S' = S.append f xs)

section
variable {w : World} {F G : Nat → Prop} {d m : Nat} {S S' : St}
theorem pcreate (h : Disk w F d S) (hN : Named S) (s : ByteArray) (hs : s.size ≤ 140737488355328) :
    Calls Tryz.prog 9 #[dp d, .string s] w fun x w' => ∃ S', (x = .returned (er (createErr S s.data.toList)) ∧ CreateR S s.data.toList S' ∧ Named S') ∧ Left5 F d w w' S' := by
  have hT := h.sound.2
  obtain ⟨pm, dm, val, hD⟩ := h
  by_cases he : createErr S s.data.toList = 0
  · obtain ⟨_, h1, h2, h3⟩ := all_zero4 he
    exact (create_ok hD s hs h1 (there_no h2) (full_lt h3)).mono fun x w' ⟨hx, b, hb, hl⟩ => ⟨_, ⟨by rw [he]; exact hx, .inr ⟨he, b, fun hlv => by have := hD.lt _ (hD.files b hlv).mem; omega, rfl⟩, (step_create hT _ b (okName_of h1)).named hN⟩, hl⟩
  · exact (create_fails _ s w hs 0 _ _ _ hD.gives (fun _ _ => hD.free hs) (fun _ _ _ => hD.freeName) rfl he).mono fun x w' ⟨hx, hb⟩ => ⟨S, ⟨hx, .inl ⟨he, rfl⟩, hN⟩, left_same ⟨pm, dm, val, hD⟩ hb⟩
theorem rcreate (h : Rf w G m S) (hS : Sound S) (s : ByteArray) (hs : s.size ≤ 140737488355328) (hr : CreateR S s.data.toList S') :
    Calls Tryz.prog 10 #[dp m, .string s] w fun x w' => x = .returned (er (createErr S s.data.toList)) ∧ Left6 G m w w' S' := by
  rcases hr with ⟨he, rfl⟩ | ⟨he, b, hb, rfl⟩
  · exact (rcreate_fails h hS.1 hS.2 s hs rfl he).mono fun x w' ⟨hx, hw⟩ => ⟨hx, left6_same h (by rw [hw]; exact Below.refl _ _)⟩
  · obtain ⟨_, h1, h2, h3⟩ := all_zero4 he
    rw [he]
    exact rcreate_ok h hS.1 hS.2 s hs (okName_of h1) (there_no h2) (full_lt h3) b hb
theorem premove (h : Disk w F d S) (hN : Named S) (s : ByteArray) (hs : s.size ≤ 140737488355328) :
    Calls Tryz.prog 11 #[dp d, .string s] w fun x w' => ∃ S', (x = .returned (er (sizeErr S s.data.toList)) ∧ RemoveR S s.data.toList S' ∧ Named S') ∧ Left5 F d w w' S' := by
  have hT := h.sound.2
  obtain ⟨pm, dm, val, hD⟩ := h
  by_cases he : sizeErr S s.data.toList = 0
  · obtain ⟨_, h1, h2⟩ := all_zero3 he
    obtain ⟨f, hf⟩ := none_some h2
    exact (remove_ok hD s hs h1 hf).mono fun x w' ⟨hx, hl⟩ => ⟨_, ⟨by rw [he]; exact hx, .inr ⟨he, rfl⟩, (step_remove hT _).named hN⟩, hl⟩
  · exact (remove_fails _ s w hs 0 _ _ hD.gives (fun _ _ => hD.leads hs) rfl he).mono fun x w' ⟨hx, hb⟩ => ⟨S, ⟨hx, .inl ⟨he, rfl⟩, hN⟩, left_same ⟨pm, dm, val, hD⟩ hb⟩
theorem rremove (h : Rf w G m S) (s : ByteArray) (hs : s.size ≤ 140737488355328) (hr : RemoveR S s.data.toList S') :
    Calls Tryz.prog 12 #[dp m, .string s] w fun x w' => x = .returned (er (sizeErr S s.data.toList)) ∧ Left6 G m w w' S' := by
  rcases hr with ⟨he, rfl⟩ | ⟨he, rfl⟩
  · exact (rremove_fails h s hs rfl he).mono fun x w' ⟨hx, hw⟩ => ⟨hx, left6_same h (by rw [hw]; exact Below.refl _ _)⟩
  · obtain ⟨_, h1, h2⟩ := all_zero3 he
    obtain ⟨f, hf⟩ := none_some h2
    rw [he]
    exact rremove_ok h s hs (okName_of h1) hf
theorem psync (h : Disk w F d S) (hN : Named S) (s : ByteArray) (hs : s.size ≤ 140737488355328) :
    Calls Tryz.prog 21 #[dp d, .string s] w fun x w' => ∃ S', (x = .returned (er (sizeErr S s.data.toList)) ∧ SyncR S s.data.toList S' ∧ Named S') ∧ Left5 F d w w' S' := by
  obtain ⟨pm, dm, val, hD⟩ := h
  by_cases he : sizeErr S s.data.toList = 0
  · obtain ⟨_, h1, h2⟩ := all_zero3 he
    obtain ⟨f, hf⟩ := none_some h2
    exact (sync_ok hD s hs h1 hf).mono fun x w' ⟨hx, hl⟩ => ⟨_, ⟨by rw [he]; exact hx, .inr ⟨he, f, hf, rfl⟩, (step_sync f).named hN⟩, hl⟩
  · exact (sync_fails _ s w hs 0 _ _ hD.gives (fun _ _ => hD.leads hs) rfl he).mono fun x w' ⟨hx, hb⟩ => ⟨S, ⟨hx, .inl ⟨he, rfl⟩, hN⟩, left_same ⟨pm, dm, val, hD⟩ hb⟩
theorem rsync (h : Rf w G m S) (s : ByteArray) (hs : s.size ≤ 140737488355328) (hr : SyncR S s.data.toList S') :
    Calls Tryz.prog 22 #[dp m, .string s] w fun x w' => x = .returned (er (sizeErr S s.data.toList)) ∧ Left6 G m w w' S' := by
  rcases hr with ⟨he, rfl⟩ | ⟨he, f, hf, rfl⟩
  · exact (rsync_fails h s hs rfl he).mono fun x w' ⟨hx, hw⟩ => ⟨hx, left6_same h (by rw [hw]; exact Below.refl _ _)⟩
  · obtain ⟨_, h1, h2⟩ := all_zero3 he
    rw [he]
    exact rsync_ok h s hs (okName_of h1) hf
theorem pnames (h : Disk w F d S) (hN : Named S) :
    Calls Tryz.prog 23 #[dp d] w fun x w' => ∃ S', (x = .returned (er 0) ∧ S' = S.names ∧ Named S') ∧ Left5 F d w w' S' := by
  obtain ⟨pm, dm, val, hD⟩ := h
  exact (names_ok hD).mono fun x w' ⟨hx, hl⟩ => ⟨_, ⟨hx, rfl, step_names.named hN⟩, hl⟩
theorem rnames (h : Rf w G m S) (hr : S' = S.names) :
    Calls Tryz.prog 24 #[dp m] w fun x w' => x = .returned (er 0) ∧ Left6 G m w w' S' := by
  subst hr; exact rnames_ok h
theorem prename (h : Disk w F d S) (hN : Named S) (s t : ByteArray) (hs : s.size ≤ 140737488355328) (ht : t.size ≤ 140737488355328) :
    Calls Tryz.prog 13 #[dp d, .string s, .string t] w fun x w' => ∃ S', (x = .returned (er (renErr S s.data.toList t.data.toList)) ∧ RenR S s t S' ∧ Named S') ∧ Left5 F d w w' S' := by
  have hT := h.sound.2
  obtain ⟨pm, dm, val, hD⟩ := h
  by_cases he : renErr S s.data.toList t.data.toList = 0
  · obtain ⟨_, h1, h2⟩ := all_zero3 he
    obtain ⟨f, hf⟩ := none_some h2
    have hn2 : okName t.data.toList = true := argErr_all h1 _ (by simp)
    by_cases hst : s = t
    · exact (rename_same hD s t hs ht h1 hf hst).mono fun x w' ⟨hx, hb⟩ => ⟨S, ⟨by rw [he]; exact hx, .inr ⟨he, .inl ⟨hst, rfl⟩⟩, hN⟩, left_same ⟨pm, dm, val, hD⟩ hb⟩
    · exact (rename_ok hD s t hs ht h1 hf hst).mono fun x w' ⟨hx, hl⟩ => ⟨_, ⟨by rw [he]; exact hx, .inr ⟨he, .inr ⟨hst, f, hf, rfl⟩⟩, (step_rename hT (map_of_tidy hT) _ _ f hf (fun e => hst (txt_same e)) hn2).named hN⟩, hl⟩
  · exact (rename_fails _ s t w hs ht 0 _ _ hD.gives (fun _ _ => hD.leads hs) rfl he).mono fun x w' ⟨hx, hb⟩ => ⟨S, ⟨hx, .inl ⟨he, rfl⟩, hN⟩, left_same ⟨pm, dm, val, hD⟩ hb⟩
theorem rrename (h : Rf w G m S) (hS : Sound S) (s t : ByteArray) (hs : s.size ≤ 140737488355328) (ht : t.size ≤ 140737488355328) (hr : RenR S s t S') :
    Calls Tryz.prog 14 #[dp m, .string s, .string t] w fun x w' => x = .returned (er (renErr S s.data.toList t.data.toList)) ∧ Left6 G m w w' S' := by
  rcases hr with ⟨he, rfl⟩ | ⟨he, hr⟩
  · exact (rrename_fails h s t hs ht rfl he).mono fun x w' ⟨hx, hw⟩ => ⟨hx, left6_same h (by rw [hw]; exact Below.refl _ _)⟩
  · obtain ⟨_, h1, h2⟩ := all_zero3 he
    have hn1 : okName s.data.toList = true := argErr_all h1 _ (by simp)
    have hn2 : okName t.data.toList = true := argErr_all h1 _ (by simp)
    obtain ⟨f, hf⟩ := none_some h2
    rw [he]
    rcases hr with ⟨rfl, rfl⟩ | ⟨hst, f', hf', rfl⟩
    · exact (rrename_same h s hs hn1 hf).mono fun x w' ⟨hx, hw⟩ => ⟨hx, left6_same h (by rw [hw]; exact Below.refl _ _)⟩
    · exact rrename_ok h hS.2 s t hs ht hn1 hn2 hf' hst
theorem pappend (h : Disk w F d S) (hN : Named S) (s : ByteArray) (hs : s.size ≤ 140737488355328) (A : Option Addr) (n c : Nat) (l : List UInt8) (hl : Lies w w.heap.size 1 A n (l.map bv)) (hn : n ≤ 140737488355328) :
    Calls Tryz.prog 15 #[dp d, .string s, .slice A n c] w fun x w' => ∃ S', (x = .returned (er (appErr S s.data.toList n)) ∧ AppR S s.data.toList n l S' ∧ Named S') ∧ Left5 F d w w' S' := by
  obtain ⟨pm, dm, val, hD⟩ := h
  by_cases he : appErr S s.data.toList n = 0
  · obtain ⟨_, h1, h2, h3⟩ := all_zero4 he
    obtain ⟨f, hf⟩ := none_some h2
    rw [hf] at h3
    exact (append_ok hD s hs A n c l hl hn h1 hf (space_ok h3)).mono fun x w' ⟨hx, hl⟩ => ⟨_, ⟨by rw [he]; exact hx, .inr ⟨he, f, hf, rfl⟩, hN⟩, hl⟩
  · refine (append_fails _ s A n c w hs 0 _ (match look S.pres s.data.toList with | some f => spaceErr S (S.len f) n | none => 0) _ hD.gives (fun _ _ => hD.leads hs) (fun _ _ h2 => ?_) rfl he).mono fun x w' ⟨hx, hb⟩ => ⟨S, ⟨hx, .inl ⟨he, rfl⟩, hN⟩, left_same ⟨pm, dm, val, hD⟩ hb⟩
    obtain ⟨f, hf⟩ := none_some h2
    have := hD.space hs hf n hn
    rw [hf]; exact this
theorem rappend (h : Rf w G m S) (hS : Sound S) (s : ByteArray) (hs : s.size ≤ 140737488355328) (A : Option Addr) (n c : Nat) (l : List UInt8) (hl : Lies w w.heap.size 1 A n (l.map bv)) (hn : n ≤ 140737488355328) (hr : AppR S s.data.toList n l S') :
    Calls Tryz.prog 16 #[dp m, .string s, .slice A n c] w fun x w' => x = .returned (er (appErr S s.data.toList n)) ∧ Left6 G m w w' S' := by
  rcases hr with ⟨he, rfl⟩ | ⟨he, f, hf, rfl⟩
  · exact (rappend_fails h hS.1 hS.2 s hs A n c hn rfl he).mono fun x w' ⟨hx, hw⟩ => ⟨hx, left6_same h (by rw [hw]; exact Below.refl _ _)⟩
  · obtain ⟨_, h1, h2, h3⟩ := all_zero4 he
    rw [hf] at h3
    rw [he]
    exact rappend_ok h hS.1 hS.2 s hs (okName_of h1) A n c l hl hf (space_ok h3)
theorem failed_named {C : St} {D : Dir} {keep : Nat} (h : FailSpec S D keep C) (hn : ∀ k f, look D k = some f → okName k = true) : Named C := by
  have h1 : ∀ k f, look C.pres k = some f → okName k = true := fun k b hb => by
    cases hd : look D k with
    | none => rw [(h.2.2 k).1 hd] at hb; cases hb
    | some f => exact hn k f hd
  exact ⟨h1, by rw [h.2.1]; exact h1⟩
theorem pfail_bad (h : Disk w F d S) (k : Int) (nm : Bool) (hk : k < 0) :
    Calls Tryz.prog 25 #[dp d, .int .i64 k, .bool nm] w fun x w' => x = .returned (.tuple #[.pointer none, er 1]) ∧ Below w.heap.size w w' := by
  obtain ⟨pm, dm, val, hD⟩ := h
  exact fail_fails _ k nm w 0 1 hD.gives (by rw [decide_eq_false (by omega)]; rfl) (by decide)
/-- what Fail leaves -/
def Leaves (S : St) (keep : Nat) (nm : Bool) (S' : St) : Prop := FailSpec S (if nm then S.pres else S.dur) keep S' ∧ (∀ k k' f, look S'.pres k = some f → look S'.pres k' = some f → k = k') ∧ Named S'
theorem pfail (h : Disk w F d S) (hN : Named S) (keep : Nat) (hk : keep ≤ 9223372036854775807) (nm : Bool) :
    Calls Tryz.prog 25 #[dp d, .int .i64 (keep : Int), .bool nm] w fun x w' => ∃ d' S', x = .returned (.tuple #[dp d', er 0]) ∧ Below w.heap.size w w' ∧ Disk w' (since w w') d' S' ∧ Leaves S keep nm S' := by
  obtain ⟨pm, dm, val, hD⟩ := h
  cases nm
  · exact (fail_ok_false hD keep hk).mono fun x w' ⟨d', S', hx, hb, hd, hs⟩ => ⟨d', S', hx, hb, hd, hs, hd.inj, failed_named hs hN.2⟩
  · exact (fail_ok_true hD keep hk).mono fun x w' ⟨d', S', hx, hb, hd, hs⟩ => ⟨d', S', hx, hb, hd, hs, hd.inj, failed_named hs hN.1⟩
end
end Go.Proofs.YtbpdonnneleeeaaGreatDoor

