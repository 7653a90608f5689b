/-
  What a call on a disk leaves: the posts of package files' methods, and how each follows from the memory that the walk ends in.
  The methods of package files on a disk, where every check passes.
  New, Names, List of package files.
-/
import Derived.Test.YtbpdonnneleeeaaGreatDoorDirZ
import Derived.Test.YtbpdonnneleeeaaGreatDoorDiskB
import Derived.Test.YtbpdonnneleeeaaGreatDoorShelf
import Derived.Lib.AppendZeros
namespace Go.Proofs.YtbpdonnneleeeaaGreatDoor
open Go.RowKit Go.Maps
set_option maxRecDepth 100000
set_option linter.unusedVariables false
set_option linter.unusedSectionVars false

def Disk (w : World) (F : Nat → Prop) (d : Nat) (S : St) : Prop := ∃ pm dm val, DiskAt w F d pm dm S val
/-- behind a call on the disk in block d: it is S' now; nothing else was written -/
def Left5 (F : Nat → Prop) (d : Nat) (w w' : World) (S' : St) : Prop := Turn F w w' ∧ Disk w' (more F w w') d S'

theorem Turn.of_below {F : Nat → Prop} {w w' : World} (h : Below w.heap.size w w') : Turn F w w' := ⟨h.os, h.tape, h.output, h.size, fun i hi _ => h.block i hi⟩
theorem Turn.trans {F G : Nat → Prop} {a b c : World} (h : Turn F a b) (k : Turn G b c) (hG : ∀ i, G i → i < a.heap.size → F i) : Turn F a c :=
  ⟨k.os.trans h.os, k.tape.trans h.tape, k.output.trans h.output, Nat.le_trans h.size k.size, fun i hi hn => (k.block i (Nat.lt_of_lt_of_le hi h.size) (fun g => hn (hG i g hi))).trans (h.block i hi hn)⟩
theorem Turn.below {F : Nat → Prop} {w w' : World} (h : Turn F w w') {B : Nat} (hB : B ≤ w.heap.size) (hF : ∀ i, F i → B ≤ i) : Below B w w' :=
  ⟨h.os, h.tape, h.output, h.size, fun i hi => h.block i (by omega) (fun hf => by have := hF i hf; omega)⟩
theorem Disk.lt {w : World} {F : Nat → Prop} {d : Nat} {S : St} (h : Disk w F d S) : ∀ i, F i → i < w.heap.size := by obtain ⟨_, _, _, h⟩ := h; exact h.lt
theorem more_lt {w w' : World} {F : Nat → Prop} (h : ∀ i, F i → i < w.heap.size) (hz : w.heap.size ≤ w'.heap.size) : ∀ i, more F w w' i → i < w'.heap.size := fun i hi => by
  rcases hi with hi | hi
  · have := h i hi; omega
  · exact hi.2
theorem DiskAt.mono {w : World} {F F' : Nat → Prop} {d pm dm : Nat} {S : St} {val : Nat → Value} (h : DiskAt w F d pm dm S val) (hF : ∀ i, F i → F' i) (hlt : ∀ i, F' i → i < w.heap.size) : DiskAt w F' d pm dm S val :=
  ⟨h.box, hF _ h.fd, hF _ h.fp, hF _ h.fm, h.ne, h.pres, h.dur, h.presOK, h.durOK, fun f hf => ⟨hF _ (h.files f hf).mem, (h.files f hf).cells, (h.files f hf).own, fun r hr => hF r ((h.files f hf).row r hr), (h.files f hf).sure, (h.files f hf).max⟩, h.apart, h.inj, h.lo, h.hi, hlt⟩
theorem Disk.keep {w w' : World} {F : Nat → Prop} {d : Nat} {S : St} (h : Disk w F d S) (hs : ∀ i, F i → w'.heap[i]? = w.heap[i]?) (hz : w.heap.size ≤ w'.heap.size) : Disk w' F d S := by
  obtain ⟨a, b, c, h⟩ := h; exact ⟨a, b, c, h.keep hs hz⟩
theorem Disk.below {w w' : World} {F : Nat → Prop} {d : Nat} {S : St} (h : Disk w F d S) (hb : Below w.heap.size w w') : Disk w' F d S := by
  obtain ⟨a, b, c, h⟩ := h; exact ⟨a, b, c, h.below hb⟩
theorem Disk.mono {w : World} {F F' : Nat → Prop} {d : Nat} {S : St} (h : Disk w F d S) (hF : ∀ i, F i → F' i) (hlt : ∀ i, F' i → i < w.heap.size) : Disk w F' d S := by
  obtain ⟨a, b, c, h⟩ := h; exact ⟨a, b, c, h.mono hF hlt⟩
/-- another disk's memory stands -/
theorem Disk.other {w w' : World} {F G : Nat → Prop} {d : Nat} {S : St} (h : Disk w G d S) (ht : Turn F w w') (hd : ∀ i, G i → ¬ F i) : Disk w' G d S :=
  h.keep (fun i hi => ht.block i (h.lt i hi) (hd i hi)) ht.size
/-- nothing was written -/
theorem left_same {w w' : World} {F : Nat → Prop} {d : Nat} {S : St} (h : Disk w F d S) (hb : Below w.heap.size w w') : Left5 F d w w' S :=
  ⟨Turn.of_below hb, (h.below hb).mono (fun i hi => .inl hi) (more_lt h.lt hb.size)⟩

section
variable {w w3 w4 : World} {F : Nat → Prop} {d pm dm : Nat} {S : St} {val : Nat → Value} (h : DiskAt w F d pm dm S val) (hB : Below w.heap.size w w3)
include h hB
theorem turn_row {x : Nat} (hx : F x) (hs : w3.heap.size ≤ w4.heap.size) (h1 : w4.os = w3.os) (h2 : w4.tape = w3.tape) (h3 : w4.output = w3.output) (hb : ∀ i, i < w3.heap.size → i ≠ x → w4.heap[i]? = w3.heap[i]?) : Turn F w w4 :=
  ⟨h1.trans hB.os, h2.trans hB.tape, h3.trans hB.output, Nat.le_trans hB.size hs, fun i hi hn => (hb i (Nat.lt_of_lt_of_le hi hB.size) (fun e => hn (by rw [e]; exact hx))).trans (hB.block i hi)⟩
theorem create_done {k : List UInt8} (hg : (w3.alloc (.cells #[.int .i64 0, .slice none 0 0] 98)).grownBy w4 (some pm)) (ho : OwnD w4 pm 65 (S.pres.put (.string k) (.lit (.int .u64 (w3.heap.size : Int))))) (hk : look S.pres k = none) (hs : Maps.size S.pres < 64) :
    Left5 F d w w4 (S.create k w3.heap.size) := by
  have hz := alloc_size w3 (.cells #[.int .i64 0, .slice none 0 0] 98)
  have hz2 := hg.size
  have hpm := h.lt pm h.fp
  have hx : ∀ i, i < w3.heap.size → i ≠ pm → w4.heap[i]? = w3.heap[i]? := fun i hi hne => (hg.block i (by omega) (fun e => hne (by injection e))).trans (Below.heap_alloc _ _ _ hi)
  have hs3 := hB.size
  refine ⟨turn_row h hB h.fp (by omega) hg.os hg.tape hg.output hx, _, _, _, mk_create (h.below hB) (F' := more F w w4) (fun i hi => .inl hi) (more_lt h.lt (by omega)) rfl hx ?_ ho (.inr ⟨hs3, by omega⟩) hk hs⟩
  exact (hg.block w3.heap.size (by omega) (fun e => by injection e with e; omega)).trans (heap_alloc_new w3 _)
theorem remove_done {k : List UInt8} (hg : w3.grownBy w4 (some pm)) (ho : OwnD w4 pm 64 (S.pres.del (.string k))) : Left5 F d w w4 (S.remove k) := by
  have hx : ∀ i, i < w3.heap.size → i ≠ pm → w4.heap[i]? = w3.heap[i]? := fun i hi hne => hg.block i hi (fun e => hne (by injection e))
  have hs3 := hB.size
  have hz2 := hg.size
  exact ⟨turn_row h hB h.fp hz2 hg.os hg.tape hg.output hx, _, _, _, mk_remove (h.below hB) (F' := more F w w4) (fun i hi => .inl hi) (more_lt h.lt (by omega)) (fun i hi hne => hx i (by have := h.lt i hi; omega) hne) ho⟩
theorem rename_done {k k' : List UInt8} {f : Nat} (hs : w3.heap.size ≤ w4.heap.size) (h1 : w4.os = w3.os) (h2 : w4.tape = w3.tape) (h3 : w4.output = w3.output) (hb : ∀ i, i < w3.heap.size → i ≠ pm → w4.heap[i]? = w3.heap[i]?)
    (ho : OwnD w4 pm 65 ((S.pres.put (.string k') (.lit (.int .u64 (f : Int)))).del (.string k))) (hk : look S.pres k = some f) (hne : k ≠ k') : Left5 F d w w4 (S.rename k k' f) := by
  have hs3 := hB.size
  exact ⟨turn_row h hB h.fp hs h1 h2 h3 hb, _, _, _, mk_rename (h.below hB) (F' := more F w w4) (fun i hi => .inl hi) (more_lt h.lt (by omega)) (fun i hi hne => hb i (by have := h.lt i hi; omega) hne) ho hk hne⟩
/-- a cell of a file's struct -/
theorem heap_set2 {W : World} {B j : Nat} {x y v : Value} {t : TypeId} (hw : W.heap[B]? = some (.cells #[x, y] t (0, 0))) (hj : j < 2) : (W.setCell ⟨B, j, none⟩ v).heap[B]? = some (.cells (#[x, y].setIfInBounds j v) t (0, 0)) := by
  have hlt := (Array.getElem?_eq_some_iff.1 hw).1
  have hge := (Array.getElem?_eq_some_iff.1 hw).2
  simp only [World.setCell, Array.getElem?_modify, if_pos, hw, Option.map_some, Option.isSome_none, Bool.false_eq_true, if_false]
theorem sync_done {k : List UInt8} {f : Nat} (hf : look S.pres k = some f) (hw : w4 = w3.setCell ⟨f, 0, none⟩ (.int .i64 (S.len f : Int))) : Left5 F d w w4 (S.sync f) := by
  have D3 := h.below hB
  have hl : S.live f := .inl ⟨k, hf⟩
  have H := D3.files f hl
  have hx : ∀ i, i ≠ f → w4.heap[i]? = w3.heap[i]? := fun i hi => by rw [hw]; exact Below.heap_setCell _ _ _ _ hi
  have hsz : w4.heap.size = w3.heap.size := by rw [hw]; simp [World.setCell]
  have hs3 := hB.size
  refine ⟨turn_row h hB (h.files f hl).mem (by omega) (by rw [hw]; rfl) (by rw [hw]; rfl) (by rw [hw]; rfl) (fun i _ hne => hx i hne), _, _, _, mk_file D3 (F' := more F w w4) (fun i hi => .inl hi) (more_lt h.lt (by omega)) hl (c := ⟨(S.file f).bytes, (S.file f).bytes.length⟩) (v' := val f) (fun i _ hne _ => hx i hne) ?_ (fun r hr => .inl hr)⟩
  refine ⟨.inl H.mem, ?_, ?_, fun r hr => .inl (H.row r hr), Nat.le_refl _, H.max⟩
  · rw [hw, heap_set2 h hB H.cells (by decide)]; rfl
  · obtain ⟨a1, a2⟩ := H.own
    refine ⟨a1, ?_⟩
    rcases a2 with a2 | ⟨g, cap, cur, hv, hg, hh, r⟩
    · exact .inl a2
    · refine .inr ⟨g, cap, cur, hv, hg, (hx g (fun e => ?_)).trans hh, r⟩
      rw [e, H.cells] at hh; injection hh with hh; injection hh with h1 h2; exact absurd h2 (by decide)
theorem append_done {k : List UInt8} {f : Nat} {l : List UInt8} {w5 : World} {v' : Value} {n : Nat} (hn : n = S.len f + l.length) (hf : look S.pres k = some f) (ho : w5.ownsRow 0 5 1 v' n ((S.file f).bytes.map bv ++ l.map bv)) (hg : w3.grownBy w5 (val f).ownBlock)
    (hv : v'.ownBlock = (val f).ownBlock ∨ v'.ownBlock = some w3.heap.size) (hw : w4 = w5.setCell ⟨f, 1, none⟩ v') (hm : S.len f + l.length ≤ 1048576) : Left5 F d w w4 (S.append f l) := by
  have D3 := h.below hB
  have hl : S.live f := .inl ⟨k, hf⟩
  have H := D3.files f hl
  have hx : ∀ i, i ≠ f → w4.heap[i]? = w5.heap[i]? := fun i hi => by rw [hw]; exact Below.heap_setCell _ _ _ _ hi
  have hsz : w4.heap.size = w5.heap.size := by rw [hw]; simp [World.setCell]
  have hs3 := hB.size
  have hs5 := hg.size
  have hrf : ∀ r, (val f).ownBlock = some r → r ≠ f := fun r hr e => by
    rcases H.own.2 with ⟨e1, _⟩ | ⟨g, cap, cur, e1, _, hh, _⟩
    · rw [e1] at hr; cases hr
    · rw [e1] at hr; injection hr with hr; have hr : g = r := hr
      rw [hr, e, H.cells] at hh; injection hh with hh; injection hh with h1 h2; exact absurd h2 (by decide)
  have hfr : (val f).ownBlock ≠ some f := fun e => hrf f e rfl
  have hcell5 : w5.heap[f]? = w3.heap[f]? := hg.block f (heap_len H.cells) (fun e => hfr e.symm)
  have hT : Turn F w w4 := ⟨by rw [hw]; exact hg.os.trans hB.os, by rw [hw]; exact hg.tape.trans hB.tape, by rw [hw]; exact hg.output.trans hB.output, by omega, fun i hi hn => by
    rw [hx i (fun e => hn (by rw [e]; exact (h.files f hl).mem)), hg.block i (by omega) (fun e => hn ((h.files f hl).row i e.symm))]
    exact hB.block i hi⟩
  have hvr : ∀ r, v'.ownBlock = some r → (val f).ownBlock = some r ∨ w3.heap.size ≤ r := fun r hr => by
    rcases hv with e | e
    · rw [e] at hr; exact .inl hr
    · rw [e] at hr; injection hr with hr; exact .inr (by omega)
  have hvf : ∀ r, v'.ownBlock = some r → r ≠ f := fun r hr => by
    rcases hvr r hr with e | e
    · exact hrf r e
    · intro e2; have := heap_len H.cells; omega
  have hvlt : ∀ r, v'.ownBlock = some r → r < w5.heap.size := fun r hr => by
    rcases ho.2 with ⟨e1, _⟩ | ⟨g, cap, cur, e1, _, hh, _⟩
    · rw [e1] at hr; cases hr
    · rw [e1] at hr; injection hr with hr; have hr : g = r := hr; rw [← hr]; exact heap_len hh
  refine ⟨hT, _, _, _, mk_file D3 (F' := more F w w4) (fun i hi => .inl hi) (more_lt h.lt (by omega)) hl (c := ⟨(S.file f).bytes ++ l, (S.file f).sure⟩) (v' := v') (fun i hi hne hr => ?_) ?_ hvr⟩
  · rw [hx i hne]; exact hg.block i (by have := h.lt i hi; omega) (fun e => hr i e.symm rfl)
  · have hmax := H.max
    have hlen : (S.file f).bytes.length = S.len f := rfl
    refine ⟨.inl H.mem, ?_, ?_, fun r hr => ?_, ?_, ?_⟩
    · rw [hw, heap_set2 h hB (hcell5.trans H.cells) (by decide)]; rfl
    · have e1 : ((S.file f).bytes ++ l).length = n := by rw [List.length_append, hn]; rfl
      show w4.ownsRow 0 5 1 v' ((S.file f).bytes ++ l).length (((S.file f).bytes ++ l).map bv)
      rw [e1, List.map_append]
      obtain ⟨a1, a2⟩ := ho
      refine ⟨a1, ?_⟩
      rcases a2 with a2 | ⟨g, cap, cur, hv', hg', hh, r⟩
      · exact .inl a2
      · exact .inr ⟨g, cap, cur, hv', hg', (hx g (hvf g (by rw [hv']; rfl))).trans hh, r⟩
    · rcases hvr r hr with e | e
      · exact .inl (H.row r e)
      · exact .inr ⟨by omega, by have := hvlt r hr; omega⟩
    · show (S.file f).sure ≤ ((S.file f).bytes ++ l).length
      rw [List.length_append]; have := H.sure; omega
    · show ((S.file f).bytes ++ l).length ≤ 1048576
      rw [List.length_append]; omega
theorem heap_set3 {W : World} {B j : Nat} {x y z v : Value} {t : TypeId} (hw : W.heap[B]? = some (.cells #[x, y, z] t (0, 0))) : (W.setCell ⟨B, j, none⟩ v).heap[B]? = some (.cells (#[x, y, z].setIfInBounds j v) t (0, 0)) := by
  simp only [World.setCell, Array.getElem?_modify, if_pos, hw, Option.map_some, Option.isSome_none, Bool.false_eq_true, if_false]
theorem names_done {w5 : World} (ho : OwnD w5 w3.heap.size 64 S.pres) (hb : Below w3.heap.size w3 w5) (hw : w4 = w5.setCell ⟨d, 2, none⟩ (.map (some w3.heap.size))) : Left5 F d w w4 S.names := by
  have D3 := h.below hB
  have hx : ∀ i, i ≠ d → w4.heap[i]? = w5.heap[i]? := fun i hi => by rw [hw]; exact Below.heap_setCell _ _ _ _ hi
  have hsz : w4.heap.size = w5.heap.size := by rw [hw]; simp [World.setCell]
  have hs3 := hB.size
  have hs5 := hb.size
  have hd3 := D3.lt d h.fd
  have hm := heap_len (ho.choose_spec.choose_spec.1)
  have hbox5 : w5.heap[d]? = some (.cells #[.int .i64 (S.size : Int), .map (some pm), .map (some dm)] 85 (0, 0)) := (hb.block d hd3).trans D3.box
  have hbx : ∀ i, i < w3.heap.size → i ≠ d → w4.heap[i]? = w3.heap[i]? := fun i hi hne => (hx i hne).trans (hb.block i hi)
  refine ⟨turn_row h hB h.fd (by omega) (by rw [hw]; exact hb.os) (by rw [hw]; exact hb.tape) (by rw [hw]; exact hb.output) hbx, _, _, _, mk_names D3 (F' := more F w w4) (fun i hi => .inl hi) (more_lt h.lt (by omega)) (fun i hi hne => hbx i (by have := h.lt i hi; omega) hne) (dm' := w3.heap.size) ?_ (ho.at_ (hx _ (by omega))) (.inr ⟨hs3, by omega⟩) (by have := D3.lt pm h.fp; omega)⟩
  rw [hw, heap_set3 h hB hbox5]; rfl
end
end Go.Proofs.YtbpdonnneleeeaaGreatDoor

namespace Go.Proofs.YtbpdonnneleeeaaGreatDoor
open Go.RowKit Go.Maps
set_option maxRecDepth 100000
set_option linter.unusedVariables false

theorem errs3 {a b c : Int} (h1 : a = 0) (h2 : b = 0) (h3 : c = 0) : firstErr [a, b, c] = 0 := by subst h1 h2 h3; rfl
theorem run_cut2 (w : World) (A : Option Addr) (n c l m : Nat) (h : l + m ≤ c) :
    (Instr.slice 46 (.slice A n c) (some (.int .i64 (l : Int))) (some (.int .i64 ((l : Int) + (m : Int)))) none).run Tryz.prog w = .ok (.slice (cutA A c l) m (c - l)) w := by
  obtain ⟨i0, hi, hz0, hz1, hz2⟩ := info_parts byte_info
  unfold Instr.slice cutA
  have e1 : ((l : Int) + (m : Int)) = ((l + m : Nat) : Int) := by omega
  rw [e1]
  simp [run_underlying Tryz.underlying46, Instr.sliceBounds, Instr.sliceBound, asIntOf, sizeOf, typeInfo, hi, hz1]
  rw [if_pos (by omega), if_pos (by omega), show ((l : Int) + (m : Int)).toNat - l = m by omega]
/-- the first n bytes that lie there, cloned -/
theorem clone_lies (A : Option Addr) (n m c B : Nat) (l : List UInt8) (w : World) (h : Lies w B 1 A m (l.map bv)) (hn : n ≤ m) (hb : m ≤ 140737488355328) :
    Calls Tryz.prog 56 #[.slice A n c] w fun x w' => ∃ v, x = .returned v ∧ w'.ownsRow w.heap.size 5 1 v n ((l.take n).map bv) ∧ Below w.heap.size w w' := by
  have hm := h.blen
  cases A with
  | none =>
    have hn0 : n = 0 := by
      cases n with
      | zero => rfl
      | succ n => obtain ⟨b, o, x, e, _⟩ := h.byte (k := 0) (by omega); cases e
    subst hn0
    refine (bytesClone_nil 0 c w).mono fun x w' hx => ?_
    obtain ⟨rfl, rfl⟩ := hx
    exact ⟨_, rfl, ⟨by simp, .inl ⟨rfl, rfl⟩⟩, Below.refl _ _⟩
  | some a =>
    refine (bytesClone_at a n c ((l.take n).map fun x => (x.toNat : Int)) w (by simp; omega) (by omega) (fun i hi => ?_)).mono fun x w' hx => ?_
    · obtain ⟨b, o, y, e, _, hy, hc⟩ := h.byte (k := i) (by omega)
      injection e with e
      subst e
      rw [add_lit, hc]
      have : ((l.take n).map fun x => (x.toNat : Int)).getD i 0 = (y.toNat : Int) := by
        rw [List.getD_eq_getElem?_getD, List.getElem?_map, List.getElem?_take_of_lt hi, hy]; rfl
      rw [this]
    · obtain ⟨v, rfl, ho, _, hB⟩ := hx
      refine ⟨v, rfl, ?_, hB⟩
      rw [List.map_map] at ho
      exact ho
theorem errs4 {a b c d : Int} (h1 : a = 0) (h2 : b = 0) (h3 : c = 0) (h4 : d = 0) : firstErr [a, b, c, d] = 0 := by subst h1 h2 h3 h4; rfl
set_option maxHeartbeats 2000000 in
theorem create_ok {w : World} {F : Nat → Prop} {d pm dm : Nat} {S : St} {val : Nat → Value} (h : DiskAt w F d pm dm S val) (s : ByteArray) (hs_s : s.size ≤ 140737488355328) (hn : argErr [okName s.data.toList] = 0) (hk : look S.pres s.data.toList = none) (hz : Maps.size S.pres < 64) :
    Calls Tryz.prog 9 #[.pointer (some ⟨d, 0, none⟩), .string s] w fun x w' => x = .returned (er 0) ∧ ∃ b, w.heap.size ≤ b ∧ Left5 F d w w' (S.create s.data.toList b) := by
  have hmf := hmk
  have G2 := h.free hs_s
  have G9 := h.freeName
  have hf : firstErr [0, argErr [okName s.data.toList], thereErr (look S.pres s.data.toList), fullErr S.pres] = 0 := errs4 rfl hn (by rw [hk]; rfl) (if_pos hz)
  have hD := h
  have HhD := Lib.hid hD; have HG2 := Lib.hid G2; have HG9 := Lib.hid G9; have Hhf := Lib.hid hf; have Hhs_s := Lib.hid hs_s; have Hhk := Lib.hid hk; have Hhz := Lib.hid hz
  clear hD G2 G9 hf hs_s hk hz
  clear h hn
  go_enter Tryz.func9, Tryz.ntmps9
  go_wp2_with fail
  refine (isName_any s _ Hhs_s.out).mono ?_
  rintro x w2 ⟨rfl, hw2⟩
  obtain rfl := hw2.symm
  go_wp2_with fail
  refine (args_lits (w := w) rfl 1 _ _ [okName s.data.toList] rfl (by decide)).mono ?_
  rintro x w3 ⟨q1, rfl, hb3, g1⟩
  have HB3 := Lib.hid hb3; have HG1 := Lib.hid g1
  clear hb3 g1
  go_wp2_with (go_at_call 47; refine (isFree_makes _ _ _).mono ?_; rintro x w4 ⟨a0, b0, rfl, ka0, kb0, hb4⟩)
  have HC4 := Lib.hid (HB3.out.trans (hb4.mono HB3.out.size))
  have HG1 := Lib.hid (HG1.out.below hb4)
  have Ka0 := Lib.hid ka0; have Kb0 := Lib.hid kb0
  clear hb4 ka0 kb0
  go_wp2_with fail
  refine (first4 rfl _ _ (HhD.out.gives.below HC4.out) (fun _ => HG1.out) (fun _ _ => HG2.out w4 a0 b0 HC4.out Ka0.out Kb0.out) (fun _ _ _ => HG9.out.below HC4.out)).mono ?_
  rintro x w9 ⟨rfl, hb9⟩
  rw [Hhf.out]
  have HB9 := Lib.hid (HC4.out.trans (hb9.mono HC4.out.size))
  clear hb9
  have D9 := HhD.out.below HB9.out
  have c1 := D9.c1
  have O := World.ownsMap.alloc D9.pres (.cells #[.int .i64 0, .slice none 0 0] 98)
  have HO := Lib.hid O; clear O D9
  go_wp2_with (at_mapUpdate; refine wpList_mapUpdate_own _ rfl _ _ _ 83 rfl 9 94 keyLaw Tryz.underlying83 pE pm 64 S.pres rfl HO.out (by decide) _ _ (.string s.data.toList) rfl rfl (keyOf_s Hhs_s.out) (.lit (.int .u64 (w9.heap.size : Int))) [] rfl ?_; intro w10 hown10 hg10)
  go_ret
  exact ⟨rfl, _, HB9.out.size, create_done HhD.out HB9.out hg10 hown10 Hhk.out Hhz.out⟩

set_option maxHeartbeats 2000000 in
theorem remove_ok {w : World} {F : Nat → Prop} {d pm dm : Nat} {S : St} {val : Nat → Value} (h : DiskAt w F d pm dm S val) (s : ByteArray) (hs_s : s.size ≤ 140737488355328) (hn : argErr [okName s.data.toList] = 0) {f : Nat} (hk : look S.pres s.data.toList = some f) :
    Calls Tryz.prog 11 #[.pointer (some ⟨d, 0, none⟩), .string s] w fun x w' => x = .returned (er 0) ∧ Left5 F d w w' (S.remove s.data.toList) := by
  have hmf := hmk
  have G2 := h.leads hs_s
  have hf : firstErr [0, argErr [okName s.data.toList], noneErr (look S.pres s.data.toList)] = 0 := errs3 rfl hn (by rw [hk]; rfl)
  have hD := h
  have HhD := Lib.hid hD; have HG2 := Lib.hid G2; have Hhf := Lib.hid hf; have Hhs_s := Lib.hid hs_s; have Hhk := Lib.hid hk
  clear hD G2 hf hs_s hk
  clear h hn
  go_enter Tryz.func11, Tryz.ntmps11
  go_wp2_with fail
  refine (isName_any s _ Hhs_s.out).mono ?_
  rintro x w2 ⟨rfl, hw2⟩
  obtain rfl := hw2.symm
  go_wp2_with fail
  refine (args_lits (w := w) rfl 1 _ _ [okName s.data.toList] rfl (by decide)).mono ?_
  rintro x w3 ⟨q1, rfl, hb3, g1⟩
  have HB3 := Lib.hid hb3; have HG1 := Lib.hid g1
  clear hb3 g1
  go_wp2_with (go_at_call 52; refine (leads_makes _ _ _).mono ?_; rintro x w4 ⟨a0, b0, rfl, ka0, kb0, hb4⟩)
  have HC4 := Lib.hid (HB3.out.trans (hb4.mono HB3.out.size))
  have HG1 := Lib.hid (HG1.out.below hb4)
  have Ka0 := Lib.hid ka0; have Kb0 := Lib.hid kb0
  clear hb4 ka0 kb0
  go_wp2_with fail
  refine (first3 rfl _ _ (HhD.out.gives.below HC4.out) (fun _ => HG1.out) (fun _ _ => HG2.out w4 a0 b0 HC4.out Ka0.out Kb0.out)).mono ?_
  rintro x w9 ⟨rfl, hb9⟩
  rw [Hhf.out]
  have HB9 := Lib.hid (HC4.out.trans (hb9.mono HC4.out.size))
  clear hb9
  have D9 := HhD.out.below HB9.out
  have c1 := D9.c1
  have HO := Lib.hid D9.pres; clear D9
  go_wp2_with (at_delete; refine wpList_delete_own _ rfl _ _ 83 9 rfl 94 keyLaw Tryz.underlying83 pE pm 64 S.pres rfl HO.out _ (.string s.data.toList) rfl (keyOf_s Hhs_s.out) ?_; intro w10 hown10 hg10)
  go_ret
  exact ⟨rfl, remove_done HhD.out HB9.out hg10.grown hown10⟩

set_option maxHeartbeats 2000000 in
theorem size_ok {w : World} {F : Nat → Prop} {d pm dm : Nat} {S : St} {val : Nat → Value} (h : DiskAt w F d pm dm S val) (s : ByteArray) (hs_s : s.size ≤ 140737488355328) (hn : argErr [okName s.data.toList] = 0) {f : Nat} (hk : look S.pres s.data.toList = some f) :
    Calls Tryz.prog 28 #[.pointer (some ⟨d, 0, none⟩), .string s] w fun x w' => x = .returned (.tuple #[.int .i64 (S.len f : Int), er 0]) ∧ Below w.heap.size w w' := by
  have hmf := hmk
  have G2 := h.leads hs_s
  have hf : firstErr [0, argErr [okName s.data.toList], noneErr (look S.pres s.data.toList)] = 0 := errs3 rfl hn (by rw [hk]; rfl)
  have hD := h
  have HhD := Lib.hid hD; have HG2 := Lib.hid G2; have Hhf := Lib.hid hf; have Hhs_s := Lib.hid hs_s; have Hhk := Lib.hid hk
  clear hD G2 hf hs_s hk
  clear h hn
  go_enter Tryz.func28, Tryz.ntmps28
  go_wp2_with fail
  refine (isName_any s _ Hhs_s.out).mono ?_
  rintro x w2 ⟨rfl, hw2⟩
  obtain rfl := hw2.symm
  go_wp2_with fail
  refine (args_lits (w := w) rfl 1 _ _ [okName s.data.toList] rfl (by decide)).mono ?_
  rintro x w3 ⟨q1, rfl, hb3, g1⟩
  have HB3 := Lib.hid hb3; have HG1 := Lib.hid g1
  clear hb3 g1
  go_wp2_with (go_at_call 52; refine (leads_makes _ _ _).mono ?_; rintro x w4 ⟨a0, b0, rfl, ka0, kb0, hb4⟩)
  have HC4 := Lib.hid (HB3.out.trans (hb4.mono HB3.out.size))
  have HG1 := Lib.hid (HG1.out.below hb4)
  have Ka0 := Lib.hid ka0; have Kb0 := Lib.hid kb0
  clear hb4 ka0 kb0
  go_wp2_with fail
  refine (first3 rfl _ _ (HhD.out.gives.below HC4.out) (fun _ => HG1.out) (fun _ _ => HG2.out w4 a0 b0 HC4.out Ka0.out Kb0.out)).mono ?_
  rintro x w9 ⟨rfl, hb9⟩
  rw [Hhf.out]
  have HB9 := Lib.hid (HC4.out.trans (hb9.mono HC4.out.size))
  clear hb9
  have D9 := HhD.out.below HB9.out
  have H9 := D9.files f (.inl ⟨_, Hhk.out⟩)
  have c1 := D9.c1
  have hlk := OwnD.lookup1 D9.pres Hhs_s.out
  rw [Hhk.out] at hlk
  simp only [ptrOf] at hlk
  have f1 := H9.f1
  obtain ⟨A0, cp, hv0, hnc, hcm, _⟩ := own_shape H9.own
  rw [hv0] at f1
  have hlen : (S.file f).bytes.length = S.len f := rfl
  rw [hlen] at f1 hnc
  clear hcm
  clear D9 H9 hv0 hlen hnc
  go_wp2
  go_ret2
  exact ⟨rfl, HB9.out⟩

set_option maxHeartbeats 2000000 in
theorem sync_ok {w : World} {F : Nat → Prop} {d pm dm : Nat} {S : St} {val : Nat → Value} (h : DiskAt w F d pm dm S val) (s : ByteArray) (hs_s : s.size ≤ 140737488355328) (hn : argErr [okName s.data.toList] = 0) {f : Nat} (hk : look S.pres s.data.toList = some f) :
    Calls Tryz.prog 21 #[.pointer (some ⟨d, 0, none⟩), .string s] w fun x w' => x = .returned (er 0) ∧ Left5 F d w w' (S.sync f) := by
  have hmf := hmk
  have G2 := h.leads hs_s
  have hf : firstErr [0, argErr [okName s.data.toList], noneErr (look S.pres s.data.toList)] = 0 := errs3 rfl hn (by rw [hk]; rfl)
  have hD := h
  have HhD := Lib.hid hD; have HG2 := Lib.hid G2; have Hhf := Lib.hid hf; have Hhs_s := Lib.hid hs_s; have Hhk := Lib.hid hk
  clear hD G2 hf hs_s hk
  clear h hn
  go_enter Tryz.func21, Tryz.ntmps21
  go_wp2_with fail
  refine (isName_any s _ Hhs_s.out).mono ?_
  rintro x w2 ⟨rfl, hw2⟩
  obtain rfl := hw2.symm
  go_wp2_with fail
  refine (args_lits (w := w) rfl 1 _ _ [okName s.data.toList] rfl (by decide)).mono ?_
  rintro x w3 ⟨q1, rfl, hb3, g1⟩
  have HB3 := Lib.hid hb3; have HG1 := Lib.hid g1
  clear hb3 g1
  go_wp2_with (go_at_call 52; refine (leads_makes _ _ _).mono ?_; rintro x w4 ⟨a0, b0, rfl, ka0, kb0, hb4⟩)
  have HC4 := Lib.hid (HB3.out.trans (hb4.mono HB3.out.size))
  have HG1 := Lib.hid (HG1.out.below hb4)
  have Ka0 := Lib.hid ka0; have Kb0 := Lib.hid kb0
  clear hb4 ka0 kb0
  go_wp2_with fail
  refine (first3 rfl _ _ (HhD.out.gives.below HC4.out) (fun _ => HG1.out) (fun _ _ => HG2.out w4 a0 b0 HC4.out Ka0.out Kb0.out)).mono ?_
  rintro x w9 ⟨rfl, hb9⟩
  rw [Hhf.out]
  have HB9 := Lib.hid (HC4.out.trans (hb9.mono HC4.out.size))
  clear hb9
  have D9 := HhD.out.below HB9.out
  have H9 := D9.files f (.inl ⟨_, Hhk.out⟩)
  have c1 := D9.c1
  have hlk := OwnD.lookup1 D9.pres Hhs_s.out
  rw [Hhk.out] at hlk
  simp only [ptrOf] at hlk
  have f1 := H9.f1
  obtain ⟨A0, cp, hv0, hnc, hcm, _⟩ := own_shape H9.own
  rw [hv0] at f1
  have hlen : (S.file f).bytes.length = S.len f := rfl
  rw [hlen] at f1 hnc
  clear hcm
  have f0 := H9.f0
  have fz : w9.frozen? ⟨f, 0, none⟩ = false := by simp [World.frozen?, H9.cells]
  clear D9 H9 hv0 hlen hnc
  go_wp2
  go_ret
  exact ⟨rfl, sync_done HhD.out HB9.out Hhk.out rfl⟩

set_option maxHeartbeats 2000000 in
theorem append_ok {w : World} {F : Nat → Prop} {d pm dm : Nat} {S : St} {val : Nat → Value} (h : DiskAt w F d pm dm S val) (s : ByteArray) (hs_s : s.size ≤ 140737488355328) (A : Option Addr) (n c : Nat) (l : List UInt8) (hl : Lies w w.heap.size 1 A n (l.map bv)) (hn47 : n ≤ 140737488355328) (hn : argErr [okName s.data.toList] = 0) {f : Nat} (hk : look S.pres s.data.toList = some f) (hsp : n ≤ S.left ∧ n + S.len f ≤ 1048576) :
    Calls Tryz.prog 15 #[.pointer (some ⟨d, 0, none⟩), .string s, .slice A n c] w fun x w' => x = .returned (er 0) ∧ Left5 F d w w' (S.append f l) := by
  have hmf := hmk
  have G2 := h.leads hs_s
  have G3 := h.space hs_s hk n hn47
  have hf : firstErr [0, argErr [okName s.data.toList], noneErr (look S.pres s.data.toList), spaceErr S (S.len f) n] = 0 := errs4 rfl hn (by rw [hk]; rfl) (spaceErr_ok hsp)
  have hD := h
  have HhD := Lib.hid hD; have HG2 := Lib.hid G2; have HG3 := Lib.hid G3; have Hhf := Lib.hid hf; have Hhs_s := Lib.hid hs_s; have Hhk := Lib.hid hk; have Hhl := Lib.hid hl; have Hhsp := Lib.hid hsp
  clear hD G2 G3 hf hs_s hk hl hsp
  clear h hn
  go_enter Tryz.func15, Tryz.ntmps15
  go_wp2_with fail
  refine (isName_any s _ Hhs_s.out).mono ?_
  rintro x w2 ⟨rfl, hw2⟩
  obtain rfl := hw2.symm
  go_wp2_with fail
  refine (args_lits (w := w) rfl 1 _ _ [okName s.data.toList] rfl (by decide)).mono ?_
  rintro x w3 ⟨q1, rfl, hb3, g1⟩
  have HB3 := Lib.hid hb3; have HG1 := Lib.hid g1
  clear hb3 g1
  go_wp2_with (go_at_call 52; refine (leads_makes _ _ _).mono ?_; rintro x w4 ⟨a0, b0, rfl, ka0, kb0, hb4⟩)
  have HC4 := Lib.hid (HB3.out.trans (hb4.mono HB3.out.size))
  have HG1 := Lib.hid (HG1.out.below hb4)
  have Ka0 := Lib.hid ka0; have Kb0 := Lib.hid kb0
  clear hb4
  go_wp2_with (go_at_call 54; refine (hasSpace_makes _ _ _ _).mono ?_; rintro x w5 ⟨a1, b1, c1, rfl, ka1, kb1, kc1, hb5⟩)
  have HC5 := Lib.hid (HC4.out.trans (hb5.mono HC4.out.size))
  have HG1 := Lib.hid (HG1.out.below hb5)
  have ka0 := ka0.below hb5
  have kb0 := kb0.below hb5
  have Ka0 := Lib.hid ka0; have Kb0 := Lib.hid kb0; have Ka1 := Lib.hid ka1; have Kb1 := Lib.hid kb1; have Kc1 := Lib.hid kc1
  clear hb5 ka0 kb0 ka1 kb1 kc1
  go_wp2_with fail
  refine (first4 rfl _ _ (HhD.out.gives.below HC5.out) (fun _ => HG1.out) (fun _ _ => HG2.out w5 a0 b0 HC5.out Ka0.out Kb0.out) (fun _ _ _ => HG3.out w5 a1 b1 c1 HC5.out Ka1.out Kb1.out Kc1.out)).mono ?_
  rintro x w9 ⟨rfl, hb9⟩
  rw [Hhf.out]
  have HB9 := Lib.hid (HC5.out.trans (hb9.mono HC5.out.size))
  clear hb9
  have D9 := HhD.out.below HB9.out
  have H9 := D9.files f (.inl ⟨_, Hhk.out⟩)
  have c1 := D9.c1
  have hlk := OwnD.lookup1 D9.pres Hhs_s.out
  rw [Hhk.out] at hlk
  simp only [ptrOf] at hlk
  have f1 := H9.f1
  obtain ⟨A0, cp, hv0, hnc, hcm, _⟩ := own_shape H9.own
  rw [hv0] at f1
  have hlen : (S.file f).bytes.length = S.len f := rfl
  rw [hlen] at f1 hnc
  clear hcm
  obtain ⟨i0, hi, hz0, hz1, hz2⟩ := info_parts byte_info
  have hln := Hhl.out.blen
  have hmx := Hhsp.out.2
  have hs9 := HB9.out.size
  obtain ⟨v', w5, hrun, ho5, hg5, hv5⟩ := run_app (P := Tryz.prog) w9 0 46 46 5 i0 _ 1 1 Tryz.underlying46 hi hz0 hz1 hz2 rfl (by decide) (val f) (S.len f) ((S.file f).bytes.map bv) H9.own w.heap.size A n c (l.map bv) (Hhl.out.below HB9.out) (bv_one _) (by unfold maxLen; omega) (by omega) (Nat.zero_le _)
  rw [hv0] at hrun
  rw [hlen] at hrun
  have hfr : (val f).ownBlock ≠ some f := fun e => by
    rcases H9.own.2 with ⟨e1, _⟩ | ⟨g, cap, cur, e1, _, hh, _⟩
    · rw [e1] at e; cases e
    · rw [e1] at e; injection e with e; have e : g = f := e
      rw [e, H9.cells] at hh; injection hh with hh; injection hh with h1 h2; exact absurd h2 (by decide)
  have hc5 : w5.heap[f]? = _ := (hg5.block f (heap_len H9.cells) (fun e => hfr e.symm)).trans H9.cells
  have f5 : w5.cell? ⟨f, 1, none⟩ = some (.slice A0 (S.len f) cp) := by rw [cell_of_row w5 f 1 _ _ (0, 0) hc5, hv0, hlen]; rfl
  have fz : w5.frozen? ⟨f, 1, none⟩ = false := by simp [World.frozen?, hc5]
  have hvs : v' = v' := rfl
  obtain ⟨A5, c5, hv', _⟩ := own_shape ho5
  have HR : Hid (Left5 F d w (w5.setCell ⟨f, 1, none⟩ v') (S.append f l)) := append_done HhD.out HB9.out (by rw [hln]) Hhk.out ho5 hg5 hv5 rfl (by rw [hln]; omega)
  have HRun := Lib.hid hrun
  clear D9 H9 hv0 hlen hrun ho5 hg5 hv5 hfr hc5 hln hmx hs9 hnc hvs
  subst hv'
  go_wp2_with (at_builtin; refine Lib.wpList_append_run _ rfl _ _ _ _ rfl _ _ rfl rfl _ _ HRun.out ?_)
  go_ret
  exact ⟨rfl, HR.out⟩

set_option maxHeartbeats 2000000 in
theorem read_ok {w : World} {F : Nat → Prop} {d pm dm : Nat} {S : St} {val : Nat → Value} (h : DiskAt w F d pm dm S val) (s : ByteArray) (hs_s : s.size ≤ 140737488355328) (at_ n : Nat) (hat : at_ ≤ 9223372036854775807) (hn : argErr [okName s.data.toList, decide ((0 : Int) ≤ (at_ : Int)), decide ((0 : Int) ≤ (n : Int))] = 0) {f : Nat} (hk : look S.pres s.data.toList = some f) (hr : at_ + n ≤ S.len f) :
    Calls Tryz.prog 17 #[.pointer (some ⟨d, 0, none⟩), .string s, .int .i64 (at_ : Int), .int .i64 (n : Int)] w fun x w' => ∃ v, x = .returned (.tuple #[v, er 0]) ∧ w'.ownsRow w.heap.size 5 1 v n ((((S.file f).bytes.drop at_).take n).map bv) ∧ Below w.heap.size w w' := by
  have hmf := hmk
  have G2 := h.leads hs_s
  have G3 := h.reach hs_s hk (at_ : Int) (n : Int) (by omega) (by omega)
  have hf : firstErr [0, argErr [okName s.data.toList, decide ((0 : Int) ≤ (at_ : Int)), decide ((0 : Int) ≤ (n : Int))], noneErr (look S.pres s.data.toList), shortErr (S.len f) (at_ : Int) (n : Int)] = 0 := errs4 rfl hn (by rw [hk]; rfl) (shortErr_ok (by omega))
  have hD := h
  have HhD := Lib.hid hD; have HG2 := Lib.hid G2; have HG3 := Lib.hid G3; have Hhf := Lib.hid hf; have Hhs_s := Lib.hid hs_s; have Hhk := Lib.hid hk
  clear hD G2 G3 hf hs_s hk
  clear h hn
  go_enter Tryz.func17, Tryz.ntmps17
  go_wp2_with fail
  refine (isName_any s _ Hhs_s.out).mono ?_
  rintro x w2 ⟨rfl, hw2⟩
  obtain rfl := hw2.symm
  go_wp2_with fail
  refine (args_lits (w := w) rfl 3 _ _ [okName s.data.toList, decide ((0 : Int) ≤ (at_ : Int)), decide ((0 : Int) ≤ (n : Int))] rfl (by decide)).mono ?_
  rintro x w3 ⟨q1, rfl, hb3, g1⟩
  have HB3 := Lib.hid hb3; have HG1 := Lib.hid g1
  clear hb3 g1
  go_wp2_with (go_at_call 52; refine (leads_makes _ _ _).mono ?_; rintro x w4 ⟨a0, b0, rfl, ka0, kb0, hb4⟩)
  have HC4 := Lib.hid (HB3.out.trans (hb4.mono HB3.out.size))
  have HG1 := Lib.hid (HG1.out.below hb4)
  have Ka0 := Lib.hid ka0; have Kb0 := Lib.hid kb0
  clear hb4
  go_wp2_with (go_at_call 55; refine (reaches_makes _ _ _ _ _).mono ?_; rintro x w5 ⟨a1, b1, c1, d1, rfl, ka1, kb1, kc1, kd1, hb5⟩)
  have HC5 := Lib.hid (HC4.out.trans (hb5.mono HC4.out.size))
  have HG1 := Lib.hid (HG1.out.below hb5)
  have ka0 := ka0.below hb5
  have kb0 := kb0.below hb5
  have Ka0 := Lib.hid ka0; have Kb0 := Lib.hid kb0; have Ka1 := Lib.hid ka1; have Kb1 := Lib.hid kb1; have Kc1 := Lib.hid kc1; have Kd1 := Lib.hid kd1
  clear hb5 ka0 kb0 ka1 kb1 kc1 kd1
  go_wp2_with fail
  refine (first4 rfl _ _ (HhD.out.gives.below HC5.out) (fun _ => HG1.out) (fun _ _ => HG2.out w5 a0 b0 HC5.out Ka0.out Kb0.out) (fun _ _ _ => HG3.out w5 a1 b1 c1 d1 HC5.out Ka1.out Kb1.out Kc1.out Kd1.out)).mono ?_
  rintro x w9 ⟨rfl, hb9⟩
  rw [Hhf.out]
  have HB9 := Lib.hid (HC5.out.trans (hb9.mono HC5.out.size))
  clear hb9
  have D9 := HhD.out.below HB9.out
  have H9 := D9.files f (.inl ⟨_, Hhk.out⟩)
  have c1 := D9.c1
  have hlk := OwnD.lookup1 D9.pres Hhs_s.out
  rw [Hhk.out] at hlk
  simp only [ptrOf] at hlk
  have f1 := H9.f1
  obtain ⟨A0, cp, hv0, hnc, hcm, _⟩ := own_shape H9.own
  rw [hv0] at f1
  have hlen : (S.file f).bytes.length = S.len f := rfl
  rw [hlen] at f1 hnc
  clear hcm
  have HL : Lies w9 w9.heap.size 1 A0 (S.len f) ((S.file f).bytes.map bv) := by have h7 := H9.own; rw [hv0] at h7; exact Lies.of_own h7
  have hmx : S.len f ≤ 1048576 := H9.max
  have hcut := fun w => run_cut2 w A0 (S.len f) cp at_ n (by omega)
  have HC := clone_lies _ n (S.len f - at_) (cp - at_) w9.heap.size ((S.file f).bytes.drop at_) w9 (HL.cutA (m := at_) (c := cp) (by omega) hnc) (by omega) (by omega)
  have HCC := Lib.hid HC
  clear D9 H9 hv0 hlen HL HC hnc
  go_wp2_with (go_at_call 56; refine HCC.out.mono ?_; rintro x w10 ⟨v, rfl, ho, hb10⟩)
  go_ret2
  exact ⟨v, rfl, own_base ho HB9.out.size, HB9.out.trans (hb10.mono HB9.out.size)⟩

end Go.Proofs.YtbpdonnneleeeaaGreatDoor

namespace Go.Proofs.YtbpdonnneleeeaaGreatDoor
open Go.RowKit Go.Maps Go.Sort
set_option maxRecDepth 100000
set_option linter.unusedVariables false

/-- a new disk of n bytes -/
def St.new (n : Nat) : St := ⟨n, .map [], .map [], fun _ => ⟨[], 0⟩⟩
/-- memory that was made since w -/
def since (w w' : World) (i : Nat) : Prop := w.heap.size ≤ i ∧ i < w'.heap.size

theorem new_bad (n : Int) (w : World) (h : n < 1 ∨ 8388608 < n) : Calls Tryz.prog 6 #[.int .i64 n] w fun x w' => x = .returned (.tuple #[.pointer none, er 1]) ∧ w' = w := by
  by_cases h1 : n < 1
  · clear h
    go_enter Tryz.func6, Tryz.ntmps6
    go_wp2
    go_ret2
    exact ⟨rfl, rfl⟩
  · have h2 : 8388608 < n := h.resolve_left h1
    clear h
    go_enter Tryz.func6, Tryz.ntmps6
    go_wp2
    go_ret2
    exact ⟨rfl, rfl⟩

theorem dir_none (w : World) (P : Program) : IsMap (.map [] : Dir) := ⟨[], rfl⟩
theorem new_disk (w : World) (n : Nat) (h1 : 1 ≤ n) (h2 : n ≤ 8388608) : ∃ w', w' = ((w.alloc (.map #[] 0)).alloc (.map #[] 0)).alloc (.cells #[.int .i64 (n : Int), .map (some w.heap.size), .map (some (w.heap.size + 1))] 85) ∧
    Below w.heap.size w w' ∧ Disk w' (since w w') (w.heap.size + 1 + 1) (St.new n) := by
  refine ⟨_, rfl, ?_⟩
  have hs1 := alloc_size w (.map #[] 0)
  have hs2 := alloc_size (w.alloc (.map #[] 0)) (.map #[] 0)
  have hm1 : (w.alloc (.map #[] 0)).heap[w.heap.size]? = some (.map #[] 0) := heap_alloc_new w _
  have ho1 : OwnD (w.alloc (.map #[] 0)) w.heap.size 0 (.map []) := World.ownsMap_made w _ _ _
  have hB1 := below_a (Below.refl w.heap.size w) (.map #[] 0)
  generalize hW : w.alloc (.map #[] 0) = W1 at *
  have ho2 : OwnD (W1.alloc (.map #[] 0)) W1.heap.size 0 (.map []) := World.ownsMap_made W1 _ _ _
  have ho1' : OwnD (W1.alloc (.map #[] 0)) w.heap.size 0 (.map []) := World.ownsMap.alloc ho1 _
  have hB2 := below_a hB1 (.map #[] 0)
  generalize hW2 : W1.alloc (.map #[] 0) = W2 at *
  have hs3 := alloc_size W2 (.cells #[.int .i64 (n : Int), .map (some w.heap.size), .map (some (w.heap.size + 1))] 85)
  have hbox := heap_alloc_new W2 (.cells #[.int .i64 (n : Int), .map (some w.heap.size), .map (some (w.heap.size + 1))] 85)
  have hB3 := below_a hB2 (.cells #[.int .i64 (n : Int), .map (some w.heap.size), .map (some (w.heap.size + 1))] 85)
  have o1 := World.ownsMap.alloc ho1' (.cells #[.int .i64 (n : Int), .map (some w.heap.size), .map (some (w.heap.size + 1))] 85)
  have o2 := World.ownsMap.alloc ho2 (.cells #[.int .i64 (n : Int), .map (some w.heap.size), .map (some (w.heap.size + 1))] 85)
  generalize W2.alloc (.cells #[.int .i64 (n : Int), .map (some w.heap.size), .map (some (w.heap.size + 1))] 85) = W3 at *
  refine ⟨hB3, w.heap.size, w.heap.size + 1, fun _ => .slice none 0 0, ?_⟩
  have hlive : ∀ f, ¬ (St.new n).live f := by
    rintro f (⟨k, hk⟩ | ⟨k, hk⟩) <;> cases hk
  refine ⟨?_, ⟨by omega, by omega⟩, ⟨by omega, by omega⟩, ⟨by omega, by omega⟩, by omega, o1.mono (by omega), ?_, fun e he => (by cases he), fun e he => (by cases he), fun f hf => absurd hf (hlive f), fun f g hf => absurd hf (hlive f), fun k k' f hk => (by cases hk), h1, h2, fun i hi => hi.2⟩
  · rw [show w.heap.size + 1 + 1 = W2.heap.size by omega]; exact hbox
  · have := o2.mono (n' := 64) (by omega)
    rw [← hs1] at this; exact this

theorem new_ok (n : Nat) (w : World) (h1 : 1 ≤ n) (h2 : n ≤ 8388608) : Calls Tryz.prog 6 #[.int .i64 (n : Int)] w fun x w' => ∃ d, x = .returned (.tuple #[.pointer (some ⟨d, 0, none⟩), er 0]) ∧ Below w.heap.size w w' ∧ Disk w' (since w w') d (St.new n) := by
  obtain ⟨w', hw, hB, hD⟩ := new_disk w n h1 h2
  have hmm := @run_makeMap Tryz.prog
  have i1 : ¬ (n : Int) < 1 := by omega
  have i2 : ¬ (8388608 : Int) < (n : Int) := by omega
  have HR : Hid (∃ d, Ending.returned (.tuple #[.pointer (some ⟨w.heap.size + 1 + 1, 0, none⟩), er 0]) = .returned (.tuple #[.pointer (some ⟨d, 0, none⟩), er 0]) ∧ Below w.heap.size w w' ∧ Disk w' (since w w') d (St.new n)) := ⟨_, rfl, hB, hD⟩
  subst hw
  clear hB hD
  go_enter Tryz.func6, Tryz.ntmps6
  go_wp2
  go_ret2
  exact HR.out

set_option maxHeartbeats 1000000 in
theorem names_ok {w : World} {F : Nat → Prop} {d pm dm : Nat} {S : St} {val : Nat → Value} (h : DiskAt w F d pm dm S val) :
    Calls Tryz.prog 23 #[.pointer (some ⟨d, 0, none⟩)] w fun x w' => x = .returned (er 0) ∧ Left5 F d w w' S.names := by
  have hc := h.c1
  have HD := Lib.hid h
  have HC := Lib.hid (mapsClone_owns 9 pE pm 64 S.pres w h.pres)
  have hEx := Lib.hid (exists_ok d pm w hc)
  clear h
  go_enter Tryz.func23, Tryz.ntmps23
  go_wp2_with (go_at_call 44; refine hEx.out.mono ?_; rintro x w1 ⟨rfl, hw1⟩)
  obtain rfl := hw1.symm
  go_wp2_with fail
  refine HC.out.mono ?_
  rintro x w5 ⟨rfl, ho5, _, hb5⟩
  have D5 := HD.out.below hb5
  have c5 := D5.c2
  have fz : w5.frozen? ⟨d, 2, none⟩ = false := by simp [World.frozen?, D5.box]
  have HR : Hid (Left5 F d w (w5.setCell ⟨d, 2, none⟩ (.map (some w.heap.size))) S.names) := names_done HD.out (Below.refl _ _) ho5 hb5 rfl
  clear D5 ho5 hb5 hc
  go_wp2
  go_ret
  exact ⟨rfl, HR.out⟩

/-- the names, rising -/
def St.list (S : St) : List (List UInt8) := (strKeys S.pres).mergeSort fun x y => decide (x ≤ y)
theorem sorts_same {l l' : List (List UInt8)} (h : l.Perm l') : (l.mergeSort fun x y => decide (x ≤ y)) = l'.mergeSort fun x y => decide (x ≤ y) := by
  have tr : ∀ a b c : List UInt8, decide (a ≤ b) = true → decide (b ≤ c) = true → decide (a ≤ c) = true := fun a b c h1 h2 => by simp at *; exact List.le_trans h1 h2
  have tot : ∀ a b : List UInt8, (decide (a ≤ b) || decide (b ≤ a)) = true := fun a b => by simp; exact List.le_total a b
  refine List.Perm.eq_of_pairwise (le := fun x y => decide (x ≤ y) = true) ?_ (List.pairwise_mergeSort tr tot l) (List.pairwise_mergeSort tr tot l') (((List.mergeSort_perm l _).trans h).trans (List.mergeSort_perm l' _).symm)
  intro a b _ _ h1 h2
  simp at h1 h2
  exact List.le_antisymm h1 h2

set_option maxHeartbeats 1000000 in
theorem list_ok {w : World} {F : Nat → Prop} {d pm dm : Nat} {S : St} {val : Nat → Value} (h : DiskAt w F d pm dm S val) :
    Calls Tryz.prog 60 #[.pointer (some ⟨d, 0, none⟩)] w fun x w' => ∃ v, x = .returned v ∧ w'.ownsRow w.heap.size 9 1 v S.list.length (S.list.map encStr) ∧ Below w.heap.size w w' := by
  have hc := h.c1
  have hz := OwnD.size_le h.pres
  have hEx := Lib.hid (exists_ok d pm w hc)
  have HK := Lib.hid (mapsKeys_any (some pm) w)
  have HS := Lib.hid (sortedKeys_own pm 64 S.pres pE w h.pres (by unfold maxLen; omega) (by omega))
  clear h hz
  go_enter Tryz.func60, Tryz.ntmps60
  go_wp2_with (go_at_call 44; refine hEx.out.mono ?_; rintro x w1 ⟨rfl, hw1⟩)
  obtain rfl := hw1.symm
  go_wp2_with (go_at_call 118; refine HK.out.mono ?_; rintro x w1 ⟨rfl, rfl⟩)
  refine HS.out.mono ?_
  rintro x w1 ⟨v, ss, rfl, hp, ho, _, hb⟩
  have HR : Hid (w1.ownsRow w.heap.size 9 1 v S.list.length (S.list.map encStr)) := by
    have e1 : (ss.mergeSort fun x y => decide (x ≤ y)) = S.list := sorts_same hp
    have e2 : ss.length = S.list.length := by rw [← e1, List.length_mergeSort]
    rw [e1, e2] at ho
    exact own_base ho (by simp)
  have HB : Hid (Below w.heap.size w w1) := (below_a (Below.refl _ w) _).trans (hb.mono (by simp))
  obtain ⟨A1, c1, hv, _⟩ := own_shape ho
  subst hv
  clear ho hb hp hc
  go_wp2
  go_ret
  exact ⟨_, rfl, HR.out, HB.out⟩
end Go.Proofs.YtbpdonnneleeeaaGreatDoor

