/-
  What a call on a disk leaves: the posts of package files' methods, and how each follows from the memory that the walk ends in.
-/
import Derived.Test.YtopcnlophmplgaaMuts
import Derived.Test.YtopcnlophmplgaaDiskB
namespace Go.Proofs.Ytopcnlophmplgaa
open Go.RowKit Go.Maps
set_option maxRecDepth 100000
set_option linter.unusedVariables false
set_option linter.unusedSectionVars false

def Disk (w : World) (F : Nat → Prop) (d : Nat) (S : St) : Prop := ∃ pm dm val, DiskAt w F d pm dm S val
/-- behind a call on the disk in block d: it is S' now; nothing else was written -/
def Left5 (F : Nat → Prop) (d : Nat) (w w' : World) (S' : St) : Prop := Turn F w w' ∧ Disk w' (more F w w') d S'

theorem Turn.of_below {F : Nat → Prop} {w w' : World} (h : Below w.heap.size w w') : Turn F w w' := ⟨h.os, h.tape, h.output, h.size, fun i hi _ => h.block i hi⟩
theorem Turn.trans {F G : Nat → Prop} {a b c : World} (h : Turn F a b) (k : Turn G b c) (hG : ∀ i, G i → i < a.heap.size → F i) : Turn F a c :=
  ⟨k.os.trans h.os, k.tape.trans h.tape, k.output.trans h.output, Nat.le_trans h.size k.size, fun i hi hn => (k.block i (Nat.lt_of_lt_of_le hi h.size) (fun g => hn (hG i g hi))).trans (h.block i hi hn)⟩
theorem Turn.below {F : Nat → Prop} {w w' : World} (h : Turn F w w') {B : Nat} (hB : B ≤ w.heap.size) (hF : ∀ i, F i → B ≤ i) : Below B w w' :=
  ⟨h.os, h.tape, h.output, h.size, fun i hi => h.block i (by omega) (fun hf => by have := hF i hf; omega)⟩
theorem Disk.lt {w : World} {F : Nat → Prop} {d : Nat} {S : St} (h : Disk w F d S) : ∀ i, F i → i < w.heap.size := by obtain ⟨_, _, _, h⟩ := h; exact h.lt
theorem more_lt {w w' : World} {F : Nat → Prop} (h : ∀ i, F i → i < w.heap.size) (hz : w.heap.size ≤ w'.heap.size) : ∀ i, more F w w' i → i < w'.heap.size := fun i hi => by
  rcases hi with hi | hi
  · have := h i hi; omega
  · exact hi.2
theorem DiskAt.mono {w : World} {F F' : Nat → Prop} {d pm dm : Nat} {S : St} {val : Nat → Value} (h : DiskAt w F d pm dm S val) (hF : ∀ i, F i → F' i) (hlt : ∀ i, F' i → i < w.heap.size) : DiskAt w F' d pm dm S val :=
  ⟨h.box, hF _ h.fd, hF _ h.fp, hF _ h.fm, h.ne, h.pres, h.dur, h.presOK, h.durOK, fun f hf => ⟨hF _ (h.files f hf).mem, (h.files f hf).cells, (h.files f hf).own, fun r hr => hF r ((h.files f hf).row r hr), (h.files f hf).sure, (h.files f hf).max⟩, h.apart, h.inj, h.lo, h.hi, hlt⟩
theorem Disk.keep {w w' : World} {F : Nat → Prop} {d : Nat} {S : St} (h : Disk w F d S) (hs : ∀ i, F i → w'.heap[i]? = w.heap[i]?) (hz : w.heap.size ≤ w'.heap.size) : Disk w' F d S := by
  obtain ⟨a, b, c, h⟩ := h; exact ⟨a, b, c, h.keep hs hz⟩
theorem Disk.below {w w' : World} {F : Nat → Prop} {d : Nat} {S : St} (h : Disk w F d S) (hb : Below w.heap.size w w') : Disk w' F d S := by
  obtain ⟨a, b, c, h⟩ := h; exact ⟨a, b, c, h.below hb⟩
theorem Disk.mono {w : World} {F F' : Nat → Prop} {d : Nat} {S : St} (h : Disk w F d S) (hF : ∀ i, F i → F' i) (hlt : ∀ i, F' i → i < w.heap.size) : Disk w F' d S := by
  obtain ⟨a, b, c, h⟩ := h; exact ⟨a, b, c, h.mono hF hlt⟩
/-- another disk's memory stands -/
theorem Disk.other {w w' : World} {F G : Nat → Prop} {d : Nat} {S : St} (h : Disk w G d S) (ht : Turn F w w') (hd : ∀ i, G i → ¬ F i) : Disk w' G d S :=
  h.keep (fun i hi => ht.block i (h.lt i hi) (hd i hi)) ht.size
/-- nothing was written -/
theorem left_same {w w' : World} {F : Nat → Prop} {d : Nat} {S : St} (h : Disk w F d S) (hb : Below w.heap.size w w') : Left5 F d w w' S :=
  ⟨Turn.of_below hb, (h.below hb).mono (fun i hi => .inl hi) (more_lt h.lt hb.size)⟩

section
variable {w w3 w4 : World} {F : Nat → Prop} {d pm dm : Nat} {S : St} {val : Nat → Value} (h : DiskAt w F d pm dm S val) (hB : Below w.heap.size w w3)
include h hB
theorem turn_row {x : Nat} (hx : F x) (hs : w3.heap.size ≤ w4.heap.size) (h1 : w4.os = w3.os) (h2 : w4.tape = w3.tape) (h3 : w4.output = w3.output) (hb : ∀ i, i < w3.heap.size → i ≠ x → w4.heap[i]? = w3.heap[i]?) : Turn F w w4 :=
  ⟨h1.trans hB.os, h2.trans hB.tape, h3.trans hB.output, Nat.le_trans hB.size hs, fun i hi hn => (hb i (Nat.lt_of_lt_of_le hi hB.size) (fun e => hn (by rw [e]; exact hx))).trans (hB.block i hi)⟩
theorem create_done {k : List UInt8} (hg : (w3.alloc (.cells #[.int .i64 0, .slice none 0 0] 90)).grownBy w4 (some pm)) (ho : OwnD w4 pm 65 (S.pres.put (.string k) (.lit (.int .u64 (w3.heap.size : Int))))) (hk : look S.pres k = none) (hs : Maps.size S.pres < 64) :
    Left5 F d w w4 (S.create k w3.heap.size) := by
  have hz := alloc_size w3 (.cells #[.int .i64 0, .slice none 0 0] 90)
  have hz2 := hg.size
  have hpm := h.lt pm h.fp
  have hx : ∀ i, i < w3.heap.size → i ≠ pm → w4.heap[i]? = w3.heap[i]? := fun i hi hne => (hg.block i (by omega) (fun e => hne (by injection e))).trans (Below.heap_alloc _ _ _ hi)
  have hs3 := hB.size
  refine ⟨turn_row h hB h.fp (by omega) hg.os hg.tape hg.output hx, _, _, _, mk_create (h.below hB) (F' := more F w w4) (fun i hi => .inl hi) (more_lt h.lt (by omega)) rfl hx ?_ ho (.inr ⟨hs3, by omega⟩) hk hs⟩
  exact (hg.block w3.heap.size (by omega) (fun e => by injection e with e; omega)).trans (heap_alloc_new w3 _)
theorem remove_done {k : List UInt8} (hg : w3.grownBy w4 (some pm)) (ho : OwnD w4 pm 64 (S.pres.del (.string k))) : Left5 F d w w4 (S.remove k) := by
  have hx : ∀ i, i < w3.heap.size → i ≠ pm → w4.heap[i]? = w3.heap[i]? := fun i hi hne => hg.block i hi (fun e => hne (by injection e))
  have hs3 := hB.size
  have hz2 := hg.size
  exact ⟨turn_row h hB h.fp hz2 hg.os hg.tape hg.output hx, _, _, _, mk_remove (h.below hB) (F' := more F w w4) (fun i hi => .inl hi) (more_lt h.lt (by omega)) (fun i hi hne => hx i (by have := h.lt i hi; omega) hne) ho⟩
theorem rename_done {k k' : List UInt8} {f : Nat} (hs : w3.heap.size ≤ w4.heap.size) (h1 : w4.os = w3.os) (h2 : w4.tape = w3.tape) (h3 : w4.output = w3.output) (hb : ∀ i, i < w3.heap.size → i ≠ pm → w4.heap[i]? = w3.heap[i]?)
    (ho : OwnD w4 pm 65 ((S.pres.put (.string k') (.lit (.int .u64 (f : Int)))).del (.string k))) (hk : look S.pres k = some f) (hne : k ≠ k') : Left5 F d w w4 (S.rename k k' f) := by
  have hs3 := hB.size
  exact ⟨turn_row h hB h.fp hs h1 h2 h3 hb, _, _, _, mk_rename (h.below hB) (F' := more F w w4) (fun i hi => .inl hi) (more_lt h.lt (by omega)) (fun i hi hne => hb i (by have := h.lt i hi; omega) hne) ho hk hne⟩
/-- a cell of a file's struct -/
theorem heap_set2 {W : World} {B j : Nat} {x y v : Value} {t : TypeId} (hw : W.heap[B]? = some (.cells #[x, y] t (0, 0))) (hj : j < 2) : (W.setCell ⟨B, j, none⟩ v).heap[B]? = some (.cells (#[x, y].setIfInBounds j v) t (0, 0)) := by
  have hlt := (Array.getElem?_eq_some_iff.1 hw).1
  have hge := (Array.getElem?_eq_some_iff.1 hw).2
  simp only [World.setCell, Array.getElem?_modify, if_pos, hw, Option.map_some, Option.isSome_none, Bool.false_eq_true, if_false]
theorem sync_done {k : List UInt8} {f : Nat} (hf : look S.pres k = some f) (hw : w4 = w3.setCell ⟨f, 0, none⟩ (.int .i64 (S.len f : Int))) : Left5 F d w w4 (S.sync f) := by
  have D3 := h.below hB
  have hl : S.live f := .inl ⟨k, hf⟩
  have H := D3.files f hl
  have hx : ∀ i, i ≠ f → w4.heap[i]? = w3.heap[i]? := fun i hi => by rw [hw]; exact Below.heap_setCell _ _ _ _ hi
  have hsz : w4.heap.size = w3.heap.size := by rw [hw]; simp [World.setCell]
  have hs3 := hB.size
  refine ⟨turn_row h hB (h.files f hl).mem (by omega) (by rw [hw]; rfl) (by rw [hw]; rfl) (by rw [hw]; rfl) (fun i _ hne => hx i hne), _, _, _, mk_file D3 (F' := more F w w4) (fun i hi => .inl hi) (more_lt h.lt (by omega)) hl (c := ⟨(S.file f).bytes, (S.file f).bytes.length⟩) (v' := val f) (fun i _ hne _ => hx i hne) ?_ (fun r hr => .inl hr)⟩
  refine ⟨.inl H.mem, ?_, ?_, fun r hr => .inl (H.row r hr), Nat.le_refl _, H.max⟩
  · rw [hw, heap_set2 h hB H.cells (by decide)]; rfl
  · obtain ⟨a1, a2⟩ := H.own
    refine ⟨a1, ?_⟩
    rcases a2 with a2 | ⟨g, cap, cur, hv, hg, hh, r⟩
    · exact .inl a2
    · refine .inr ⟨g, cap, cur, hv, hg, (hx g (fun e => ?_)).trans hh, r⟩
      rw [e, H.cells] at hh; injection hh with hh; injection hh with h1 h2; exact absurd h2 (by decide)
theorem append_done {k : List UInt8} {f : Nat} {l : List UInt8} {w5 : World} {v' : Value} {n : Nat} (hn : n = S.len f + l.length) (hf : look S.pres k = some f) (ho : w5.ownsRow 0 5 1 v' n ((S.file f).bytes.map bv ++ l.map bv)) (hg : w3.grownBy w5 (val f).ownBlock)
    (hv : v'.ownBlock = (val f).ownBlock ∨ v'.ownBlock = some w3.heap.size) (hw : w4 = w5.setCell ⟨f, 1, none⟩ v') (hm : S.len f + l.length ≤ 1048576) : Left5 F d w w4 (S.append f l) := by
  have D3 := h.below hB
  have hl : S.live f := .inl ⟨k, hf⟩
  have H := D3.files f hl
  have hx : ∀ i, i ≠ f → w4.heap[i]? = w5.heap[i]? := fun i hi => by rw [hw]; exact Below.heap_setCell _ _ _ _ hi
  have hsz : w4.heap.size = w5.heap.size := by rw [hw]; simp [World.setCell]
  have hs3 := hB.size
  have hs5 := hg.size
  have hrf : ∀ r, (val f).ownBlock = some r → r ≠ f := fun r hr e => by
    rcases H.own.2 with ⟨e1, _⟩ | ⟨g, cap, cur, e1, _, hh, _⟩
    · rw [e1] at hr; cases hr
    · rw [e1] at hr; injection hr with hr; have hr : g = r := hr
      rw [hr, e, H.cells] at hh; injection hh with hh; injection hh with h1 h2; exact absurd h2 (by decide)
  have hfr : (val f).ownBlock ≠ some f := fun e => hrf f e rfl
  have hcell5 : w5.heap[f]? = w3.heap[f]? := hg.block f (heap_len H.cells) (fun e => hfr e.symm)
  have hT : Turn F w w4 := ⟨by rw [hw]; exact hg.os.trans hB.os, by rw [hw]; exact hg.tape.trans hB.tape, by rw [hw]; exact hg.output.trans hB.output, by omega, fun i hi hn => by
    rw [hx i (fun e => hn (by rw [e]; exact (h.files f hl).mem)), hg.block i (by omega) (fun e => hn ((h.files f hl).row i e.symm))]
    exact hB.block i hi⟩
  have hvr : ∀ r, v'.ownBlock = some r → (val f).ownBlock = some r ∨ w3.heap.size ≤ r := fun r hr => by
    rcases hv with e | e
    · rw [e] at hr; exact .inl hr
    · rw [e] at hr; injection hr with hr; exact .inr (by omega)
  have hvf : ∀ r, v'.ownBlock = some r → r ≠ f := fun r hr => by
    rcases hvr r hr with e | e
    · exact hrf r e
    · intro e2; have := heap_len H.cells; omega
  have hvlt : ∀ r, v'.ownBlock = some r → r < w5.heap.size := fun r hr => by
    rcases ho.2 with ⟨e1, _⟩ | ⟨g, cap, cur, e1, _, hh, _⟩
    · rw [e1] at hr; cases hr
    · rw [e1] at hr; injection hr with hr; have hr : g = r := hr; rw [← hr]; exact heap_len hh
  refine ⟨hT, _, _, _, mk_file D3 (F' := more F w w4) (fun i hi => .inl hi) (more_lt h.lt (by omega)) hl (c := ⟨(S.file f).bytes ++ l, (S.file f).sure⟩) (v' := v') (fun i hi hne hr => ?_) ?_ hvr⟩
  · rw [hx i hne]; exact hg.block i (by have := h.lt i hi; omega) (fun e => hr i e.symm rfl)
  · have hmax := H.max
    have hlen : (S.file f).bytes.length = S.len f := rfl
    refine ⟨.inl H.mem, ?_, ?_, fun r hr => ?_, ?_, ?_⟩
    · rw [hw, heap_set2 h hB (hcell5.trans H.cells) (by decide)]; rfl
    · have e1 : ((S.file f).bytes ++ l).length = n := by rw [List.length_append, hn]; rfl
      show w4.ownsRow 0 5 1 v' ((S.file f).bytes ++ l).length (((S.file f).bytes ++ l).map bv)
      rw [e1, List.map_append]
      obtain ⟨a1, a2⟩ := ho
      refine ⟨a1, ?_⟩
      rcases a2 with a2 | ⟨g, cap, cur, hv', hg', hh, r⟩
      · exact .inl a2
      · exact .inr ⟨g, cap, cur, hv', hg', (hx g (hvf g (by rw [hv']; rfl))).trans hh, r⟩
    · rcases hvr r hr with e | e
      · exact .inl (H.row r e)
      · exact .inr ⟨by omega, by have := hvlt r hr; omega⟩
    · show (S.file f).sure ≤ ((S.file f).bytes ++ l).length
      rw [List.length_append]; have := H.sure; omega
    · show ((S.file f).bytes ++ l).length ≤ 1048576
      rw [List.length_append]; omega
theorem heap_set3 {W : World} {B j : Nat} {x y z v : Value} {t : TypeId} (hw : W.heap[B]? = some (.cells #[x, y, z] t (0, 0))) : (W.setCell ⟨B, j, none⟩ v).heap[B]? = some (.cells (#[x, y, z].setIfInBounds j v) t (0, 0)) := by
  simp only [World.setCell, Array.getElem?_modify, if_pos, hw, Option.map_some, Option.isSome_none, Bool.false_eq_true, if_false]
theorem names_done {w5 : World} (ho : OwnD w5 w3.heap.size 64 S.pres) (hb : Below w3.heap.size w3 w5) (hw : w4 = w5.setCell ⟨d, 2, none⟩ (.map (some w3.heap.size))) : Left5 F d w w4 S.names := by
  have D3 := h.below hB
  have hx : ∀ i, i ≠ d → w4.heap[i]? = w5.heap[i]? := fun i hi => by rw [hw]; exact Below.heap_setCell _ _ _ _ hi
  have hsz : w4.heap.size = w5.heap.size := by rw [hw]; simp [World.setCell]
  have hs3 := hB.size
  have hs5 := hb.size
  have hd3 := D3.lt d h.fd
  have hm := heap_len (ho.choose_spec.choose_spec.1)
  have hbox5 : w5.heap[d]? = some (.cells #[.int .i64 (S.size : Int), .map (some pm), .map (some dm)] 95 (0, 0)) := (hb.block d hd3).trans D3.box
  have hbx : ∀ i, i < w3.heap.size → i ≠ d → w4.heap[i]? = w3.heap[i]? := fun i hi hne => (hx i hne).trans (hb.block i hi)
  refine ⟨turn_row h hB h.fd (by omega) (by rw [hw]; exact hb.os) (by rw [hw]; exact hb.tape) (by rw [hw]; exact hb.output) hbx, _, _, _, mk_names D3 (F' := more F w w4) (fun i hi => .inl hi) (more_lt h.lt (by omega)) (fun i hi hne => hbx i (by have := h.lt i hi; omega) hne) (dm' := w3.heap.size) ?_ (ho.at_ (hx _ (by omega))) (.inr ⟨hs3, by omega⟩) (by have := D3.lt pm h.fp; omega)⟩
  rw [hw, heap_set3 h hB hbox5]; rfl
end
end Go.Proofs.Ytopcnlophmplgaa
