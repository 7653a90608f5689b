/-
  A directory of package files: a map from names to files, read as names and numbers of blocks.
  A disk of package files in memory: 'DiskAt w F d S': the disk whose struct lies in block d is the disk S, and all that belongs to it lies in blocks of F.
  What becomes of a disk, where its memory turns: a name put or dropped, a file appended to or made durable, the directory made durable.
-/
import Derived.Test.YtbpdonnneleeeaaGreatDoorChkZ
import Derived.Test.YtbpdonnneleeeaaGreatDoorMemZ
import Derived.Maps.OwnSet
import Derived.Maps.Ext
import Derived.Maps.RangeWalk
import Derived.Maps.OwnOps
namespace Go.Proofs.YtbpdonnneleeeaaGreatDoor
open Go.RowKit Go.Maps
open Go.WideMaps (keyOf_string_mk)
open Go.WideShapes (insert_perm)
set_option maxRecDepth 100000
set_option linter.unusedVariables false

abbrev Dir := DataW Unit
/-- how a pointer to a file reads: as its block's number -/
def pE : Value → Option (DataW Unit × List MemPlace)
  | .pointer none => some (.nil, [])
  | .pointer (some ⟨b, 0, none⟩) => some (.lit (.int .u64 (b : Int)), [])
  | _ => none
def ptrOf : Option Nat → Value
  | none => .pointer none
  | some b => .pointer (some ⟨b, 0, none⟩)
def blk : DataW Unit → Option Nat
  | .lit (.int .u64 b) => some b.toNat
  | _ => none
/-- the block that a name leads to -/
def look (D : Dir) (k : List UInt8) : Option Nat := blk (D.atKey (.string k) .nil)
theorem pE_blk {v : Value} {d : DataW Unit} {ps : List MemPlace} (h : pE v = some (d, ps)) : v = ptrOf (blk d) := by
  unfold pE at h
  split at h
  · injection h with h; injection h with h1 h2; subst h1; rfl
  · injection h with h; injection h with h1 h2; subst h1
    simp [blk, ptrOf]
  · cases h
theorem pE_some (b : Nat) : pE (.pointer (some ⟨b, 0, none⟩)) = some (.lit (.int .u64 (b : Int)), []) := rfl
theorem keyLaw : Keyed Tryz.prog 9 := string_keyed Tryz.underlying9
theorem zeroP (w : World) : (zeroValue 94).run Tryz.prog w = .ok (.pointer none) w := by kernel_rfl
theorem keyOf_s {s : ByteArray} (hs : s.size ≤ 140737488355328) : keyOf Tryz.prog 9 (.string s) = some (.string s.data.toList) := keyOf_string_mk Tryz.underlying9 (by unfold maxLen; omega)

/-- block b holds the directory D, of n names at most -/
abbrev OwnD (w : World) (b n : Nat) (D : Dir) : Prop := w.ownsMap Tryz.prog 9 pE b n D

theorem OwnD.at_ {w w' : World} {b n : Nat} {D : Dir} (h : OwnD w b n D) (hb : w'.heap[b]? = w.heap[b]?) : OwnD w' b n D := by
  obtain ⟨es, clock, h1, h2, h3, h4⟩ := h
  exact ⟨es, clock, hb.trans h1, h2, h3, h4⟩
theorem OwnD.size_le {w : World} {b n : Nat} {D : Dir} (h : OwnD w b n D) : Maps.size D ≤ n := World.ownsMap.size_le h
theorem OwnD.less {w : World} {b n m : Nat} {D : Dir} (h : OwnD w b n D) (hm : Maps.size D ≤ m) : OwnD w b m D := by
  obtain ⟨es, clock, h1, h2, h3, rfl⟩ := h
  refine ⟨es, clock, h1, h2, ?_, rfl⟩
  rw [Maps.size_eq, length_read] at hm
  exact hm
theorem OwnD.lookup1 {w : World} {b n : Nat} {D : Dir} (h : OwnD w b n D) {s : ByteArray} (hs : s.size ≤ 140737488355328) :
    (Instr.lookup 83 (.map (some b)) (.string s) false).run Tryz.prog w = .ok (ptrOf (look D s.data.toList)) w := by
  obtain ⟨v, ps, hrun, hv⟩ := h.lookup keyLaw Tryz.underlying83 (zeroP w) (zd := .nil) (zp := []) rfl (keyOf_s hs)
  rw [hrun, pE_blk hv]
  rfl
theorem OwnD.looks {w : World} {b n : Nat} {D : Dir} (h : OwnD w b n D) {s : ByteArray} (hs : s.size ≤ 140737488355328) (q : Nat) :
    (Instr.lookup 83 (.map (some b)) (.string s) false).run Tryz.prog (w.drewN q) = .ok (ptrOf (look D s.data.toList)) (w.drewN q) :=
  OwnD.lookup1 (w := w.drewN q) (b := b) (n := n) (D := D) (OwnD.at_ (w := w) h rfl) hs

/-! the pure laws -/
theorem isKey (k : List UInt8) : WideAt.IsKeyLit (.string k) := by trivial
theorem look_put (D : Dir) (hD : IsMap D) (k k' : List UInt8) (b : Nat) : look (D.put (.string k) (.lit (.int .u64 (b : Int)))) k' = if k' = k then some b else look D k' := by
  unfold look
  by_cases h : k' = k
  · subst h
    rw [atKey_put_same hD (isKey _), if_pos rfl]
    rfl
  · rw [atKey_put_other (fun e => h (by injection e)), if_neg h]
theorem look_del (D : Dir) (k k' : List UInt8) : look (D.del (.string k)) k' = if k' = k then none else look D k' := by
  unfold look
  by_cases h : k' = k
  · subst h
    rw [atKey_del_same, if_pos rfl]; rfl
  · rw [atKey_del_other (fun e => h (by injection e)), if_neg h]
theorem look_none (k : List UInt8) : look (.map []) k = none := rfl

def ents : Dir → List (Lit × DataW Unit)
  | .map es => es
  | _ => []
/-- what an entry's file counts for -/
def valE (g : Nat → Nat) (d : DataW Unit) : Nat := ((blk d).map g).getD 0
def tot (D : Dir) (g : Nat → Nat) : Nat := ((ents D).map fun e => valE g e.2).sum
/-- the entries that have come -/
def part (D : Dir) (left : Lit → Bool) (g : Nat → Nat) : Nat := (((ents D).filter fun e => !left e.1).map fun e => valE g e.2).sum

theorem part_start (D : Dir) (hD : Tidy D) (hk : ∀ e ∈ ents D, WideAt.IsKeyLit e.1) (g : Nat → Nat) : part D (Maps.has D) g = 0 := by
  obtain ⟨es, rfl, hp⟩ := hD
  unfold part ents
  rw [List.filter_eq_nil_iff.2]
  · rfl
  · intro e he
    rw [has_eq]
    have : (es.any fun p => p.1.sameKey e.1) = true := List.any_eq_true.2 ⟨e, he, WideAt.sameKey_self (hk e he)⟩
    simp [this]
theorem part_end (D : Dir) (left : Lit → Bool) (g : Nat → Nat) (h : ∀ k, left k = false) : part D left g = tot D g := by
  unfold part tot
  rw [List.filter_eq_self.2 (fun e _ => by simp [h])]
theorem part_list (f : Lit × DataW Unit → Nat) (left : Lit → Bool) (kl : Lit) (hkl : WideAt.IsKeyLit kl) (hl : left kl = true) (p : Lit × DataW Unit) (hp1 : p.1 = kl) :
    ∀ es : List (Lit × DataW Unit), es.Pairwise (fun p q => p.1 ≠ q.1) → p ∈ es →
      ((es.filter fun e => !(left e.1 && !e.1.sameKey kl)).map f).sum = ((es.filter fun e => !left e.1).map f).sum + f p
  | [], _, h => by cases h
  | a :: r, hp, h => by
    rw [List.pairwise_cons] at hp
    by_cases ha : a.1 = kl
    · have hap : a = p := by
        rcases List.mem_cons.1 h with h | h
        · exact h.symm
        · exact absurd (ha.trans hp1.symm) (hp.1 p h)
      subst hap
      have h1 : (!(left a.1 && !a.1.sameKey kl)) = true := by rw [ha, WideAt.sameKey_self hkl]; simp
      have h2 : (!left a.1) = false := by rw [ha, hl]; rfl
      simp only [List.filter_cons, h1, h2, if_true, Bool.false_eq_true, if_false]
      have h3 : (r.filter fun e => !(left e.1 && !e.1.sameKey kl)) = r.filter fun e => !left e.1 := by
        refine List.filter_congr fun e he => ?_
        rw [sameKey_ne (fun hh => hp.1 e he (ha.trans hh.symm))]
        simp
      rw [h3, List.map_cons, List.sum_cons]
      omega
    · have hr : p ∈ r := by
        rcases List.mem_cons.1 h with h | h
        · exact absurd (by rw [← h]; exact hp1) ha
        · exact h
      have ih := part_list f left kl hkl hl p hp1 r hp.2 hr
      have h3 : a.1.sameKey kl = false := sameKey_ne ha
      cases hla : left a.1
      · simp only [List.filter_cons, hla, Bool.false_and, Bool.not_false, if_true, List.map_cons, List.sum_cons, ih]
        omega
      · simp only [List.filter_cons, hla, h3, Bool.not_false, Bool.and_true, Bool.not_true, Bool.false_eq_true, if_false, ih]
theorem mem_at {es : List (Lit × DataW Unit)} {kl : Lit} {y : DataW Unit} (h : ∀ zd, (DataW.map es).atKey kl zd = y) : ∃ p ∈ es, p.1 = kl ∧ p.2 = y := by
  have h0 := h .nil
  have h1 := h (.lit (.bool true))
  simp only [DataW.atKey] at h0 h1
  cases hf : es.find? (fun p => p.1.sameKey kl) with
  | none => rw [hf] at h0 h1; simp only at h0 h1; rw [← h0] at h1; cases h1
  | some p =>
    rw [hf] at h0
    exact ⟨p, List.mem_of_find?_eq_some hf, WideAt.sameKey_eq (List.find?_some (p := fun p : Lit × DataW Unit => p.1.sameKey kl) hf), h0⟩
theorem part_step (D : Dir) (hD : Tidy D) (left : Lit → Bool) (kl : Lit) (y : DataW Unit) (hkl : WideAt.IsKeyLit kl) (hl : left kl = true) (hat : ∀ zd, D.atKey kl zd = y) (g : Nat → Nat) :
    part D (fun x => left x && !x.sameKey kl) g = part D left g + valE g y := by
  obtain ⟨es, rfl, hp⟩ := hD
  obtain ⟨p, hpm, hp1, rfl⟩ := mem_at hat
  exact part_list (fun e => valE g e.2) left kl hkl hl p hp1 es hp hpm

theorem tot_del_list (f : Lit × DataW Unit → Nat) (kl : Lit) (hkl : WideAt.IsKeyLit kl) (p : Lit × DataW Unit) (hp1 : p.1 = kl) (es : List (Lit × DataW Unit)) (hp : es.Pairwise (fun p q => p.1 ≠ q.1)) (h : p ∈ es) :
    ((es.filter fun e => !e.1.sameKey kl).map f).sum + f p = (es.map f).sum := by
  have h1 := part_list f (fun x => x.sameKey kl) kl hkl (WideAt.sameKey_self hkl) p hp1 es hp h
  rw [← h1, List.filter_eq_self.2 (fun e _ => by simp)]
theorem tot_del (D : Dir) (hD : Tidy D) (k : List UInt8) (b : Nat) (g : Nat → Nat) (h : look D k = some b) : tot (D.del (.string k)) g + g b = tot D g := by
  obtain ⟨es, rfl, hp⟩ := hD
  have hy : ∃ p ∈ es, p.1 = .string k ∧ blk p.2 = some b := by
    unfold look at h
    simp only [DataW.atKey] at h
    cases hf : es.find? (fun p => p.1.sameKey (.string k)) with
    | none => rw [hf] at h; cases h
    | some p =>
      rw [hf] at h
      exact ⟨p, List.mem_of_find?_eq_some hf, WideAt.sameKey_eq (List.find?_some (p := fun p : Lit × DataW Unit => p.1.sameKey (.string k)) hf), h⟩
  obtain ⟨p, hpm, hp1, hpb⟩ := hy
  have := tot_del_list (fun e => valE g e.2) (.string k) (isKey k) p hp1 es hp hpm
  have hv : valE g p.2 = g b := by unfold valE; rw [hpb]; rfl
  rw [hv] at this
  exact this
theorem insert_sum (f : Lit × DataW Unit → Nat) (x : Lit × DataW Unit) (l : List (Lit × DataW Unit)) : ((DataW.insert x l).map f).sum = f x + (l.map f).sum := by
  have := ((insert_perm x l).map f).sum_nat
  rw [this, List.map_cons, List.sum_cons]
theorem tot_put (D : Dir) (hD : Tidy D) (k : List UInt8) (b : Nat) (g : Nat → Nat) : tot (D.put (.string k) (.lit (.int .u64 (b : Int)))) g = g b + tot (D.del (.string k)) g := by
  obtain ⟨es, rfl, hp⟩ := hD
  have h := insert_sum (fun e => valE g e.2) (.string k, .lit (.int .u64 (b : Int))) (es.filter fun p => !p.1.sameKey (.string k))
  exact h
theorem has_look {D : Dir} {k : List UInt8} {b : Nat} (h : look D k = some b) : Maps.has D (.string k) = true := by
  cases hh : Maps.has D (.string k) with
  | true => rfl
  | false => unfold look at h; rw [atKey_of_not_has hh] at h; cases h
theorem del_absent {D : Dir} {k : List UInt8} (h : Maps.has D (.string k) = false) : D.del (.string k) = D := del_of_not_has h
theorem tot_congr (D : Dir) (g g' : Nat → Nat) (h : ∀ e ∈ ents D, ∀ b, blk e.2 = some b → g b = g' b) : tot D g = tot D g' := by
  unfold tot
  congr 1
  refine List.map_congr_left fun e he => ?_
  unfold valE
  cases hb : blk e.2 with
  | none => rfl
  | some b => exact h e he b hb
end Go.Proofs.YtbpdonnneleeeaaGreatDoor

namespace Go.Proofs.YtbpdonnneleeeaaGreatDoor
open Go.RowKit Go.Maps
set_option maxRecDepth 100000
set_option linter.unusedVariables false

structure FileC where
  bytes : List UInt8
  sure : Nat
structure St where
  size : Nat
  pres : Dir
  dur : Dir
  file : Nat → FileC
def St.live (S : St) (f : Nat) : Prop := (∃ k, look S.pres k = some f) ∨ ∃ k, look S.dur k = some f
def St.len (S : St) (f : Nat) : Nat := (S.file f).bytes.length
/-- free space -/
def St.left (S : St) : Nat := S.size - tot S.pres S.len

/-- names and files, and nothing else -/
def DirOK (D : Dir) : Prop := ∀ e ∈ ents D, ∃ (k : List UInt8) (b : Nat), e.1 = .string k ∧ e.2 = .lit (.int .u64 (b : Int))

structure FileAt (w : World) (F : Nat → Prop) (f : Nat) (c : FileC) (v : Value) : Prop where
  mem : F f
  cells : w.heap[f]? = some (.cells #[.int .i64 (c.sure : Int), v] 98 (0, 0))
  own : w.ownsRow 0 5 1 v c.bytes.length (c.bytes.map bv)
  row : ∀ r, v.ownBlock = some r → F r
  sure : c.sure ≤ c.bytes.length
  max : c.bytes.length ≤ 1048576

structure DiskAt (w : World) (F : Nat → Prop) (d pm dm : Nat) (S : St) (val : Nat → Value) : Prop where
  box : w.heap[d]? = some (.cells #[.int .i64 (S.size : Int), .map (some pm), .map (some dm)] 85 (0, 0))
  fd : F d
  fp : F pm
  fm : F dm
  ne : pm ≠ dm
  pres : OwnD w pm 64 S.pres
  dur : OwnD w dm 64 S.dur
  presOK : DirOK S.pres
  durOK : DirOK S.dur
  files : ∀ f, S.live f → FileAt w F f (S.file f) (val f)
  apart : ∀ f g, S.live f → S.live g → f ≠ g → ∀ r, (val f).ownBlock = some r → (val g).ownBlock ≠ some r
  inj : ∀ k k' f, look S.pres k = some f → look S.pres k' = some f → k = k'
  lo : 1 ≤ S.size
  hi : S.size ≤ 8388608
  lt : ∀ i, F i → i < w.heap.size

theorem FileAt.keep {w w' : World} {F : Nat → Prop} {f : Nat} {c : FileC} {v : Value} (h : FileAt w F f c v) (hs : ∀ i, F i → w'.heap[i]? = w.heap[i]?) : FileAt w' F f c v := by
  refine ⟨h.mem, (hs f h.mem).trans h.cells, ?_, h.row, h.sure, h.max⟩
  obtain ⟨h1, h2⟩ := h.own
  refine ⟨h1, ?_⟩
  rcases h2 with h2 | ⟨g, cap, cur, rfl, hg, hh, r⟩
  · exact .inl h2
  · exact .inr ⟨g, cap, cur, rfl, hg, (hs g (h.row g rfl)).trans hh, r⟩
theorem DiskAt.keep {w w' : World} {F : Nat → Prop} {d pm dm : Nat} {S : St} {val : Nat → Value} (h : DiskAt w F d pm dm S val) (hs : ∀ i, F i → w'.heap[i]? = w.heap[i]?) (hz : w.heap.size ≤ w'.heap.size) : DiskAt w' F d pm dm S val :=
  ⟨(hs d h.fd).trans h.box, h.fd, h.fp, h.fm, h.ne, h.pres.at_ (hs pm h.fp), h.dur.at_ (hs dm h.fm), h.presOK, h.durOK, fun f hf => (h.files f hf).keep hs, h.apart, h.inj, h.lo, h.hi, fun i hi => Nat.lt_of_lt_of_le (h.lt i hi) hz⟩
theorem DiskAt.below {w w' : World} {F : Nat → Prop} {d pm dm : Nat} {S : St} {val : Nat → Value} (h : DiskAt w F d pm dm S val) (hb : Below w.heap.size w w') : DiskAt w' F d pm dm S val :=
  h.keep (fun i hi => hb.block i (h.lt i hi)) hb.size
theorem heap_drewN (w : World) (q : Nat) : (w.drewN q).heap = w.heap := rfl

section
variable {w : World} {F : Nat → Prop} {d pm dm : Nat} {S : St} {val : Nat → Value} (h : DiskAt w F d pm dm S val)
include h
theorem DiskAt.c0 : w.cell? ⟨d, 0, none⟩ = some (.int .i64 (S.size : Int)) := by rw [cell_of_row w d 0 _ _ (0, 0) h.box]; rfl
theorem DiskAt.c1 : w.cell? ⟨d, 1, none⟩ = some (.map (some pm)) := by rw [cell_of_row w d 1 _ _ (0, 0) h.box]; rfl
theorem DiskAt.c2 : w.cell? ⟨d, 2, none⟩ = some (.map (some dm)) := by rw [cell_of_row w d 2 _ _ (0, 0) h.box]; rfl
theorem DiskAt.tidy : Tidy S.pres := h.pres.tidy keyLaw
end
theorem FileAt.f0 {w : World} {F : Nat → Prop} {f : Nat} {c : FileC} {v : Value} (h : FileAt w F f c v) : w.cell? ⟨f, 0, none⟩ = some (.int .i64 (c.sure : Int)) := by rw [cell_of_row w f 0 _ _ (0, 0) h.cells]; rfl
theorem FileAt.f1 {w : World} {F : Nat → Prop} {f : Nat} {c : FileC} {v : Value} (h : FileAt w F f c v) : w.cell? ⟨f, 1, none⟩ = some v := by rw [cell_of_row w f 1 _ _ (0, 0) h.cells]; rfl

/-- the error of a name that leads to nothing; of one that leads to something -/
def noneErr (o : Option Nat) : Int := if o.isSome then 0 else 7
def thereErr (o : Option Nat) : Int := if o.isSome then 8 else 0
def fullErr (D : Dir) : Int := if Maps.size D < 64 then 0 else 6

theorem below_q (w : World) (q : Nat) : Below w.heap.size w (w.drewN q) := ⟨rfl, rfl, rfl, Nat.le_refl _, fun _ _ => rfl⟩

set_option maxHeartbeats 1000000 in
theorem leadsF_any (a b d pm : Nat) (s : ByteArray) (w : World) (lk : Option Nat) (ka : w.cell? ⟨a, 0, none⟩ = some (.pointer (some ⟨d, 0, none⟩))) (kb : w.cell? ⟨b, 0, none⟩ = some (.string s)) (hc : w.cell? ⟨d, 1, none⟩ = some (.map (some pm)))
    (hlk : ∀ q, (Instr.lookup 83 (.map (some pm)) (.string s) false).run Tryz.prog (w.drewN q) = .ok (ptrOf lk) (w.drewN q)) :
    Calls Tryz.prog 112 #[.pointer (some ⟨a, 0, none⟩), .pointer (some ⟨b, 0, none⟩)] w fun x w' => x = .returned (er (noneErr lk)) ∧ Below w.heap.size w w' := by
  cases lk with
  | none =>
    simp only [ptrOf] at hlk
    go_enter Tryz.func112, Tryz.ntmps112
    go_wp2
    go_quiet ((go_at_call 108; exact Calls.quiet_of_same (unless_any _ _ _)))
    go_wp2
    go_ret
    exact ⟨rfl, below_q _ _⟩
  | some f =>
    simp only [ptrOf] at hlk
    go_enter Tryz.func112, Tryz.ntmps112
    go_wp2
    go_quiet ((go_at_call 108; exact Calls.quiet_of_same (unless_any _ _ _)))
    go_wp2
    go_ret
    exact ⟨rfl, below_q _ _⟩

set_option maxHeartbeats 1000000 in
theorem isFreeF_any (a b d pm : Nat) (s : ByteArray) (w : World) (lk : Option Nat) (ka : w.cell? ⟨a, 0, none⟩ = some (.pointer (some ⟨d, 0, none⟩))) (kb : w.cell? ⟨b, 0, none⟩ = some (.string s)) (hc : w.cell? ⟨d, 1, none⟩ = some (.map (some pm)))
    (hlk : ∀ q, (Instr.lookup 83 (.map (some pm)) (.string s) false).run Tryz.prog (w.drewN q) = .ok (ptrOf lk) (w.drewN q)) :
    Calls Tryz.prog 111 #[.pointer (some ⟨a, 0, none⟩), .pointer (some ⟨b, 0, none⟩)] w fun x w' => x = .returned (er (thereErr lk)) ∧ Below w.heap.size w w' := by
  cases lk with
  | none =>
    simp only [ptrOf] at hlk
    go_enter Tryz.func111, Tryz.ntmps111
    go_wp2
    go_quiet ((go_at_call 108; exact Calls.quiet_of_same (unless_any _ _ _)))
    go_wp2
    go_ret
    exact ⟨rfl, below_q _ _⟩
  | some f =>
    simp only [ptrOf] at hlk
    go_enter Tryz.func111, Tryz.ntmps111
    go_wp2
    go_quiet ((go_at_call 108; exact Calls.quiet_of_same (unless_any _ _ _)))
    go_wp2
    go_ret
    exact ⟨rfl, below_q _ _⟩

set_option maxHeartbeats 1000000 in
theorem hasFree_ok {w : World} {F : Nat → Prop} {d pm dm : Nat} {S : St} {val : Nat → Value} (h : DiskAt w F d pm dm S val) :
    Calls Tryz.prog 48 #[.pointer (some ⟨d, 0, none⟩)] w fun x w' => x = .returned (er (fullErr S.pres)) ∧ w' = w := by
  have hc := h.c1
  have hlen := World.ownsMap.len h.pres Tryz.underlying83
  obtain ⟨n, hn⟩ : ∃ n, Maps.size S.pres = n := ⟨_, rfl⟩
  rw [hn] at hlen
  by_cases hlt : n < 64
  · have HF : Hid (fullErr S.pres = 0) := by unfold Hid fullErr; rw [hn, if_pos hlt]
    clear hn h
    go_enter Tryz.func48, Tryz.ntmps48
    go_wp2_with (go_at_call 108; refine (unless_any _ _ _).mono ?_; rintro x w' ⟨rfl, rfl⟩)
    go_ret
    exact ⟨by rw [HF.out]; rfl, rfl⟩
  · have HF : Hid (fullErr S.pres = 6) := by unfold Hid fullErr; rw [hn, if_neg hlt]
    clear hn h
    go_enter Tryz.func48, Tryz.ntmps48
    go_wp2_with (go_at_call 108; refine (unless_any _ _ _).mono ?_; rintro x w' ⟨rfl, rfl⟩)
    go_ret
    exact ⟨by rw [HF.out]; rfl, rfl⟩

/-- the sum of lengths that have come -/
def LRel (w : World) (F : Nat → Prop) (d pm dm : Nat) (S : St) (val : Nat → Value) (t : Value) (wr : World) : Prop :=
  ∃ left cnt, wr.ranges Tryz.prog 9 pE pm w.heap.size 64 S.pres left cnt ∧ t = .int .i64 ((S.size : Int) - (part S.pres left S.len : Int)) ∧ part S.pres left S.len + cnt * 1048576 ≤ 67108864 ∧ Below w.heap.size w wr

theorem ent_of_at {D : Dir} (hD : DirOK D) {kl : Lit} {y : DataW Unit} (h : ∀ zd, D.atKey kl zd = y) : ∃ (k : List UInt8) (b : Nat), kl = .string k ∧ y = .lit (.int .u64 (b : Int)) ∧ look D k = some b := by
  have h0 := h .nil
  cases D with
  | map es =>
    obtain ⟨p, hp, rfl, rfl⟩ := mem_at h
    obtain ⟨k, b, h1, h2⟩ := hD p hp
    refine ⟨k, b, h1, h2, ?_⟩
    unfold look
    rw [← h1, h, h2]
    rfl
  | _ => rw [← h (.lit (.bool true))] at h0; exact absurd h0 (by simp [DataW.atKey])
theorem keys_ok {D : Dir} (hD : DirOK D) : ∀ e ∈ ents D, WideAt.IsKeyLit e.1 := fun e he => by
  obtain ⟨k, b, h1, _⟩ := hD e he
  rw [h1]; trivial

theorem sub_sub_nat (a b c : Nat) : (a : Int) - (b : Int) - (c : Int) = (a : Int) - ((b + c : Nat) : Int) := by omega
theorem ptrOf_inj {a b : Option Nat} (h : ptrOf a = ptrOf b) : a = b := by
  cases a <;> cases b <;> simp [ptrOf] at h ⊢
  exact h

set_option maxHeartbeats 2000000 in
theorem left_ok {w : World} {F : Nat → Prop} {d pm dm : Nat} {S : St} {val : Nat → Value} (h : DiskAt w F d pm dm S val) :
    Calls Tryz.prog 30 #[.pointer (some ⟨d, 0, none⟩)] w fun x w' => x = .returned (.int .i64 (S.left : Int)) ∧ Below w.heap.size w w' := by
  have hc := h.c1
  have hc0 := h.c0
  have H := Lib.hid h
  clear h
  go_enter Tryz.func30, Tryz.ntmps30
  go_wp2_with (first
    | (go_at_call 44; refine (exists_ok _ _ _ hc).mono ?_; rintro x w' ⟨rfl, rfl⟩)
    | (at_range; refine wpList_range_own _ rfl _ 83 rfl 9 94 keyLaw Tryz.underlying83 pE pm 64 S.pres rfl H.out.pres ?_; intro w0 hrg0 hg0 hs0))
  go_frame
  have R1 : LRel w' F d pm dm S val (.int .i64 (S.size : Int)) w0 := ⟨_, _, hrg0, by rw [part_start _ H.out.tidy (keys_ok H.out.presOK)]; simp, by rw [part_start _ H.out.tidy (keys_ok H.out.presOK)]; have := OwnD.size_le H.out.pres; omega, ⟨hg0.os, hg0.tape, hg0.output, hg0.size, fun i hi => hg0.block i hi (by simp)⟩⟩
  clear hrg0 hg0 hs0 hc hc0
  have R0 := Lib.hid R1
  clear R1
  go_loopw [3] (fun t wr => LRel w' F d pm dm S val t wr) (fun _ wr => wr.rangeLeft pm w'.heap.size)
  case atStart => exact R0.out
  case round =>
    clear R0
    obtain ⟨left, cnt, hrg, rfl, hbd, hb⟩ := hrel
    have HB := Lib.hid hb; have HBD := Lib.hid hbd
    clear hb
    go_wp2_with (at_next; refine wpList_next_ranges _ rfl _ rfl 9 keyLaw pE id ptrOf (fun key kl hk => ⟨key, rfl⟩) (fun v y hv => ⟨blk y.1, pE_blk hv⟩) pm w'.heap.size 64 _ _ _ rfl hrg ?_ ?_)
    · intro hc0 hl0
      have HL : Hid (S.left = S.size - part S.pres left S.len) := by rw [part_end _ _ _ hl0]; rfl
      have hpl : part S.pres left S.len ≤ 67108864 := by omega
      generalize part S.pres left S.len = pp at *
      by_cases hle : pp ≤ S.size
      · have hi := H.out.hi
        generalize S.size = sz at *
        go_wp2
        go_ret
        exact ⟨by rw [HL.out, show ((sz - pp : Nat) : Int) = (sz : Int) - (pp : Int) by omega]; rfl, HB.out⟩
      · have hi := H.out.hi
        generalize S.size = sz at *
        have hneg : (sz : Int) - (pp : Int) < 0 := by omega
        go_wp2
        go_ret
        exact ⟨by rw [HL.out, show sz - pp = 0 by omega]; rfl, HB.out⟩
    · intro x c kl yd yp w1 cnt1 hkey hlx hvy hat hrg1 hlt hg1 hs1 hen
      obtain ⟨k, b, rfl, hy, hlk⟩ := ent_of_at H.out.presOK hat
      have hcb : c = some b := by
        have := pE_blk hvy
        rw [hy] at this
        have hbk : blk (.lit (.int .u64 (b : Int)) : DataW Unit) = some b := rfl
        rw [hbk] at this
        exact ptrOf_inj this
      subst hcb
      have hB1 : Below w'.heap.size w' w1 := HB.out.grown hg1 HB.out.size (fun r e => by injection e with e; omega)
      have hF := (H.out.files b (.inl ⟨k, hlk⟩)).keep (fun i hi => hB1.block i (H.out.lt i hi))
      have hc1 := hF.f1
      obtain ⟨A, cp, hv, hnc, hcm, _⟩ := own_shape hF.own
      rw [hv] at hc1
      have hps := part_step S.pres H.out.tidy left (.string k) yd trivial hlx hat S.len
      rw [hy] at hps
      have hvl : valE S.len (.lit (.int .u64 (b : Int))) = S.len b := rfl
      rw [hvl] at hps
      have hmx : S.len b ≤ 1048576 := hF.max
      have hlen : (S.file b).bytes.length = S.len b := rfl
      rw [hlen] at hc1
      have hsz := H.out.hi
      have hbd2 : part S.pres left S.len ≤ 67108864 := by omega
      have HR : Hid (LRel w' F d pm dm S val (.int .i64 ((S.size : Int) - (part S.pres left S.len : Int) - (S.len b : Int))) w1) :=
        ⟨_, cnt1, hrg1, by rw [hps, ← sub_sub_nat], by rw [hps]; omega, hB1⟩
      have hme : w1.rangeLeft pm w'.heap.size < wr.rangeLeft pm w'.heap.size := by rw [hrg1.left_eq, hrg.left_eq]; exact hlt
      have HM := Lib.hid hme
      clear hps hvl hF hB1 hat hkey hvy hlx hlk hg1 hs1 hrg hrg1 hv hme hbd HBD hnc hcm
      generalize part S.pres left S.len = pp at *
      generalize S.len b = lb at *
      simp only [ptrOf] at hen ⊢
      go_wp2
      exact ⟨HR.out, HM.out⟩
end Go.Proofs.YtbpdonnneleeeaaGreatDoor

namespace Go.Proofs.YtbpdonnneleeeaaGreatDoor
open Go.RowKit Go.Maps
open Go.WideShapes (insert_perm)
set_option maxRecDepth 100000
set_option linter.unusedVariables false
set_option linter.unusedSectionVars false

def upd {α : Type} (g : Nat → α) (b : Nat) (x : α) : Nat → α := fun i => if i = b then x else g i
theorem upd_same {α : Type} (g : Nat → α) (b : Nat) (x : α) : upd g b x b = x := if_pos rfl
theorem upd_other {α : Type} (g : Nat → α) {b i : Nat} (x : α) (h : i ≠ b) : upd g b x i = g i := if_neg h

def St.create (S : St) (k : List UInt8) (b : Nat) : St := { S with pres := S.pres.put (.string k) (.lit (.int .u64 (b : Int))), file := upd S.file b ⟨[], 0⟩ }
def St.remove (S : St) (k : List UInt8) : St := { S with pres := S.pres.del (.string k) }
def St.rename (S : St) (k k' : List UInt8) (f : Nat) : St := { S with pres := (S.pres.put (.string k') (.lit (.int .u64 (f : Int)))).del (.string k) }
def St.append (S : St) (f : Nat) (l : List UInt8) : St := { S with file := upd S.file f ⟨(S.file f).bytes ++ l, (S.file f).sure⟩ }
def St.sync (S : St) (f : Nat) : St := { S with file := upd S.file f ⟨(S.file f).bytes, (S.file f).bytes.length⟩ }
def St.names (S : St) : St := { S with dur := S.pres }

/-- what a call on a disk may write: its own memory, and new memory -/
structure Turn (F : Nat → Prop) (w w' : World) : Prop where
  os : w'.os = w.os
  tape : w'.tape = w.tape
  output : w'.output = w.output
  size : w.heap.size ≤ w'.heap.size
  block : ∀ i, i < w.heap.size → ¬ F i → w'.heap[i]? = w.heap[i]?
/-- F, and what was made since w -/
def more (F : Nat → Prop) (w w' : World) (i : Nat) : Prop := F i ∨ (w.heap.size ≤ i ∧ i < w'.heap.size)

theorem dirOK_put {D : Dir} (h : DirOK D) (k : List UInt8) (b : Nat) : DirOK (D.put (.string k) (.lit (.int .u64 (b : Int)))) := by
  cases D with
  | map es =>
    intro e he
    have he' : e ∈ DataW.insert ((Lit.string k), (DataW.lit (.int .u64 (b : Int)) : DataW Unit)) (es.filter fun p => !p.1.sameKey (.string k)) := he
    rcases List.mem_cons.1 ((insert_perm _ _).mem_iff.1 he') with rfl | h2
    · exact ⟨k, b, rfl, rfl⟩
    · exact h e (List.mem_filter.1 h2).1
  | _ => exact h
theorem dirOK_del {D : Dir} (h : DirOK D) (k : List UInt8) : DirOK (D.del (.string k)) := by
  cases D with
  | map es => exact fun e he => h e (List.mem_filter.1 he).1
  | _ => exact h
theorem look_lt {w : World} {F : Nat → Prop} {d pm dm : Nat} {S : St} {val : Nat → Value} (h : DiskAt w F d pm dm S val) {f : Nat} (hf : S.live f) : f < w.heap.size := h.lt f (h.files f hf).mem
theorem heap_len {w : World} {i : Nat} {o : Obj} (h : w.heap[i]? = some o) : i < w.heap.size := (Array.getElem?_eq_some_iff.1 h).1
theorem size_put_le {D : Dir} (h : Tidy D) (k : List UInt8) (b : Nat) : Maps.size (D.put (.string k) (.lit (.int .u64 (b : Int)))) ≤ Maps.size D + 1 := by
  rw [size_put h]; split <;> omega

section
variable {w w' : World} {F F' : Nat → Prop} {d pm dm : Nat} {S : St} {val : Nat → Value} (h : DiskAt w F d pm dm S val) (hF : ∀ i, F i → F' i) (hlt : ∀ i, F' i → i < w'.heap.size)
include h hF hlt

/-- the blocks of a file that no one writes -/
theorem file_on {f : Nat} (hf : S.live f) {x : Nat} (hx : ∀ i, F i → i ≠ x → w'.heap[i]? = w.heap[i]?) (h1 : f ≠ x) (h2 : ∀ r, (val f).ownBlock = some r → r ≠ x) : FileAt w' F' f (S.file f) (val f) := by
  have H := h.files f hf
  refine ⟨hF _ H.mem, (hx f H.mem h1).trans H.cells, ?_, fun r hr => hF r (H.row r hr), H.sure, H.max⟩
  obtain ⟨a1, a2⟩ := H.own
  refine ⟨a1, ?_⟩
  rcases a2 with a2 | ⟨g, cap, cur, hv, hg, hh, r⟩
  · exact .inl a2
  · have hr : (val f).ownBlock = some g := by rw [hv]; rfl
    exact .inr ⟨g, cap, cur, hv, hg, (hx g (H.row g hr) (h2 g hr)).trans hh, r⟩
theorem not_map {f : Nat} (hf : S.live f) {m n : Nat} {D : Dir} (hm : OwnD w m n D) : f ≠ m ∧ ∀ r, (val f).ownBlock = some r → r ≠ m := by
  have H := h.files f hf
  obtain ⟨es, clock, hb, _⟩ := hm
  refine ⟨fun e => ?_, fun r hr e => ?_⟩
  · subst e; rw [H.cells] at hb; cases hb
  · subst e
    rcases H.own.2 with ⟨hv, _⟩ | ⟨g, cap, cur, hv, _, hh, _⟩
    · rw [hv] at hr; cases hr
    · rw [hv] at hr; injection hr with hr
      have hr : g = r := hr
      subst hr; rw [hh] at hb; cases hb
theorem box_ne {m n : Nat} {D : Dir} (hm : OwnD w m n D) : d ≠ m := fun e => by
  obtain ⟨es, clock, hb, _⟩ := hm
  subst e; rw [h.box] at hb; cases hb

theorem mk_create {k : List UInt8} {b : Nat} (hb : b = w.heap.size) (hx : ∀ i, i < w.heap.size → i ≠ pm → w'.heap[i]? = w.heap[i]?) (hn : w'.heap[b]? = some (.cells #[.int .i64 0, .slice none 0 0] 98 (0, 0)))
    (ho : OwnD w' pm 65 (S.pres.put (.string k) (.lit (.int .u64 (b : Int))))) (hb' : F' b) (hk : look S.pres k = none) (hs : Maps.size S.pres < 64) : DiskAt w' F' d pm dm (S.create k b) (upd val b (.slice none 0 0)) := by
  have hM : IsMap S.pres := World.ownsMap.isMap h.pres
  have hlk := fun k' => look_put S.pres hM k k' b
  have hlive : ∀ f, (S.create k b).live f → f = b ∨ S.live f := by
    rintro f (⟨k', hk'⟩ | ⟨k', hk'⟩)
    · have hk' : look (S.pres.put (.string k) (.lit (.int .u64 (b : Int)))) k' = some f := hk'
      rw [hlk] at hk'
      by_cases e : k' = k
      · rw [if_pos e] at hk'; injection hk' with hk'; exact .inl hk'.symm
      · rw [if_neg e] at hk'; exact .inr (.inl ⟨k', hk'⟩)
    · exact .inr (.inr ⟨k', hk'⟩)
  have hxF : ∀ i, F i → i ≠ pm → w'.heap[i]? = w.heap[i]? := fun i hi hne => hx i (h.lt i hi) hne
  have hne : ∀ f, S.live f → f ≠ b := fun f hf e => by have := look_lt h hf; omega
  refine ⟨(hxF d h.fd (box_ne h hF hlt h.pres)).trans h.box, hF d h.fd, hF pm h.fp, hF dm h.fm, h.ne, OwnD.less ho ?_, h.dur.at_ (hxF dm h.fm h.ne.symm), dirOK_put h.presOK k b, h.durOK, ?_, ?_, ?_, h.lo, h.hi, hlt⟩
  · have := size_put_le h.tidy k b
    show Maps.size (S.pres.put (.string k) (.lit (.int .u64 (b : Int)))) ≤ 64
    omega
  · intro f hf
    show FileAt w' F' f (upd S.file b ⟨[], 0⟩ f) (upd val b (.slice none 0 0) f)
    by_cases e : f = b
    · rw [e, upd_same, upd_same]
      exact ⟨hb', hn, ⟨rfl, .inl ⟨rfl, rfl⟩⟩, fun r hr => by (cases hr), Nat.le_refl _, by simp⟩
    · rw [upd_other _ _ e, upd_other _ _ e]
      have hl := (hlive f hf).resolve_left e
      exact file_on h hF hlt hl hxF (not_map h hF hlt hl h.pres).1 (not_map h hF hlt hl h.pres).2
  · intro f g hf hg hfg r hr
    by_cases e : f = b
    · rw [e, upd_same] at hr; cases hr
    · by_cases e2 : g = b
      · rw [e2, upd_same]; exact fun e => by cases e
      · rw [upd_other _ _ e] at hr; rw [upd_other _ _ e2]
        exact h.apart f g ((hlive f hf).resolve_left e) ((hlive g hg).resolve_left e2) hfg r hr
  · intro k1 k2 f h1 h2
    have h1 : look (S.pres.put (.string k) (.lit (.int .u64 (b : Int)))) k1 = some f := h1
    have h2 : look (S.pres.put (.string k) (.lit (.int .u64 (b : Int)))) k2 = some f := h2
    rw [hlk] at h1 h2
    by_cases e1 : k1 = k
    · by_cases e2 : k2 = k
      · rw [e1, e2]
      · rw [if_pos e1] at h1; rw [if_neg e2] at h2
        injection h1 with h1
        exact absurd h1.symm (hne f (.inl ⟨k2, h2⟩))
    · by_cases e2 : k2 = k
      · rw [if_neg e1] at h1; rw [if_pos e2] at h2
        injection h2 with h2
        exact absurd h2.symm (hne f (.inl ⟨k1, h1⟩))
      · rw [if_neg e1] at h1; rw [if_neg e2] at h2
        exact h.inj k1 k2 f h1 h2

/-- another present directory, over files that were there -/
theorem mk_dir {D : Dir} (hx : ∀ i, F i → i ≠ pm → w'.heap[i]? = w.heap[i]?) (ho : OwnD w' pm 64 D) (hOK : DirOK D) (hl : ∀ k f, look D k = some f → S.live f) (hi : ∀ k k' f, look D k = some f → look D k' = some f → k = k') :
    DiskAt w' F' d pm dm { S with pres := D } val := by
  have hlive : ∀ f, St.live { S with pres := D } f → S.live f := by
    rintro f (⟨k', hk'⟩ | ⟨k', hk'⟩)
    · exact hl k' f hk'
    · exact .inr ⟨k', hk'⟩
  refine ⟨(hx d h.fd (box_ne h hF hlt h.pres)).trans h.box, hF d h.fd, hF pm h.fp, hF dm h.fm, h.ne, ho, h.dur.at_ (hx dm h.fm h.ne.symm), hOK, h.durOK, ?_, ?_, hi, h.lo, h.hi, hlt⟩
  · intro f hf
    have hl := hlive f hf
    exact file_on h hF hlt hl hx (not_map h hF hlt hl h.pres).1 (not_map h hF hlt hl h.pres).2
  · intro f g hf hg
    exact h.apart f g (hlive f hf) (hlive g hg)
theorem mk_remove {k : List UInt8} (hx : ∀ i, F i → i ≠ pm → w'.heap[i]? = w.heap[i]?) (ho : OwnD w' pm 64 (S.pres.del (.string k))) : DiskAt w' F' d pm dm (S.remove k) val := by
  have hlk : ∀ k' f, look (S.pres.del (.string k)) k' = some f → look S.pres k' = some f := fun k' f hh => by
    rw [look_del] at hh
    by_cases e : k' = k
    · rw [if_pos e] at hh; cases hh
    · rw [if_neg e] at hh; exact hh
  exact mk_dir h hF hlt hx ho (dirOK_del h.presOK k) (fun k' f hh => .inl ⟨k', hlk k' f hh⟩) (fun k1 k2 f h1 h2 => h.inj k1 k2 f (hlk _ _ h1) (hlk _ _ h2))
theorem mk_rename {k k' : List UInt8} {f : Nat} (hx : ∀ i, F i → i ≠ pm → w'.heap[i]? = w.heap[i]?) (ho : OwnD w' pm 65 ((S.pres.put (.string k') (.lit (.int .u64 (f : Int)))).del (.string k))) (hk : look S.pres k = some f) (hne : k ≠ k') : DiskAt w' F' d pm dm (S.rename k k' f) val := by
  have hM : IsMap S.pres := World.ownsMap.isMap h.pres
  have hlk : ∀ x g, look ((S.pres.put (.string k') (.lit (.int .u64 (f : Int)))).del (.string k)) x = some g → x ≠ k ∧ ((x = k' ∧ g = f) ∨ (x ≠ k' ∧ look S.pres x = some g)) := fun x g hh => by
    rw [look_del] at hh
    by_cases e : x = k
    · rw [if_pos e] at hh; cases hh
    · rw [if_neg e, look_put _ hM] at hh
      refine ⟨e, ?_⟩
      by_cases e2 : x = k'
      · rw [if_pos e2] at hh; injection hh with hh; exact .inl ⟨e2, hh.symm⟩
      · rw [if_neg e2] at hh; exact .inr ⟨e2, hh⟩
  refine mk_dir h hF hlt hx (OwnD.less ho ?_) (dirOK_del (dirOK_put h.presOK k' f) k) (fun x g hh => ?_) (fun x y g h1 h2 => ?_)
  · have t1 := size_put_le h.tidy k' f
    have t2 := size_del (k := .string k) (h.tidy.put (isKey k') (.lit (.int .u64 (f : Int)) : DataW Unit))
    have hh : Maps.has (S.pres.put (.string k') (.lit (.int .u64 (f : Int)))) (.string k) = true := by
      rw [has_put_other (fun e => hne (by injection e))]; exact has_look hk
    rw [hh, if_pos rfl] at t2
    have t3 := OwnD.size_le h.pres
    omega
  · rcases (hlk x g hh).2 with ⟨_, rfl⟩ | ⟨_, h2⟩
    · exact .inl ⟨k, hk⟩
    · exact .inl ⟨x, h2⟩
  · obtain ⟨n1, r1⟩ := hlk x g h1
    obtain ⟨n2, r2⟩ := hlk y g h2
    rcases r1 with ⟨rfl, rfl⟩ | ⟨_, r1⟩ <;> rcases r2 with ⟨rfl, e2⟩ | ⟨_, r2⟩
    · rfl
    · exact absurd (h.inj y k g r2 hk) n2
    · subst e2; exact absurd (h.inj x k g r1 hk) n1
    · exact h.inj x y g r1 r2

/-- a file's struct is written: its bytes, or how many of them are durable -/
theorem mk_file {f : Nat} (hf : S.live f) {c : FileC} {v' : Value} (hx : ∀ i, F i → i ≠ f → (∀ r, (val f).ownBlock = some r → i ≠ r) → w'.heap[i]? = w.heap[i]?) (hA : FileAt w' F' f c v')
    (hv : ∀ r, v'.ownBlock = some r → (val f).ownBlock = some r ∨ w.heap.size ≤ r) : DiskAt w' F' d pm dm { S with file := upd S.file f c } (upd val f v') := by
  have hlive : ∀ g, St.live { S with file := upd S.file f c } g → S.live g := fun g hg => hg
  have hrow : ∀ r, (val f).ownBlock = some r → ∃ cur, w.heap[r]? = some (.cells cur 5 (0, 0)) := fun r hr => by
    rcases (h.files f hf).own.2 with ⟨e, _⟩ | ⟨g, cap, cur, e, _, hh, _⟩
    · rw [e] at hr; cases hr
    · rw [e] at hr; injection hr with hr; have hr : g = r := hr; subst hr; exact ⟨cur, hh⟩
  have other : ∀ i o, w.heap[i]? = some o → F i → i ≠ f → (∀ cur, o ≠ .cells cur 5 (0, 0)) → w'.heap[i]? = some o := fun i o hi hFi hne ho =>
    (hx i hFi hne (fun r hr e => by subst e; obtain ⟨cur, hc⟩ := hrow i hr; rw [hc] at hi; injection hi with hi; exact ho cur hi.symm)).trans hi
  have hd : d ≠ f := fun e => by
    have h1 := h.box; rw [e, (h.files f hf).cells] at h1
    injection h1 with h1; injection h1 with h1 h2; exact absurd h2 (by decide)
  have mapOn : ∀ m n D, OwnD w m n D → F m → OwnD w' m n D := fun m n D hm hFm => by
    have hne := (not_map h hF hlt hf hm).1
    obtain ⟨es, clock, hb, r⟩ := hm
    exact ⟨es, clock, other m _ hb hFm hne.symm (fun cur e => by cases e), r⟩
  refine ⟨other d _ h.box h.fd hd (fun cur e => by injection e with e1 e2; exact absurd e2 (by decide)), hF d h.fd, hF pm h.fp, hF dm h.fm, h.ne, mapOn _ _ _ h.pres h.fp, mapOn _ _ _ h.dur h.fm, h.presOK, h.durOK, ?_, ?_, h.inj, h.lo, h.hi, hlt⟩
  · intro g hg
    show FileAt w' F' g (upd S.file f c g) (upd val f v' g)
    by_cases e : g = f
    · rw [e, upd_same, upd_same]; exact hA
    · rw [upd_other _ _ e, upd_other _ _ e]
      have H := h.files g (hlive g hg)
      refine ⟨hF _ H.mem, other g _ H.cells H.mem e (fun cur e => by injection e with e1 e2; exact absurd e2 (by decide)), ?_, fun r hr => hF r (H.row r hr), H.sure, H.max⟩
      obtain ⟨a1, a2⟩ := H.own
      refine ⟨a1, ?_⟩
      rcases a2 with a2 | ⟨q, cap, cur, hv', hq, hh, r⟩
      · exact .inl a2
      · have hr : (val g).ownBlock = some q := by rw [hv']; rfl
        refine .inr ⟨q, cap, cur, hv', hq, (hx q (H.row q hr) ?_ ?_).trans hh, r⟩
        · intro e3; subst e3
          rw [(h.files q hf).cells] at hh
          injection hh with hh; injection hh with h1 h2; exact absurd h2 (by decide)
        · intro r' hr' e3; subst e3
          exact h.apart f g hf (hlive g hg) (fun e4 => e e4.symm) q hr' hr
  · intro a b ha hb hab r hr
    by_cases e : a = f
    · rw [e, upd_same] at hr
      have eb : b ≠ f := fun e2 => hab (e.trans e2.symm)
      rw [upd_other _ _ eb]
      intro h3
      rcases hv r hr with h4 | h4
      · exact h.apart f b hf (hlive b hb) (fun e5 => eb e5.symm) r h4 h3
      · have := h.lt r ((h.files b (hlive b hb)).row r h3); omega
    · rw [upd_other _ _ e] at hr
      by_cases e2 : b = f
      · rw [e2, upd_same]
        intro h3
        rcases hv r h3 with h4 | h4
        · exact h.apart f a hf (hlive a ha) (fun e5 => e e5.symm) r h4 hr
        · have := h.lt r ((h.files a (hlive a ha)).row r hr); omega
      · rw [upd_other _ _ e2]; exact h.apart a b (hlive a ha) (hlive b hb) hab r hr

theorem mk_names {dm' : Nat} (hx : ∀ i, F i → i ≠ d → w'.heap[i]? = w.heap[i]?) (hbox : w'.heap[d]? = some (.cells #[.int .i64 (S.size : Int), .map (some pm), .map (some dm')] 85 (0, 0))) (hd : OwnD w' dm' 64 S.pres) (hF' : F' dm') (hne : pm ≠ dm') :
    DiskAt w' F' d pm dm' S.names val := by
  have hlive : ∀ f, S.names.live f → S.live f := by
    rintro f (⟨k', hk'⟩ | ⟨k', hk'⟩)
    · exact .inl ⟨k', hk'⟩
    · exact .inl ⟨k', hk'⟩
  refine ⟨hbox, hF d h.fd, hF pm h.fp, hF', hne, h.pres.at_ (hx pm h.fp (fun e => box_ne h hF hlt h.pres e.symm)), hd, h.presOK, h.presOK, ?_, ?_, h.inj, h.lo, h.hi, hlt⟩
  · intro f hf
    have hl := hlive f hf
    have H := h.files f hl
    refine file_on h hF hlt hl hx ?_ ?_
    · intro e; have h1 := h.box; rw [← e, H.cells] at h1
      injection h1 with h1; injection h1 with h1 h2; exact absurd h2 (by decide)
    · intro r hr e
      rcases H.own.2 with ⟨e1, _⟩ | ⟨g, cap, cur, e1, _, hh, _⟩
      · rw [e1] at hr; cases hr
      · rw [e1] at hr; injection hr with hr; have hr : g = r := hr
        rw [hr, e, h.box] at hh; injection hh with hh; injection hh with h1 h2; exact absurd h2 (by decide)
  · intro f g hf hg
    exact h.apart f g (hlive f hf) (hlive g hg)
end
end Go.Proofs.YtbpdonnneleeeaaGreatDoor

