/-
  A directory of package files: a map from names to files, read as names and numbers of blocks.
-/
import Derived.Test.YtopcnlophmplgaaChkB
import Derived.Test.YtopcnlophmplgaaMem
import Derived.Maps.OwnSet
import Derived.Maps.Ext
import Derived.Maps.RangeWalk
import Derived.Maps.OwnOps
namespace Go.Proofs.Ytopcnlophmplgaa
open Go.RowKit Go.Maps
open Go.WideMaps (keyOf_string_mk)
open Go.WideShapes (insert_perm)
set_option maxRecDepth 100000
set_option linter.unusedVariables false

abbrev Dir := DataW Unit
/-- how a pointer to a file reads: as its block's number -/
def pE : Value → Option (DataW Unit × List MemPlace)
  | .pointer none => some (.nil, [])
  | .pointer (some ⟨b, 0, none⟩) => some (.lit (.int .u64 (b : Int)), [])
  | _ => none
def ptrOf : Option Nat → Value
  | none => .pointer none
  | some b => .pointer (some ⟨b, 0, none⟩)
def blk : DataW Unit → Option Nat
  | .lit (.int .u64 b) => some b.toNat
  | _ => none
/-- the block that a name leads to -/
def look (D : Dir) (k : List UInt8) : Option Nat := blk (D.atKey (.string k) .nil)
theorem pE_blk {v : Value} {d : DataW Unit} {ps : List MemPlace} (h : pE v = some (d, ps)) : v = ptrOf (blk d) := by
  unfold pE at h
  split at h
  · injection h with h; injection h with h1 h2; subst h1; rfl
  · injection h with h; injection h with h1 h2; subst h1
    simp [blk, ptrOf]
  · cases h
theorem pE_some (b : Nat) : pE (.pointer (some ⟨b, 0, none⟩)) = some (.lit (.int .u64 (b : Int)), []) := rfl
theorem keyLaw : Keyed Try.prog 9 := string_keyed Try.underlying9
theorem zeroP (w : World) : (zeroValue 91).run Try.prog w = .ok (.pointer none) w := by kernel_rfl
theorem keyOf_s {s : ByteArray} (hs : s.size ≤ 140737488355328) : keyOf Try.prog 9 (.string s) = some (.string s.data.toList) := keyOf_string_mk Try.underlying9 (by unfold maxLen; omega)

/-- block b holds the directory D, of n names at most -/
abbrev OwnD (w : World) (b n : Nat) (D : Dir) : Prop := w.ownsMap Try.prog 9 pE b n D

theorem OwnD.at_ {w w' : World} {b n : Nat} {D : Dir} (h : OwnD w b n D) (hb : w'.heap[b]? = w.heap[b]?) : OwnD w' b n D := by
  obtain ⟨es, clock, h1, h2, h3, h4⟩ := h
  exact ⟨es, clock, hb.trans h1, h2, h3, h4⟩
theorem OwnD.size_le {w : World} {b n : Nat} {D : Dir} (h : OwnD w b n D) : Maps.size D ≤ n := World.ownsMap.size_le h
theorem OwnD.less {w : World} {b n m : Nat} {D : Dir} (h : OwnD w b n D) (hm : Maps.size D ≤ m) : OwnD w b m D := by
  obtain ⟨es, clock, h1, h2, h3, rfl⟩ := h
  refine ⟨es, clock, h1, h2, ?_, rfl⟩
  rw [Maps.size_eq, length_read] at hm
  exact hm
theorem OwnD.lookup1 {w : World} {b n : Nat} {D : Dir} (h : OwnD w b n D) {s : ByteArray} (hs : s.size ≤ 140737488355328) :
    (Instr.lookup 93 (.map (some b)) (.string s) false).run Try.prog w = .ok (ptrOf (look D s.data.toList)) w := by
  obtain ⟨v, ps, hrun, hv⟩ := h.lookup keyLaw Try.underlying93 (zeroP w) (zd := .nil) (zp := []) rfl (keyOf_s hs)
  rw [hrun, pE_blk hv]
  rfl
theorem OwnD.looks {w : World} {b n : Nat} {D : Dir} (h : OwnD w b n D) {s : ByteArray} (hs : s.size ≤ 140737488355328) (q : Nat) :
    (Instr.lookup 93 (.map (some b)) (.string s) false).run Try.prog (w.drewN q) = .ok (ptrOf (look D s.data.toList)) (w.drewN q) :=
  OwnD.lookup1 (w := w.drewN q) (b := b) (n := n) (D := D) (OwnD.at_ (w := w) h rfl) hs

/-! the pure laws -/
theorem isKey (k : List UInt8) : WideAt.IsKeyLit (.string k) := by trivial
theorem look_put (D : Dir) (hD : IsMap D) (k k' : List UInt8) (b : Nat) : look (D.put (.string k) (.lit (.int .u64 (b : Int)))) k' = if k' = k then some b else look D k' := by
  unfold look
  by_cases h : k' = k
  · subst h
    rw [atKey_put_same hD (isKey _), if_pos rfl]
    rfl
  · rw [atKey_put_other (fun e => h (by injection e)), if_neg h]
theorem look_del (D : Dir) (k k' : List UInt8) : look (D.del (.string k)) k' = if k' = k then none else look D k' := by
  unfold look
  by_cases h : k' = k
  · subst h
    rw [atKey_del_same, if_pos rfl]; rfl
  · rw [atKey_del_other (fun e => h (by injection e)), if_neg h]
theorem look_none (k : List UInt8) : look (.map []) k = none := rfl

def ents : Dir → List (Lit × DataW Unit)
  | .map es => es
  | _ => []
/-- what an entry's file counts for -/
def valE (g : Nat → Nat) (d : DataW Unit) : Nat := ((blk d).map g).getD 0
def tot (D : Dir) (g : Nat → Nat) : Nat := ((ents D).map fun e => valE g e.2).sum
/-- the entries that have come -/
def part (D : Dir) (left : Lit → Bool) (g : Nat → Nat) : Nat := (((ents D).filter fun e => !left e.1).map fun e => valE g e.2).sum

theorem part_start (D : Dir) (hD : Tidy D) (hk : ∀ e ∈ ents D, WideAt.IsKeyLit e.1) (g : Nat → Nat) : part D (Maps.has D) g = 0 := by
  obtain ⟨es, rfl, hp⟩ := hD
  unfold part ents
  rw [List.filter_eq_nil_iff.2]
  · rfl
  · intro e he
    rw [has_eq]
    have : (es.any fun p => p.1.sameKey e.1) = true := List.any_eq_true.2 ⟨e, he, WideAt.sameKey_self (hk e he)⟩
    simp [this]
theorem part_end (D : Dir) (left : Lit → Bool) (g : Nat → Nat) (h : ∀ k, left k = false) : part D left g = tot D g := by
  unfold part tot
  rw [List.filter_eq_self.2 (fun e _ => by simp [h])]
theorem part_list (f : Lit × DataW Unit → Nat) (left : Lit → Bool) (kl : Lit) (hkl : WideAt.IsKeyLit kl) (hl : left kl = true) (p : Lit × DataW Unit) (hp1 : p.1 = kl) :
    ∀ es : List (Lit × DataW Unit), es.Pairwise (fun p q => p.1 ≠ q.1) → p ∈ es →
      ((es.filter fun e => !(left e.1 && !e.1.sameKey kl)).map f).sum = ((es.filter fun e => !left e.1).map f).sum + f p
  | [], _, h => by cases h
  | a :: r, hp, h => by
    rw [List.pairwise_cons] at hp
    by_cases ha : a.1 = kl
    · have hap : a = p := by
        rcases List.mem_cons.1 h with h | h
        · exact h.symm
        · exact absurd (ha.trans hp1.symm) (hp.1 p h)
      subst hap
      have h1 : (!(left a.1 && !a.1.sameKey kl)) = true := by rw [ha, WideAt.sameKey_self hkl]; simp
      have h2 : (!left a.1) = false := by rw [ha, hl]; rfl
      simp only [List.filter_cons, h1, h2, if_true, Bool.false_eq_true, if_false]
      have h3 : (r.filter fun e => !(left e.1 && !e.1.sameKey kl)) = r.filter fun e => !left e.1 := by
        refine List.filter_congr fun e he => ?_
        rw [sameKey_ne (fun hh => hp.1 e he (ha.trans hh.symm))]
        simp
      rw [h3, List.map_cons, List.sum_cons]
      omega
    · have hr : p ∈ r := by
        rcases List.mem_cons.1 h with h | h
        · exact absurd (by rw [← h]; exact hp1) ha
        · exact h
      have ih := part_list f left kl hkl hl p hp1 r hp.2 hr
      have h3 : a.1.sameKey kl = false := sameKey_ne ha
      cases hla : left a.1
      · simp only [List.filter_cons, hla, Bool.false_and, Bool.not_false, if_true, List.map_cons, List.sum_cons, ih]
        omega
      · simp only [List.filter_cons, hla, h3, Bool.not_false, Bool.and_true, Bool.not_true, Bool.false_eq_true, if_false, ih]
theorem mem_at {es : List (Lit × DataW Unit)} {kl : Lit} {y : DataW Unit} (h : ∀ zd, (DataW.map es).atKey kl zd = y) : ∃ p ∈ es, p.1 = kl ∧ p.2 = y := by
  have h0 := h .nil
  have h1 := h (.lit (.bool true))
  simp only [DataW.atKey] at h0 h1
  cases hf : es.find? (fun p => p.1.sameKey kl) with
  | none => rw [hf] at h0 h1; simp only at h0 h1; rw [← h0] at h1; cases h1
  | some p =>
    rw [hf] at h0
    exact ⟨p, List.mem_of_find?_eq_some hf, WideAt.sameKey_eq (List.find?_some (p := fun p : Lit × DataW Unit => p.1.sameKey kl) hf), h0⟩
theorem part_step (D : Dir) (hD : Tidy D) (left : Lit → Bool) (kl : Lit) (y : DataW Unit) (hkl : WideAt.IsKeyLit kl) (hl : left kl = true) (hat : ∀ zd, D.atKey kl zd = y) (g : Nat → Nat) :
    part D (fun x => left x && !x.sameKey kl) g = part D left g + valE g y := by
  obtain ⟨es, rfl, hp⟩ := hD
  obtain ⟨p, hpm, hp1, rfl⟩ := mem_at hat
  exact part_list (fun e => valE g e.2) left kl hkl hl p hp1 es hp hpm

theorem tot_del_list (f : Lit × DataW Unit → Nat) (kl : Lit) (hkl : WideAt.IsKeyLit kl) (p : Lit × DataW Unit) (hp1 : p.1 = kl) (es : List (Lit × DataW Unit)) (hp : es.Pairwise (fun p q => p.1 ≠ q.1)) (h : p ∈ es) :
    ((es.filter fun e => !e.1.sameKey kl).map f).sum + f p = (es.map f).sum := by
  have h1 := part_list f (fun x => x.sameKey kl) kl hkl (WideAt.sameKey_self hkl) p hp1 es hp h
  rw [← h1, List.filter_eq_self.2 (fun e _ => by simp)]
theorem tot_del (D : Dir) (hD : Tidy D) (k : List UInt8) (b : Nat) (g : Nat → Nat) (h : look D k = some b) : tot (D.del (.string k)) g + g b = tot D g := by
  obtain ⟨es, rfl, hp⟩ := hD
  have hy : ∃ p ∈ es, p.1 = .string k ∧ blk p.2 = some b := by
    unfold look at h
    simp only [DataW.atKey] at h
    cases hf : es.find? (fun p => p.1.sameKey (.string k)) with
    | none => rw [hf] at h; cases h
    | some p =>
      rw [hf] at h
      exact ⟨p, List.mem_of_find?_eq_some hf, WideAt.sameKey_eq (List.find?_some (p := fun p : Lit × DataW Unit => p.1.sameKey (.string k)) hf), h⟩
  obtain ⟨p, hpm, hp1, hpb⟩ := hy
  have := tot_del_list (fun e => valE g e.2) (.string k) (isKey k) p hp1 es hp hpm
  have hv : valE g p.2 = g b := by unfold valE; rw [hpb]; rfl
  rw [hv] at this
  exact this
theorem insert_sum (f : Lit × DataW Unit → Nat) (x : Lit × DataW Unit) (l : List (Lit × DataW Unit)) : ((DataW.insert x l).map f).sum = f x + (l.map f).sum := by
  have := ((insert_perm x l).map f).sum_nat
  rw [this, List.map_cons, List.sum_cons]
theorem tot_put (D : Dir) (hD : Tidy D) (k : List UInt8) (b : Nat) (g : Nat → Nat) : tot (D.put (.string k) (.lit (.int .u64 (b : Int)))) g = g b + tot (D.del (.string k)) g := by
  obtain ⟨es, rfl, hp⟩ := hD
  have h := insert_sum (fun e => valE g e.2) (.string k, .lit (.int .u64 (b : Int))) (es.filter fun p => !p.1.sameKey (.string k))
  exact h
theorem has_look {D : Dir} {k : List UInt8} {b : Nat} (h : look D k = some b) : Maps.has D (.string k) = true := by
  cases hh : Maps.has D (.string k) with
  | true => rfl
  | false => unfold look at h; rw [atKey_of_not_has hh] at h; cases h
theorem del_absent {D : Dir} {k : List UInt8} (h : Maps.has D (.string k) = false) : D.del (.string k) = D := del_of_not_has h
theorem tot_congr (D : Dir) (g g' : Nat → Nat) (h : ∀ e ∈ ents D, ∀ b, blk e.2 = some b → g b = g' b) : tot D g = tot D g' := by
  unfold tot
  congr 1
  refine List.map_congr_left fun e he => ?_
  unfold valE
  cases hb : blk e.2 with
  | none => rfl
  | some b => exact h e he b hb
end Go.Proofs.Ytopcnlophmplgaa
