/-
  A set of package edits: a map from numbers to files; add, remove.
-/
import Derived.Test.YtnnocjnmfabnaaaEdA
import Derived.Maps.OwnSet
import Derived.Maps.Ext
import Derived.Maps.RangeWalk
import Derived.Maps.OwnOps
namespace Go.Proofs.Ytnnocjnmfabnaaa
open Go.RowKit Go.Maps
set_option linter.unusedVariables false
set_option maxRecDepth 100000

abbrev FD := DataW Fi
/-- how a file reads in a map -/
def fL : List Value → Option (FD × List MemPlace)
  | [.int .u32 n, .int .i64 l, .string a, .string z] => if 0 ≤ n then some (.held ⟨n.toNat, l, a, z⟩, []) else none
  | _ => none
def fE : Value → Option (FD × List MemPlace)
  | .agg c => fL c.toList
  | _ => none
theorem fE_mk (f : Fi) : fE f.v = some (.held f, []) := by
  show fL [.int .u32 (f.num : Int), .int .i64 f.lv, .string f.a, .string f.z] = _
  show (if 0 ≤ (f.num : Int) then some (DataW.held (⟨(f.num : Int).toNat, f.lv, f.a, f.z⟩ : Fi), ([] : List MemPlace)) else none) = _
  rw [if_pos (by omega), Int.toNat_natCast]
theorem fL_inv {l : List Value} {y : FD × List MemPlace} (h : fL l = some y) : ∃ f : Fi, l = f.cs ∧ y = (.held f, []) := by
  unfold fL at h
  split at h
  · rename_i n l a z
    split at h
    · rename_i hn
      injection h with h
      refine ⟨⟨n.toNat, l, a, z⟩, ?_, h.symm⟩
      unfold Fi.cs
      dsimp only
      rw [Int.toNat_of_nonneg hn]
    · cases h
  · cases h
theorem fE_inv {v : Value} {y : FD × List MemPlace} (h : fE v = some y) : ∃ f : Fi, v = f.v ∧ y = (.held f, []) := by
  cases v with
  | agg c =>
    obtain ⟨l⟩ := c
    obtain ⟨f, rfl, hy⟩ := fL_inv (l := l) h
    exact ⟨f, rfl, hy⟩
  | _ => cases h
def noFi : Fi := ⟨0, 0, ByteArray.empty, ByteArray.empty⟩
theorem keyF : Keyed Try.prog 24 := int_keyed Try.underlying24
theorem zeroF (w : World) : (zeroValue 37).run Try.prog w = .ok noFi.v w := by kernel_rfl
abbrev kF (k : Nat) : Lit := .int .u32 (k : Int)
theorem kF_wf {k : Nat} (hk : k < 4294967296) : (Lit.int .u32 (k : Int)).wf = true := by
  have e1 : IntKind.u32.min = 0 := rfl
  have e2 : IntKind.u32.max = 4294967295 := rfl
  show (decide (IntKind.u32.min ≤ (k : Int)) && decide ((k : Int) ≤ IntKind.u32.max)) = true
  rw [e1, e2, decide_eq_true (by omega), decide_eq_true (by omega)]; rfl
theorem keyOf_f {k : Nat} (hk : k < 4294967296) : keyOf Try.prog 24 (.int .u32 (k : Int)) = some (kF k) := keyOf_int_mk Try.underlying24 (kF_wf hk)
theorem isKeyF (k : Nat) : WideAt.IsKeyLit (kF k) := by trivial
theorem kF_ne {j k : Nat} (h : j ≠ k) : kF j ≠ kF k := fun e => h (by injection e with _ e; omega)
/-- the map's data are these files -/
structure Rep (D : FD) (m : List Fi) : Prop where
  isM : IsMap D
  nd : (nms m).Nodup
  lt : ∀ f ∈ m, f.num < 4294967296
  at_ : ∀ k, k < 4294967296 → ∀ zd, D.atKey (kF k) zd = ((m.find? fun f => f.num == k).map DataW.held).getD zd
theorem Rep.nil : Rep (.map []) [] := ⟨isMap_empty, List.nodup_nil, fun f hf => (by cases hf), fun k _ zd => rfl⟩
theorem find_none {m : List Fi} {k : Nat} (h : hasN m k = false) : m.find? (fun f => f.num == k) = none := by
  rw [List.find?_eq_none]
  intro f hf e
  exact hasN_no.1 h (nms_mem.2 ⟨f, hf, by simpa using e⟩)
theorem find_some {m : List Fi} (h : (nms m).Nodup) {f : Fi} (hf : f ∈ m) : m.find? (fun g => g.num == f.num) = some f := by
  cases e : m.find? (fun g => g.num == f.num) with
  | none =>
    rw [List.find?_eq_none] at e
    exact absurd (by simp) (e f hf)
  | some g =>
    have h1 := List.find?_some e
    have h2 := List.mem_of_find?_eq_some e
    rw [one_num h h2 hf (by simpa using h1)]
theorem Rep.has {D : FD} {m : List Fi} (h : Rep D m) {k : Nat} (hk : k < 4294967296) : Maps.has D (kF k) = hasN m k := by
  cases e : hasN m k
  · refine has_false_of_atKey fun z => ?_
    rw [h.at_ k hk, find_none e]; rfl
  · obtain ⟨f, hf, rfl⟩ := nms_mem.1 (hasN_iff.1 e)
    refine has_true_of_atKey (y := .held f) fun z => ?_
    rw [h.at_ _ hk, find_some h.nd hf]; rfl
theorem Rep.put {D : FD} {m : List Fi} (h : Rep D m) {f : Fi} (hf : f.num < 4294967296) (hn : hasN m f.num = false) : Rep (D.put (kF f.num) (.held f)) (m ++ [f]) := by
  refine ⟨h.isM.put _ _, ?_, ?_, ?_⟩
  · rw [nms_app, List.nodup_append]
    exact ⟨h.nd, by simp [nms], fun x hx y hy e => by
      have : y = f.num := by simpa [nms] using hy
      subst this
      exact hasN_no.1 hn (e ▸ hx)⟩
  · intro g hg
    rcases List.mem_append.1 hg with q | q
    · exact h.lt g q
    · obtain rfl : g = f := by simpa using q
      exact hf
  · intro k hk zd
    rw [List.find?_append]
    by_cases e : k = f.num
    · subst e
      rw [atKey_put_same h.isM (isKeyF _), find_none hn]
      simp
    · rw [atKey_put_other (kF_ne e), h.at_ k hk]
      have e2 : [f].find? (fun g => g.num == k) = none := by
        rw [List.find?_eq_none]
        intro g hg q
        obtain rfl : g = f := by simpa using hg
        have q2 : g.num = k := by simpa using q
        exact e q2.symm
      rw [e2, Option.or_none]
theorem Rep.del {D : FD} {m : List Fi} (h : Rep D m) (k : Nat) : Rep (D.del (kF k)) (left m [k]) := by
  refine ⟨h.isM.del _, left_nodup h.nd _, fun f hf => h.lt f (mem_left.1 hf).1, ?_⟩
  intro j hj zd
  by_cases e : j = k
  · subst e
    rw [atKey_del_same, find_none]
    · rfl
    · rw [Bool.eq_false_iff]
      intro q
      exact (hasN_left.1 q).2 (by simp)
  · rw [atKey_del_other (kF_ne e), h.at_ j hj]
    congr 2
    unfold left
    rw [find_filter_keep]
    intro f hf
    have : f.num = j := by simpa using hf
    simp [this, e]

/-- block g holds the files m, N at most -/
def FMap (w : World) (g N : Nat) (m : List Fi) : Prop := ∃ D, w.ownsMap Try.prog 24 fE g N D ∧ Rep D m
section
variable {w w' : World} {g N : Nat} {m : List Fi}
theorem FMap.lt (h : FMap w g N m) : g < w.heap.size := by
  obtain ⟨D, h1, _⟩ := h
  exact World.ownsMap.lt h1
theorem FMap.kept {row : Option Nat} (h : FMap w g N m) (hg : w.grownBy w' row) (hne : some g ≠ row) : FMap w' g N m := by
  obtain ⟨D, h1, h2⟩ := h
  exact ⟨D, World.ownsMap.kept h1 hg hne, h2⟩
theorem FMap.below {B : Nat} (h : FMap w g N m) (hb : Below B w w') (hB : g < B) : FMap w' g N m := by
  obtain ⟨D, ⟨es, clock, h1, h2, h3, h4⟩, h5⟩ := h
  exact ⟨D, ⟨es, clock, (hb.block g hB).trans h1, h2, h3, h4⟩, h5⟩
theorem FMap.made (w : World) : FMap (w.alloc (.map #[] 0)) w.heap.size 0 [] := ⟨_, World.ownsMap_made w _ _ _, Rep.nil⟩
/-- is a number there? -/
theorem FMap.look (h : FMap w g N m) {k : Nat} (hk : k < 4294967296) : ∃ f : Fi, (Instr.lookup 47 (.map (some g)) (.int .u32 (k : Int)) true).run Try.prog w = .ok (.tuple #[.agg #[.int .u32 (f.num : Int), .int .i64 f.lv, .string f.a, .string f.z], .bool (hasN m k)]) w := by
  obtain ⟨D, h1, h2⟩ := h
  obtain ⟨v, ps, hrun, hv⟩ := h1.look_ok keyF Try.underlying47 (zeroF w) (fE_mk noFi) (keyOf_f hk)
  obtain ⟨f, rfl, _⟩ := fE_inv hv
  rw [h2.has hk] at hrun
  exact ⟨f, hrun⟩
theorem FMap.put (h : FMap w g N m) (hN : N < maxLen) {f : Fi} (hf : f.num < 4294967296) (hn : hasN m f.num = false) :
    ∃ w', (Instr.mapUpdate 47 (.map (some g)) (.int .u32 (f.num : Int)) (.agg #[.int .u32 (f.num : Int), .int .i64 f.lv, .string f.a, .string f.z])).run Try.prog w = .ok () w' ∧ FMap w' g (N + 1) (m ++ [f]) ∧ w.grownBy w' (some g) := by
  obtain ⟨D, h1, h2⟩ := h
  obtain ⟨w', hrun, h3, h4⟩ := h1.update keyF Try.underlying47 hN (keyOf_f hf) (fE_mk f)
  exact ⟨w', hrun, ⟨_, h3, h2.put hf hn⟩, h4⟩
theorem FMap.del (h : FMap w g N m) {k : Nat} (hk : k < 4294967296) (ty : TypeId) :
    ∃ w', (Builtin.delete_ #[47, 24] ty #[.map (some g), .int .u32 (k : Int)]).run Try.prog w = .ok (.tuple #[]) w' ∧ FMap w' g N (left m [k]) ∧ w.grownBy w' (some g) := by
  obtain ⟨D, h1, h2⟩ := h
  obtain ⟨w', hrun, h3, h4⟩ := h1.drop keyF Try.underlying47 (keyOf_f hk) ty
  refine ⟨w', hrun, ⟨_, h3, h2.del k⟩, ?_⟩
  exact h4.grown
end
end Go.Proofs.Ytnnocjnmfabnaaa
