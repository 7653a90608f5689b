/-
  FilesNames: seventy names, and which of them are there; plain facts, and an array of seventy bools in memory.
-/
import Derived.Test.YteelmgmigfeabaaBeside
import Derived.Deep.WholeRow
namespace Go.Proofs.Yteelmgmigfeabaa
open Go.RowKit Go.Maps Go.Sort
set_option linter.unusedVariables false
set_option linter.unusedSectionVars false
set_option maxRecDepth 20000

def nm (i : Nat) : List UInt8 := [UInt8.ofNat (97 + i / 10), UInt8.ofNat (48 + i % 10)]
theorem nm_pair : ((List.range 70).map nm).Pairwise (fun a b => a ≤ b ∧ a ≠ b) := by decide +kernel
theorem nm_ok (i : Nat) (h : i < 70) : okName (nm i) = true := (by decide +kernel : ∀ i, i < 70 → okName (nm i) = true) i h
theorem nm_zz (i : Nat) (h : i < 70) : ([122, 122] : List UInt8) ≠ nm i := (by decide +kernel : ∀ i, i < 70 → ([122, 122] : List UInt8) ≠ nm i) i h
theorem nm_inj {i j : Nat} (hi : i < 70) (hj : j < 70) (h : nm i = nm j) : i = j := (by decide +kernel : ∀ i, i < 70 → ∀ j, j < 70 → nm i = nm j → i = j) i hi j hj h

/-- the names that are there -/
def names (T : Nat → Bool) : List (List UInt8) := ((List.range 70).filter T).map nm
def cnt (T : Nat → Bool) : Nat := ((List.range 70).filter T).length
theorem mem_names {T : Nat → Bool} {k : List UInt8} : k ∈ names T ↔ ∃ i, i < 70 ∧ T i = true ∧ nm i = k := by
  unfold names
  rw [List.mem_map]
  constructor
  · rintro ⟨i, hi, rfl⟩
    obtain ⟨h1, h2⟩ := List.mem_filter.1 hi
    exact ⟨i, List.mem_range.1 h1, h2, rfl⟩
  · rintro ⟨i, h1, h2, rfl⟩
    exact ⟨i, List.mem_filter.2 ⟨List.mem_range.2 h1, h2⟩, rfl⟩
theorem names_sub (T : Nat → Bool) : (names T).Sublist ((List.range 70).map nm) := (List.filter_sublist).map nm
theorem names_nodup (T : Nat → Bool) : (names T).Nodup := List.Pairwise.imp (fun h => h.2) (nm_pair.sublist (names_sub T))
theorem names_sorted (T : Nat → Bool) : (names T).mergeSort (fun x y => decide (x ≤ y)) = names T :=
  List.mergeSort_of_pairwise (List.Pairwise.imp (fun h => decide_eq_true h.1) (nm_pair.sublist (names_sub T)))
theorem filter_on (T : Nat → Bool) (i : Nat) (h : T i = false) : ∀ l : List Nat, l.Nodup → ((l.filter (upd T i true)).length = (l.filter T).length + if i ∈ l then 1 else 0)
  | [], _ => rfl
  | a :: l, hn => by
    rw [List.nodup_cons] at hn
    have ih := filter_on T i h l hn.2
    by_cases e : a = i
    · subst e
      rw [List.filter_cons, List.filter_cons, upd_same, h, if_pos rfl, if_neg (by simp), List.length_cons, ih, if_neg hn.1, if_pos (by simp)]
    · have e1 : upd T i true a = T a := upd_other _ _ e
      rw [List.filter_cons, List.filter_cons, e1]
      have e2 : (i ∈ a :: l) = (i ∈ l) := by rw [eq_iff_iff, List.mem_cons]; exact ⟨fun h => h.resolve_left (fun x => e x.symm), .inr⟩
      simp only [e2]
      split
      · rw [List.length_cons, List.length_cons, ih]; omega
      · exact ih
theorem cnt_on (T : Nat → Bool) (i : Nat) (hi : i < 70) (h : T i = false) : cnt (upd T i true) = cnt T + 1 := by
  have := filter_on T i h (List.range 70) List.nodup_range
  rw [if_pos (List.mem_range.2 hi)] at this
  exact this
theorem cnt_off (T : Nat → Bool) (i : Nat) (hi : i < 70) (h : T i = true) : cnt (upd T i false) + 1 = cnt T := by
  have h1 := cnt_on (upd T i false) i hi (upd_same _ _ _)
  have h2 : upd (upd T i false) i true = T := by
    funext j
    by_cases e : j = i
    · rw [e, upd_same, h]
    · rw [upd_other _ _ e, upd_other _ _ e]
  rw [h2] at h1; omega

theorem map_of_tidy5 {D : Dir} (h : Tidy D) : IsMap D := by obtain ⟨es, he, _⟩ := h; exact ⟨es, he⟩
/-- the disk has these names -/
def IN (T : Nat → Bool) (S : St) : Prop := ∀ k, k ∈ names T ↔ (look S.pres k).isSome = true
section
variable {T : Nat → Bool} {S : St}
theorem IN.list {w0 w : World} {d : Nat} (h : IN T S) (ha : At w0 w d S) : S.list = names T := by
  rw [list_is ha.presOK ha.tidy (names T) (names_nodup T) h, names_sorted]
theorem IN.size {w0 w : World} {d : Nat} (h : IN T S) (ha : At w0 w d S) : Maps.size S.pres = cnt T := by
  have h1 := h.list ha
  have h2 : S.list.length = Maps.size S.pres := by
    obtain ⟨es, he, _⟩ := ha.tidy
    show ((strKeys S.pres).mergeSort _).length = _
    rw [List.length_mergeSort, he]
    show (es.map fun p => strOf p.1).length = es.length
    rw [List.length_map]
  rw [← h2, h1]
  show (((List.range 70).filter T).map nm).length = _
  rw [List.length_map]; rfl
theorem IN.there (h : IN T S) {i : Nat} (hi : i < 70) (ht : T i = true) : ∃ f, look S.pres (nm i) = some f :=
  Option.isSome_iff_exists.1 ((h _).1 (mem_names.2 ⟨i, hi, ht, rfl⟩))
theorem IN.gone (h : IN T S) {i : Nat} (hi : i < 70) (ht : T i = false) : look S.pres (nm i) = none := by
  cases hl : look S.pres (nm i) with
  | none => rfl
  | some f =>
    obtain ⟨j, hj, hj2, hj3⟩ := mem_names.1 ((h (nm i)).2 (by rw [hl]; rfl))
    rw [nm_inj hj hi hj3] at hj2
    rw [hj2] at ht; cases ht
theorem IN.zz (h : IN T S) : look S.pres [122, 122] = none := by
  cases hl : look S.pres [122, 122] with
  | none => rfl
  | some f =>
    obtain ⟨j, hj, hj2, hj3⟩ := mem_names.1 ((h [122, 122]).2 (by rw [hl]; rfl))
    exact absurd hj3.symm (nm_zz j hj)
theorem IN.create (h : IN T S) (hM : IsMap S.pres) {i : Nat} (hi : i < 70) (b : Nat) : IN (upd T i true) (S.create (nm i) b) := fun k => by
  show _ ↔ (look (S.pres.put (.string (nm i)) (.lit (.int .u64 (b : Int)))) k).isSome = true
  rw [look_put _ hM, mem_names]
  by_cases e : k = nm i
  · rw [if_pos e]
    exact ⟨fun _ => rfl, fun _ => ⟨i, hi, upd_same _ _ _, e.symm⟩⟩
  · rw [if_neg e, ← h k, mem_names]
    constructor
    · rintro ⟨j, h1, h2, h3⟩
      have hji : j ≠ i := fun x => e (by rw [← h3, x])
      rw [upd_other _ _ hji] at h2
      exact ⟨j, h1, h2, h3⟩
    · rintro ⟨j, h1, h2, h3⟩
      have hji : j ≠ i := fun x => e (by rw [← h3, x])
      exact ⟨j, h1, by rw [upd_other _ _ hji]; exact h2, h3⟩
theorem IN.remove (h : IN T S) {i : Nat} (hi : i < 70) : IN (upd T i false) (S.remove (nm i)) := fun k => by
  show _ ↔ (look (S.pres.del (.string (nm i))) k).isSome = true
  rw [look_del, mem_names]
  by_cases e : k = nm i
  · rw [if_pos e]
    constructor
    · rintro ⟨j, h1, h2, h3⟩
      rw [nm_inj h1 hi (h3.trans e), upd_same] at h2; cases h2
    · intro x; cases x
  · rw [if_neg e, ← h k, mem_names]
    constructor
    · rintro ⟨j, h1, h2, h3⟩
      have hji : j ≠ i := fun x => e (by rw [← h3, x])
      rw [upd_other _ _ hji] at h2
      exact ⟨j, h1, h2, h3⟩
    · rintro ⟨j, h1, h2, h3⟩
      have hji : j ≠ i := fun x => e (by rw [← h3, x])
      exact ⟨j, h1, by rw [upd_other _ _ hji]; exact h2, h3⟩
theorem IN.new (n : Nat) : IN (fun _ => false) (St.new n) := fun k => by
  rw [mem_names]
  constructor
  · rintro ⟨j, h1, h2, h3⟩; cases h2
  · intro x; cases x
end

/-- an array of seventy bools -/
def boolRow (T : Nat → Bool) : Array Value := ((List.range 70).map fun i => Value.bool (T i)).toArray
theorem boolRow_at (T : Nat → Bool) {k : Nat} (hk : k < 70) : (boolRow T)[k]? = some (.bool (T k)) := by
  unfold boolRow
  rw [List.getElem?_toArray, List.getElem?_map, List.getElem?_range hk]; rfl
theorem boolRow_set (T : Nat → Bool) (k : Nat) (b : Bool) : (boolRow T).setIfInBounds k (.bool b) = boolRow (upd T k b) := by
  unfold boolRow
  rw [List.setIfInBounds_toArray]
  congr 1
  apply List.ext_getElem?; intro i
  rw [List.getElem?_set, List.length_map, List.length_range, List.getElem?_map, List.getElem?_map]
  by_cases h : i < 70
  · rw [List.getElem?_range h]
    by_cases e : k = i
    · subst e; simp [h, upd_same]
    · rw [if_neg e]; simp only [Option.map_some]; rw [upd_other _ _ (fun x => e x.symm)]
  · rw [List.getElem?_eq_none (l := List.range 70) (by simpa using h)]
    have : ¬ (k = i ∧ k < 70) := by omega
    simp; omega
theorem bools_info : (Try.prog.info? 62).map (fun i => (i.zero, i.size)) = some (some (.agg (boolRow fun _ => false)), 70) := by kernel_rfl
/-- 'var t [70]bool' -/
theorem wpList_newB {ops : Array Oper} {rest : List Oper} {o : Oper} {a : Act} {w : World} {Q : Exit → Act → World → Prop} (hg : o.guard = none) (ho : o.op = .alloc 62)
    (h : wpList Try.prog ops Q rest (a.put o.dst (.pointer (some ⟨w.heap.size, 0, none⟩))) (w.alloc (.cells (boolRow fun _ => false) 62))) : wpList Try.prog ops Q (o :: rest) a w := by
  refine wpList_plain hg fun K hK => ?_
  obtain ⟨hz, _⟩ := zero_of_info (P := Try.prog) bools_info
  unfold Oper.wp execOp
  simp only [ho, Instr.alloc, Sem.run_bind, hz, Result.andThen_ok]
  exact hK _ _ h
/-- the two bytes of a name, as a string -/
theorem name_str (w : World) (q r : Nat) (hq : q < 7) (hr : r < 10) :
    (convert 22 9 (.slice (some ⟨w.heap.size, 0, none⟩) 2 2)).run Try.prog (w.alloc (.cells #[.int .u8 (97 + (q : Int)), .int .u8 (48 + (r : Int))] 5)) = .ok (.string ⟨(nm (q * 10 + r)).toArray⟩) (w.alloc (.cells #[.int .u8 (97 + (q : Int)), .int .u8 (48 + (r : Int))] 5)) := by
  have e : [Value.int .u8 (97 + (q : Int)), Value.int .u8 (48 + (r : Int))] = (nm (q * 10 + r)).map bv := by
    unfold nm
    rw [List.map_cons, List.map_cons, List.map_nil, bv_ofNat _ (by omega), bv_ofNat _ (by omega)]
    have h1 : (q * 10 + r) / 10 = q := by omega
    have h2 : (q * 10 + r) % 10 = r := by omega
    rw [h1, h2]; simp
  have hl := lits_lie (w := w) rfl [Value.int .u8 (97 + (q : Int)), Value.int .u8 (48 + (r : Int))] 5
  rw [e] at hl
  have hl2 : Lies (w.alloc (.cells #[.int .u8 (97 + (q : Int)), .int .u8 (48 + (r : Int))] 5)) (w.heap.size + 1) 1 (some ⟨w.heap.size, 0, none⟩) 2 ((nm (q * 10 + r)).map bv) := by rw [← e] at hl ⊢; exact hl
  exact run_str (P := Try.prog) _ 22 9 5 Try.underlying22 Try.underlying5 Try.underlying9 2 hl2
end Go.Proofs.Yteelmgmigfeabaa
