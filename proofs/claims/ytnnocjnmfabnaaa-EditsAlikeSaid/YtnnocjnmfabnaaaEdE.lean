/-
  Package edits: a set's files in order: slices.SortFunc at files.
-/
import Derived.Test.YtnnocjnmfabnaaaEdD
import Derived.Test.YtnnocjnmfabnaaaLayF
import Derived.Shelf.SlSortCmp.NoneTotal
namespace Go.Proofs.Ytnnocjnmfabnaaa
open Go.RowKit
open Go.Sort (flatK get_flatK size_flatK HoldsK putRowK mapBlock onCells putCells)
set_option linter.unusedVariables false
set_option maxRecDepth 100000

instance : Inhabited Fi := ⟨noFi⟩
theorem fiCs_len (x : Fi) : (Fi.cs x).length = 4 := rfl
theorem flatK_fcs (d : Array Fi) : (flatK Fi.cs 4 d).toList = fcs d.toList := by
  apply List.ext_getElem?
  intro t
  by_cases h : t < d.size * 4
  · have h4 : t / 4 < d.size := by omega
    have e1 : (flatK Fi.cs 4 d).toList[t]? = some ((Fi.cs d[t / 4]!)[t % 4]!) := by
      rw [Array.getElem?_toList, getElem?_pos _ t (by rw [size_flatK]; exact h), ← get_flatK Fi.cs 4 d t h, getElem!_pos _ t (by rw [size_flatK]; exact h)]
    have e2 : d.toList[t / 4]? = some d[t / 4]! := by rw [Array.getElem?_toList, getElem?_pos d _ h4, getElem!_pos d _ h4]
    have e3 := flat_get Fi.cs 4 fiCs_len d.toList (t / 4) (t % 4) _ e2 (Nat.mod_lt _ (by decide))
    rw [show t / 4 * 4 + t % 4 = t from by omega] at e3
    rw [e1]
    unfold fcs
    rw [e3]
    have h5 : t % 4 < (Fi.cs d[t / 4]!).length := by rw [fiCs_len]; exact Nat.mod_lt _ (by decide)
    rw [getElem?_pos (Fi.cs d[t / 4]!) (t % 4) h5, getElem!_pos (Fi.cs d[t / 4]!) (t % 4) h5]
  · rw [List.getElem?_eq_none (by rw [Array.length_toList, size_flatK]; omega), List.getElem?_eq_none (by rw [fcs_len, Array.length_toList]; omega)]
/-- no later one stands ahead of an earlier one -/
def NoneAhead (l : List Fi) : Prop := ∀ (i j : Nat) (x y : Fi), i < j → l[i]? = some x → l[j]? = some y → ¬ ltFi y x
theorem NoneAhead.up {l : List Fi} (h : NoneAhead l) (hn : (nms l).Nodup) : UpFi l := by
  unfold UpFi
  rw [List.pairwise_iff_getElem]
  intro i j hi hj hij
  have h1 := h i j _ _ hij (List.getElem?_eq_getElem hi) (List.getElem?_eq_getElem hj)
  have h2 : l[i].num ≠ l[j].num := by
    unfold nms at hn
    rw [List.Nodup, List.pairwise_iff_getElem] at hn
    have := hn i j (by simpa using hi) (by simpa using hj) hij
    simpa using this
  unfold ltFi at *
  omega

theorem sortF_any (g n c base : Nat) (l : List Fi) (w : World) (ho : w.ownsRow base 37 4 (.slice (some ⟨g, 0, none⟩) n c) n (fcs l)) (hsz : n < 4611686018427387904) :
    Calls Try.prog 36 #[.slice (some ⟨g, 0, none⟩) n c, .func (.func 23) #[] #[]] w fun e w' =>
      e = .returned (.tuple #[]) ∧ ∃ l' : List Fi, l'.Perm l ∧ NoneAhead l' ∧ w'.ownsRow base 37 4 (.slice (some ⟨g, 0, none⟩) n c) n (fcs l') ∧ w.grownBy w' (some g) := by
  have hl : l.length = n := by have := ho.1; rw [fcs_len] at this; omega
  rcases ho.2 with ⟨hv, _⟩ | ⟨g', cap, cur, hv, hb, hh, h1, h2, h3, h4⟩
  · cases hv
  · injection hv with e1 e2 e3
    injection e1 with e1
    injection e1 with e1 _
    subst e1 e3
    have hH : HoldsK Fi.cs 4 w g 0 l.toArray := by
      intro j hj
      rw [size_flatK] at hj
      have hj' : j < n * 4 := by simpa [hl] using hj
      refine ⟨?_, by simp [World.frozen?, hh]⟩
      rw [Nat.zero_add, cell_of_row _ _ j _ _ (0, 0) hh]
      have e1 : cur.toList[j]? = (fcs l)[j]? := by rw [← h4, List.getElem?_take, if_pos hj']
      rw [← Array.getElem?_toList, e1]
      have e2 := flatK_fcs l.toArray
      rw [show l.toArray.toList = l from rfl] at e2
      rw [← e2, Array.getElem?_toList, getElem?_pos _ j (by rw [size_flatK]; exact hj), getElem!_pos _ j (by rw [size_flatK]; exact hj)]
      rfl
    have hcmp : CmpLays Try.prog 23 #[] Fi.cs 4 cmpF g 0 l.toArray.size w := fun m os dk _ x y => inord1_any x y _
    have eg : ∀ args w, (callFunc 23 args).run Try.prog w = .ok (.enter 23 args) w := enters_of Try.func23 (by kernel_rfl) rfl
    have key := AnyQ.slices_SortFunc msortf 4 Try.isAgg37 Try.sizeOf37 Fi.cs fiCs_len (fun x v hv => fcs_one [x] v (by simpa [fcs] using hv)) cmpF swo_cmpF _ #[] g 0 c l.toArray w eg hcmp hH (Array.getElem?_eq_some_iff.1 hh).1 (by simpa [hl] using hsz)
    have hsl : l.toArray.size = n := by simpa using hl
    rw [hsl] at key
    refine Calls.mono key ?_
    rintro e w' ⟨he, d', m, os, ⟨p1, _, p3⟩, hs, rfl⟩
    refine ⟨he, d'.toList, ?_, ?_, ?_, ?_⟩
    · have q1 : d'.extract 0 n = d' := by rw [← hsl, ← p1]; simp
      have q2 : l.toArray.extract 0 n = l.toArray := by rw [← hsl]; simp
      rw [q1, q2] at p3
      exact p3
    · intro i j x y hij hx hy
      rw [Array.getElem?_toList] at hx hy
      have hjn : j < d'.size := (Array.getElem?_eq_some_iff.1 hy).1
      have hin : i < d'.size := by omega
      have := hs i j (Nat.zero_le _) hij (by rw [← hsl, ← p1]; exact hjn)
      rw [getElem?_pos d' j hjn] at hy
      rw [getElem?_pos d' i hin] at hx
      injection hx with hx
      injection hy with hy
      rw [getElem!_pos d' j hjn, getElem!_pos d' i hin, hx, hy, ltOf_cmpF] at this
      simpa using this
    · have hd : d'.size = n := by rw [p1, hsl]
      refine ⟨by rw [fcs_len, Array.length_toList, hd], .inr ⟨g, c, putCells id 0 (flatK Fi.cs 4 d') cur, rfl, hb, ?_, h1, h2, ?_, ?_⟩⟩
      · show (Go.Sort.grow (putRowK Fi.cs 4 (Go.Sort.ahead w m) g 0 d') os).heap[g]? = _
        rw [Go.Sort.heap_grow_old _ _ (by simp [putRowK, Go.Sort.putRow, mapBlock, Go.Sort.ahead]; exact (Array.getElem?_eq_some_iff.1 hh).1)]
        show (w.heap.modify g (onCells _))[g]? = _
        rw [Array.getElem?_modify, if_pos rfl, hh]
        rfl
      · unfold putCells; rw [Array.size_mapIdx]; exact h3
      · apply List.ext_getElem?
        intro t
        rw [List.getElem?_take]
        by_cases ht : t < n * 4
        · rw [if_pos ht, ← flatK_fcs, Array.getElem?_toList, Array.getElem?_toList]
          have hc : t < cur.size := by rw [h3]; have := Nat.mul_le_mul_right 4 h1; omega
          have hf : t < (flatK Fi.cs 4 d').size := by rw [size_flatK, hd]; exact ht
          unfold putCells
          rw [Array.getElem?_mapIdx, getElem?_pos cur t hc, Option.map_some, if_pos ⟨Nat.zero_le _, by rw [Nat.zero_add]; exact hf⟩, Nat.sub_zero, getElem?_pos (flatK Fi.cs 4 d') t hf, getElem!_pos (flatK Fi.cs 4 d') t hf]
          rfl
        · rw [if_neg ht, List.getElem?_eq_none (by rw [fcs_len, Array.length_toList, hd]; omega)]
    · refine ⟨rfl, rfl, rfl, ?_, ?_⟩
      · show w.heap.size ≤ ((w.heap.modify g (onCells _)) ++ os).size
        rw [Array.size_append, Array.size_modify]; omega
      · intro k hk hne
        show ((w.heap.modify g (onCells _)) ++ os)[k]? = _
        rw [Array.getElem?_append_left (by rw [Array.size_modify]; exact hk), Array.getElem?_modify, if_neg (fun e => hne (by rw [e]))]
theorem sortF_nil (w : World) : Calls Try.prog 36 #[.slice none 0 0, .func (.func 23) #[] #[]] w fun e w' => e = .returned (.tuple #[]) ∧ w' = w :=
  AnyF.slices_SortFunc_none msortf none 0 _ w
end Go.Proofs.Ytnnocjnmfabnaaa
