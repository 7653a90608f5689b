/-
  Entries in two parts: what is found in each; append of entries onto a list that lies anywhere.
-/
import Derived.Test.YtghfhojpnbpjoaaSrLN
import Derived.Test.YtghfhojpnbpjoaaSrtP
namespace Go.Proofs.Ytghfhojpnbpjoaa
open Go.RowKit
set_option linter.unusedVariables false
set_option maxRecDepth 100000

theorem fromM_app {S T : List En} (hr : Rise (S ++ T)) (m : Mk) : fromM (S ++ T) m = fromM S m ++ fromM T m := by
  have h := hr.rest m
  unfold fromM
  rw [List.dropWhile_append] at h ⊢
  split
  · rename_i e
    rw [List.isEmpty_iff.1 e, List.nil_append]
  · rename_i e
    rw [if_neg e] at h
    congr 1
    symm
    cases T with
    | nil => rfl
    | cons x T =>
      have hx := h x (by simp)
      rw [List.dropWhile_cons, if_neg]
      unfold bef
      rw [decide_eq_true_eq]
      exact hx
theorem getE_app {S T : List En} (hr : Rise (S ++ T)) (k : ByteArray) (s : Nat) : getE (S ++ T) k s = (getE S k s).or (getE T k s) := by
  rw [getE_find _ hr, getE_find _ (List.pairwise_append.1 hr).1, getE_find _ (List.pairwise_append.1 hr).2.1, List.find?_append]

/-- what From tells of the last entries, as many as there are -/
theorem sfrom_all {w w' : World} {S : List En} {m : Mk} {e : Ending} (h : SFrom w (some S) m 1000 e w') (hS : S.length ≤ 300) :
    ∃ b o, e = .returned (.tuple #[.slice (some ⟨b, o, none⟩) (fromM S m).length (fromM S m).length, .int .i64 0]) ∧ Lies w' w'.heap.size 4 (some ⟨b, o, none⟩) (fromM S m).length (ecs (fromM S m)) ∧ Below w.heap.size w w' := by
  obtain ⟨hb, h1, _⟩ := h
  obtain ⟨A, c, st, N, hN, hst, hle, he, ho, _, hok⟩ := h1 S rfl
  have hf := fromM_le S m
  have hNr : N = (fromM S m).length := by rw [hN]; unfold cntM; omega
  have h1 : 1 ≤ S.length := ((okA_iff S).1 ((okF_iff S).1 hok).1).1
  have k1 := (Lies.of_own ho).takeE (m := st + N) hle
  have k2 := k1.cutE (m := st) (c := st + N) (by omega) (Nat.le_refl _)
  rw [ecs_take, ecs_drop, List.take_of_length_le (by omega), hst, fromM_drop, ← hst, show st + N - st = N from by omega] at k2
  rcases ho.2 with ⟨hv, hn0⟩ | ⟨g, cap, cur, hv, _, hh, _⟩
  · omega
  · injection hv with e1 e2 e3
    subst e1
    have hA : ∃ b o, cutE (some ⟨g, 0, none⟩) (st + N) st = some ⟨b, o, none⟩ := by
      unfold cutE
      split
      · exact ⟨_, _, rfl⟩
      · exact ⟨g, 0 + st * 4, by rw [Option.map_some, add_lit]⟩
    obtain ⟨b, o, hA⟩ := hA
    rw [hA, hNr] at k2 he
    exact ⟨b, o, he, k2, hb⟩
theorem appE_run (w : World) (b o n m c2 : Nat) (A2 : Option Addr) (l l2 : List En) (h : Lies w w.heap.size 4 (some ⟨b, o, none⟩) n (ecs l)) (h2 : Lies w w.heap.size 4 A2 m (ecs l2)) (hm : n + m ≤ 1000000) :
    ∃ A' c' w', (Builtin.append_ #[22, 22] 22 #[.slice (some ⟨b, o, none⟩) n n, .slice A2 m c2]).run Try.prog w = .ok (.slice A' (n + m) c') w' ∧ Lies w' w'.heap.size 4 A' (n + m) (ecs (l ++ l2)) ∧ Below w.heap.size w w' := by
  obtain ⟨i0, hi, hz0, hz1, hz2⟩ := info_parts entry_info
  have e12 : ecs (l ++ l2) = ecs l ++ ecs l2 := by unfold ecs; simp
  by_cases hm0 : m = 0
  · subst hm0
    have hl2 : l2 = [] := List.eq_nil_of_length_eq_zero h2.elen
    subst hl2
    refine ⟨some ⟨b, o, none⟩, n, w, ?_, by rw [List.append_nil]; exact h, Below.refl _ _⟩
    cases A2 with
    | none => simp [Builtin.append_, run_underlying Try.underlying22, sizeOf, typeInfo, hi, Builtin.lenOf, Builtin.firstCells, storeCells]
    | some a =>
      have := run_append_room_cells (P := Try.prog) w 22 22 40 i0 Try.underlying22 hi b o n n a 0 c2 [] (by simp) (fun j u q => by simp at q) (fun u q => by cases q) (by omega) (fun j q => by simp at q) (fun j q => by simp at q)
      simpa [World.setCells] using this
  · cases A2 with
    | none =>
      have := h2.len
      obtain ⟨ad, u, e, _⟩ := h2.spot 0 (by rw [this]; omega)
      cases e
    | some a =>
      have cells : ∀ {A : Addr} {xs : List Value} {k : Nat}, Lies w w.heap.size 4 (some A) k xs → ∀ j u, xs[j]? = some u → w.cell? (A.add j) = some u := fun hL j u q => by
        obtain ⟨ad, u', e, _, hx, hc⟩ := hL.spot j (List.getElem?_eq_some_iff.1 q).1
        injection e with e
        subst e
        rw [q] at hx
        injection hx with hx
        subst hx
        exact hc
      obtain ⟨v', w', hrun, hown, hg⟩ := run_append_arg_grows (P := Try.prog) w 22 22 40 i0 _ 4 48 Try.underlying22 hi hz0 hz1 hz2 rfl (by decide) ⟨b, o, none⟩ n n (ecs l) h.len (cells h) a m c2 (ecs l2) h2.len (cells h2) (by omega) (by unfold maxLen; omega) (by omega)
      obtain ⟨A', c', rfl, _⟩ := own_shape hown
      exact ⟨A', c', w', hrun, by rw [e12]; exact Lies.of_own hown, ⟨hg.os, hg.tape, hg.output, hg.size, fun k hk => hg.block k hk (by simp)⟩⟩
end Go.Proofs.Ytghfhojpnbpjoaa
