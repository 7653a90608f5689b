/-
  Plain mathematics: files of parts of entries.
-/
import Derived.Test.YtghfhojpnbpjoaaSrMQ
namespace Go.Proofs.Ytghfhojpnbpjoaa
open Go.RowKit
set_option linter.unusedVariables false

/-- where the index stands, as the last bytes tell -/
theorem flen_tail {S : List En} (h : okF S = true) : flen ((filB S).drop ((filB S).length - 12)) = (blkB S).length := by
  have hl := filB_len S
  have h1 := filB_le h
  have e : filB S = (blkB S ++ (fr (idxB S) ++ fr (Blm.filt (keyB S)))) ++ tailF (blkB S).length ((blkB S).length + (fr (idxB S)).length) S.length := by unfold filB; simp only [List.append_assoc]
  have hm : (filB S).length - 12 = (blkB S ++ (fr (idxB S) ++ fr (Blm.filt (keyB S)))).length := by simp only [List.length_append, fr_len]; omega
  rw [hm, e, List.drop_left' rfl]
  unfold tailF; exact flen_four _ _ (by omega)
theorem blkB_take (S : List En) : (filB S).take (blkB S).length = blkB S := by unfold filB; exact List.take_left' rfl
theorem blkAt_take (S : List En) {i j : Nat} (h : i < j) : blkAt (S.take (16 * j)) i = blkAt S i := by
  unfold blkAt
  rw [List.drop_take, List.take_take, Nat.min_eq_left (by omega)]
theorem blkAt_drop (S : List En) (i j : Nat) : blkAt (S.drop (16 * j)) i = blkAt S (j + i) := by
  unfold blkAt
  rw [List.drop_drop, show 16 * j + 16 * i = 16 * (j + i) from by omega]
theorem blkB_split {S : List En} {j : Nat} (h : 16 * j ≤ S.length) : blkB S = blkB (S.take (16 * j)) ++ blkB (S.drop (16 * j)) := by
  have n1 : nB (S.take (16 * j)) = j := by unfold nB; rw [List.length_take]; omega
  have n2 : nB (S.drop (16 * j)) = nB S - j := by unfold nB; rw [List.length_drop]; omega
  have n3 : nB S = j + (nB S - j) := by unfold nB; omega
  unfold blkB blkTo
  rw [← List.flatMap_append]
  congr 1
  rw [n1, n2]
  conv => lhs; rw [n3]
  unfold recsTo
  rw [List.range_add, List.map_append, List.map_map]
  congr 1
  · apply List.map_congr_left
    intro i hi
    rw [List.mem_range] at hi
    rw [blkAt_take S hi]
  · apply List.map_congr_left
    intro i _
    show encB (blkAt S (j + i)) = _
    rw [blkAt_drop]
theorem okF_take {S : List En} (h : okF S = true) {k : Nat} (h1 : 1 ≤ k) (h2 : k ≤ S.length) : okF (S.take k) = true := by
  obtain ⟨ha, hn⟩ := (okF_iff S).1 h
  exact (okF_iff _).2 ⟨okA_sub ha (List.take_sublist _ _) (by rw [List.length_take]; omega), by rw [List.length_take]; omega⟩
theorem okF_drop {S : List En} (h : okF S = true) {k : Nat} (h2 : k < S.length) : okF (S.drop k) = true := by
  obtain ⟨ha, hn⟩ := (okF_iff S).1 h
  exact (okF_iff _).2 ⟨okA_sub ha (List.drop_sublist _ _) (by rw [List.length_drop]; omega), by rw [List.length_drop]; omega⟩
end Go.Proofs.Ytghfhojpnbpjoaa
