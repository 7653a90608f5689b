/-
  TextsSize: how long texts are together.
-/
import Derived.Test.YtjnmckchicmmgaaGreatDoorBase
import Derived.LoopTactic
namespace Go.Proofs.YtjnmckchicmmgaaGreatDoor
open Go.RowKit
set_option linter.unusedVariables false

/-- the sizes of texts -/
def sizes (T : List ByteArray) : List Nat := T.map ByteArray.size
theorem at_of {α : Type} {l : List α} {f : α → Value} {k : Nat} {u : Value} (h : (l.map f)[k]? = some u) : ∃ x, l[k]? = some x ∧ u = f x := by
  rw [List.getElem?_map] at h
  cases hx : l[k]? with
  | none => rw [hx] at h; cases h
  | some x => rw [hx] at h; injection h with h; exact ⟨x, rfl, h.symm⟩
theorem sums_le (zs : List Nat) (k : Nat) : (zs.take k).sum ≤ zs.sum := by
  induction zs generalizing k with
  | nil => simp
  | cons z zs ih => cases k with
    | zero => simp
    | succ k => simp; exact ih k

theorem mem_sizes (T : List ByteArray) (s : ByteArray) (h : s ∈ T) : s.size ≤ (sizes T).sum := by
  induction T with
  | nil => cases h
  | cons a T ih =>
    have h2 : (sizes (a :: T)).sum = a.size + (sizes T).sum := by simp [sizes]
    rw [h2]
    rcases List.mem_cons.1 h with rfl | h
    · omega
    · have := ih h; omega

set_option maxHeartbeats 2000000 in
theorem textsSize_any (A : Option Addr) (n c B : Nat) (T : List ByteArray) (w : World) (h : Lies w B 1 A n (T.map Value.string)) (hz : ∀ s ∈ T, s.size ≤ 140737488351232) (hn : n ≤ 140737488351232) :
    Calls Tryz.prog 4 #[.slice A n c] w fun e w' => ∃ v : Nat, e = .returned (.int .i64 (v : Int)) ∧ (v ≤ 1048576 → v = n + (sizes T).sum) ∧ v ≤ n + (sizes T).sum ∧ v ≤ 281474976710656 ∧ w = w' := by
  have HN := Lib.hid h; clear h
  have HZ := Lib.hid hz; clear hz
  go_enter Tryz.func4, Tryz.ntmps4
  go_wp2
  go_loop [3, 4] (fun t i => ∃ k v : Nat, k ≤ n ∧ i = .int .i64 (k : Int) ∧ t = .int .i64 (v : Int) ∧ v ≤ 281474976710656 ∧ Hid (v = n + ((sizes T).take k).sum)) (fun _ i => n - (intOf i).toNat)
  case atStart => exact ⟨0, n, Nat.zero_le _, rfl, rfl, by omega, by simp [Hid]⟩
  case round =>
    obtain ⟨k, v, hk, rfl, rfl, hv, HV⟩ := hrel
    by_cases hlt : k < n
    · have d1 : decide (k < n) = true := by simp; omega
      have d1' : decide ((k : Int) < (n : Int)) = true := by simp; omega
      by_cases hle : v ≤ 1048576
      · obtain ⟨b, o, u, rfl, hbB, hu, hcell⟩ := HN.out.at_ (j := k) hlt
        obtain ⟨s, hs, rfl⟩ := at_of hu
        have hsz := HZ.out s (List.mem_of_getElem? hs)
        have HS : Hid (((sizes T).take (k + 1)).sum = ((sizes T).take k).sum + s.size) := by
          unfold Hid sizes
          rw [List.take_add_one, List.getElem?_map, hs]; simp
        have d2 : decide ((v : Int) ≤ 1048576) = true := by simp; omega
        clear hs hu
        go_wp2
        go_round
        case rel => exact ⟨k + 1, v + s.size, hlt, by go_num, by go_num, by omega, by unfold Hid; rw [HS.out, HV.out]; omega⟩
        case measure => simp [intOf]; omega
      · have d2 : decide ((v : Int) ≤ 1048576) = false := by simp; omega
        go_wp2
        go_ret
        exact ⟨v, rfl, fun h => absurd h hle, by rw [HV.out]; have := sums_le (sizes T) k; omega, hv, rfl⟩
    · have d1 : decide (k < n) = false := by simp; omega
      have d1' : decide ((k : Int) < (n : Int)) = false := by simp; omega
      have HF : Hid (v = n + (sizes T).sum) := by
        unfold Hid
        rw [HV.out, List.take_of_length_le]
        have := HN.out.len
        simp at this
        simp [sizes]; omega
      go_wp2
      go_ret
      exact ⟨v, rfl, fun _ => HF.out, Nat.le_of_eq HF.out, hv, rfl⟩
end Go.Proofs.YtjnmckchicmmgaaGreatDoor
