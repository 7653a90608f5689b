/-
  How many bytes a list of entries weighs; contract of the laws' helper EntriesSize.
-/
import Derived.Test.YtodmgmfanpnabaaGreatDoorMarks
import Derived.BigQuiet
import Derived.LoopTactic
namespace Go.Proofs.YtodmgmfanpnabaaGreatDoor
open Go.RowKit
set_option linter.unusedVariables false

def esum (l : List En) : Nat := (l.map fun x => x.m.k.size + x.x.size).sum
theorem esum_take (l : List En) (k : Nat) (x : En) (h : l[k]? = some x) : esum (l.take (k + 1)) = esum (l.take k) + (x.m.k.size + x.x.size) := by
  unfold esum
  rw [List.take_add_one, h]; simp
theorem esum_mem (l : List En) (x : En) (h : x ∈ l) : x.m.k.size + x.x.size ≤ esum l := by
  induction l with
  | nil => cases h
  | cons a l ih =>
    have e : esum (a :: l) = a.m.k.size + a.x.size + esum l := by unfold esum; simp
    rcases List.mem_cons.1 h with rfl | h
    · omega
    · have := ih h; omega
theorem esum_take_le (l : List En) (k : Nat) : esum (l.take k) ≤ esum l := by
  have e : esum l = esum (l.take k) + esum (l.drop k) := by
    unfold esum
    rw [← List.sum_append, ← List.map_append, List.take_append_drop]
  omega
theorem esum_drop_le (l : List En) (k : Nat) : esum (l.drop k) ≤ esum l := by
  have e : esum l = esum (l.take k) + esum (l.drop k) := by
    unfold esum
    rw [← List.sum_append, ← List.map_append, List.take_append_drop]
  omega
set_option maxHeartbeats 1000000 in
theorem entriesSize_any (A : Option Addr) (n c : Nat) (l : List En) (w : World) (h : Lies w w.heap.size 4 A n (ecs l)) (hm : ∀ x ∈ l, x.m.s < 18446744073709551616 ∧ x.m.k.size ≤ 140737488351232 ∧ x.x.size ≤ 140737488351232) (hn : n ≤ 140737488351232) :
    Calls Tryz.prog 30 #[.slice A n c] w fun e w' => ∃ z q : Nat, e = .returned (.int .i64 (z : Int)) ∧ w' = w.drewN q ∧ (z ≤ 1048576 → z = n + esum l) := by
  have hll := h.elen
  have HL := Lib.hid h; have HM := Lib.hid hm
  have HF : Hid (l.take n = l) := List.take_of_length_le (by omega)
  clear h hm hll
  go_enter Tryz.func30, Tryz.ntmps30
  go_wp2
  go_loopw [3, 4] (fun t i wr => ∃ k q : Nat, k ≤ n ∧ i = .int .i64 (k : Int) ∧ t = .int .i64 ((n + esum (l.take k) : Nat) : Int) ∧ n + esum (l.take k) ≤ 281474978000000 ∧ wr = w.drewN q) (fun _ i _ => n - (intOf i).toNat)
  case atStart => exact ⟨0, 0, Nat.zero_le _, rfl, by simp [esum], by simp [esum]; omega, rfl⟩
  case round =>
    obtain ⟨k, q, hk, rfl, rfl, hle, rfl⟩ := hrel
    by_cases hlt : k < n
    · obtain ⟨b, o, x, rfl, hbB, hu, c0, _, _, c3⟩ := HL.out.entry hlt
      obtain ⟨_, hk1, hx1⟩ := HM.out x (List.mem_of_getElem? hu)
      have HS := Lib.hid (esum_take l k x hu)
      obtain ⟨s, hs⟩ : ∃ s, n + esum (l.take k) = s := ⟨_, rfl⟩
      rw [hs] at hle ⊢
      have HZ := Lib.hid hs
      have hi0 : (0 : Int) ≤ (k : Int) := by omega
      have hi1 : (k : Int) < (n : Int) := by omega
      clear hu hs
      by_cases hbig : 1048576 < s
      · have hd : decide ((s : Int) ≤ 1048576) = false := by simp; omega
        go_wp2
        go_ret
        exact ⟨s, q, rfl, rfl, fun h => by omega⟩
      · have hd : decide ((s : Int) ≤ 1048576) = true := by simp; omega
        have hle2 : s + (x.m.k.size + x.x.size) ≤ 281474978000000 := by omega
        have w1 : IntKind.i64.wrap ((s : Int) + (x.m.k.size : Int)) = (s : Int) + (x.m.k.size : Int) := IntWalk.i64_in _ (by omega)
        have w2 : IntKind.i64.wrap ((s : Int) + (x.m.k.size : Int) + (x.x.size : Int)) = (s : Int) + (x.m.k.size : Int) + (x.x.size : Int) := IntWalk.i64_in _ (by omega)
        go_wp2
        go_quiet (fail)
        clear w1 w2
        go_wp2
        go_roundw
        case rel => exact ⟨k + 1, _, hlt, by go_num, by rw [HS.out, ← Nat.add_assoc, HZ.out]; simp; omega, by rw [HS.out, ← Nat.add_assoc, HZ.out]; exact hle2, by first | rfl | (rw [World.drewN_drewN])⟩
        case measure => simp [intOf]; omega
    · obtain rfl : n = k := by omega
      rw [HF.out] at hle ⊢
      obtain ⟨z, hz⟩ : ∃ z, n + esum l = z := ⟨_, rfl⟩
      rw [hz] at hle ⊢
      have HZ := Lib.hid hz
      clear hz
      go_wp2
      go_ret
      exact ⟨z, q, rfl, rfl, fun _ => HZ.out.symm⟩
end Go.Proofs.YtodmgmfanpnabaaGreatDoor
