/-
  Contracts of the laws' helpers: Beyond.
-/
import Derived.Test.YtjeijgkkobmdbaaGreatDoorSame
namespace Go.Proofs.YtjeijgkkobmdbaaGreatDoor
open Go.RowKit
set_option linter.unusedVariables false
set_option maxRecDepth 100000

/-- are these sizes together too much? -/
def big (zs : List Nat) : Bool := decide (1048576 < zs.sum)
abbrev iv (n : Nat) : Value := .int .i64 (n : Int)
theorem sum_take_le (zs : List Nat) (k : Nat) : (zs.take k).sum ≤ zs.sum := by
  induction zs generalizing k with
  | nil => simp
  | cons z zs ih => cases k with
    | zero => simp
    | succ k => simp; exact ih k
theorem sum_take_succ (zs : List Nat) (k z : Nat) (h : zs[k]? = some z) : (zs.take (k + 1)).sum = (zs.take k).sum + z := by
  rw [List.take_add_one, h]; simp
theorem big_of (zs : List Nat) (k : Nat) (h : 1048576 < (zs.take k).sum) : big zs = true := by
  unfold big; have := sum_take_le zs k; simp; omega

set_option maxHeartbeats 1000000 in
theorem beyond_any (A : Option Addr) (n c : Nat) (zs : List Nat) (w : World) (h : Lies w w.heap.size 1 A n (zs.map iv)) (hz : ∀ z ∈ zs, z ≤ 4611686018427387904) (hn : n ≤ 4611686018427387904) :
    Calls Tryz.prog 4 #[.slice A n c] w fun e w' => e = .returned (.bool (big zs)) ∧ w = w' := by
  have HN := Lib.hid h; clear h
  have HZ := Lib.hid hz; clear hz
  go_enter Tryz.func4, Tryz.ntmps4
  go_wp2
  go_loop [3, 4] (fun t i => ∃ k : Nat, k ≤ n ∧ i = .int .i64 (k : Int) ∧ t = .int .i64 ((zs.take k).sum : Int) ∧ (zs.take k).sum ≤ 1048576) (fun _ i => n - (intOf i).toNat)
  case atStart => exact ⟨0, Nat.zero_le _, rfl, rfl, by simp⟩
  case round =>
    obtain ⟨k, hk, rfl, rfl, hle⟩ := hrel
    by_cases hlt : k < n
    · obtain ⟨b, o, u, rfl, hbB, hu, hcell0⟩ := HN.out.at_ (j := k) hlt
      have hzs : k < zs.length := by have := HN.out.len; simp at this; omega
      obtain ⟨z, hz⟩ : ∃ z, zs[k]? = some z := ⟨zs[k], List.getElem?_eq_getElem hzs⟩
      have hzle := HZ.out z (List.mem_of_getElem? hz)
      rw [List.getElem?_map, hz] at hu
      injection hu with hu
      subst hu
      have HS := Lib.hid (sum_take_succ zs k z hz)
      clear hz hzs
      generalize hs : (zs.take k).sum = s at *
      clear hs
      by_cases hbig : 1048576 < s + z
      · have HB := Lib.hid (big_of zs (k + 1) (by rw [HS.out]; exact hbig))
        go_wp2
        go_ret
        exact ⟨by rw [HB.out]; rfl, rfl⟩
      · go_wp2
        go_round
        case rel => exact ⟨k + 1, hlt, by go_num, by rw [HS.out]; go_num, by rw [HS.out]; omega⟩
        case measure => simp [intOf]; omega
    · have hkn : k = n := by omega
      have hb : big zs = false := by
        unfold big
        have hl := HN.out.len
        simp at hl
        rw [List.take_of_length_le (by omega)] at hle
        simp; omega
      have HB := Lib.hid hb
      clear hb hkn
      go_wp2
      go_ret
      exact ⟨by rw [HB.out]; rfl, rfl⟩

end Go.Proofs.YtjeijgkkobmdbaaGreatDoor
