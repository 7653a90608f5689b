/-
  Contract of layer 4's helper 'great'.
-/
import Derived.Test.YtjeijgkkobmdbaaMarks
namespace Go.Proofs.Ytjeijgkkobmdbaa
open Go.RowKit
set_option linter.unusedVariables false

set_option maxHeartbeats 1000000 in
theorem great_any (A : Option Addr) (n c : Nat) (l : List Mk) (w : World) (h : Lies w w.heap.size 3 A n (mcs l)) (hm : ∀ m ∈ l, m.k.size ≤ 140737488351232) (hn : n ≤ 1000) :
    Calls Try.prog 22 #[.slice A n c] w fun e w' => e = .returned (.bool (decide (100000 < ksum l))) ∧ w = w' := by
  have hll := h.mlen
  have HL := Lib.hid h; have HM := Lib.hid hm
  have HF : Hid (l.take n = l) := List.take_of_length_le (by omega)
  clear h hm hll
  go_enter Try.func22, Try.ntmps22
  go_wp2
  go_loop [3, 4] (fun t i => ∃ k : Nat, k ≤ n ∧ i = .int .i64 (k : Int) ∧ t = .int .i64 (ksum (l.take k) : Int) ∧ ksum (l.take k) ≤ k * 140737488351232) (fun _ i => n - (intOf i).toNat)
  case atStart => exact ⟨0, Nat.zero_le _, rfl, rfl, by simp [ksum]⟩
  case round =>
    obtain ⟨k, hk, rfl, rfl, hle⟩ := hrel
    by_cases hlt : k < n
    · obtain ⟨b, o, m, rfl, hbB, hu, c0, _, _⟩ := HL.out.mark hlt
      have hms := HM.out m (List.mem_of_getElem? hu)
      have HS := Lib.hid (ksum_take l k m hu)
      obtain ⟨z, hz⟩ : ∃ z, ksum (l.take k) = z := ⟨_, rfl⟩
      rw [hz] at hle ⊢
      have HZ := Lib.hid hz
      have hi0 : (0 : Int) ≤ (k : Int) := by omega
      have hi1 : (k : Int) < (n : Int) := by omega
      clear hu hz
      go_wp2
      go_round
      case rel => exact ⟨k + 1, hlt, by go_num, by rw [HS.out, HZ.out]; simp, by rw [HS.out, HZ.out, Nat.succ_mul]; omega⟩
      case measure => simp [intOf]; omega
    · obtain rfl : n = k := by omega
      rw [HF.out] at hle ⊢
      obtain ⟨z, hz⟩ : ∃ z, ksum l = z := ⟨_, rfl⟩
      rw [hz] at hle ⊢
      have HZ := Lib.hid hz
      clear hz
      have hd : decide ((100000 : Int) < (z : Int)) = decide (100000 < z) := by
        by_cases h : 100000 < z
        · rw [decide_eq_true h, decide_eq_true (by omega)]
        · rw [decide_eq_false h, decide_eq_false (by omega)]
      go_wp2
      go_ret
      exact ⟨by rw [HZ.out]; rfl, rfl⟩

/-- elements of k cells that a literal lays -/
theorem lits_k {w : World} (vs : List Value) (n k : Nat) (t : TypeId) (hl : vs.length = n * k) (hk : 0 < k) : Lies (w.alloc (.cells vs.toArray t)) (w.alloc (.cells vs.toArray t)).heap.size k (some ⟨w.heap.size, 0, none⟩) n vs := by
  refine ⟨hl, fun j hj => ⟨_, vs[j], rfl, by simp, List.getElem?_eq_getElem hj, ?_⟩⟩
  rw [add_lit]
  have h : (w.alloc (.cells vs.toArray t)).heap[w.heap.size]? = some (.cells vs.toArray t (0, 0)) := heap_alloc_new w _
  rw [Nat.zero_add, cell_of_row _ w.heap.size j vs.toArray t (0, 0) h]
  simp [hj]
theorem great_lit (l : List Mk) (w : World) (n g : Nat) (cs : Array Value) (hcs : cs = (mcs l).toArray) (hg : w.heap.size = g) (hn : l.length = n) (hn2 : n ≤ 1000) (hm : ∀ m ∈ l, m.k.size ≤ 140737488351232) (b : Bool) (hb : decide (100000 < ksum l) = b) :
    Calls Try.prog 22 #[.slice (some ⟨g, 0, none⟩) n n] (w.alloc (.cells cs 24)) fun e w' => e = .returned (.bool b) ∧ Below w.heap.size w w' := by
  subst hcs hg hn hb
  refine (great_any _ l.length l.length l _ (lits_k (mcs l) l.length 3 24 (mcs_len l) (by decide)) hm hn2).mono fun e w' ⟨he, hw⟩ => ?_
  subst hw
  exact ⟨he, (Below.refl _ _).alloc (Nat.le_refl _) _⟩
end Go.Proofs.Ytjeijgkkobmdbaa
