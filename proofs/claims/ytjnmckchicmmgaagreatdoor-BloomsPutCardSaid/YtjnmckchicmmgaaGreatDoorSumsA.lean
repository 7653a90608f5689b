/-
  Contracts of package sums: entry; arrays of numbers in blocks of their own.
-/
import Derived.Test.YtjnmckchicmmgaaGreatDoorMem
import Derived.Test.YtjnmckchicmmgaaGreatDoorCrc
import Derived.Deep.WholeRow
import Derived.Laws.BitsAllLaws
namespace Go.Proofs.YtjnmckchicmmgaaGreatDoor
open Go.RowKit
set_option linter.unusedVariables false

/-- a number of 32 bits as a value -/
abbrev nv (x : Nat) : Value := .int .u32 (x : Int)
def arr (T : List Nat) : Array Value := (T.map nv).toArray
theorem arr_size (T : List Nat) : (arr T).size = T.length := by simp [arr]
theorem arr_one (T : List Nat) : (arr T).all (·.oneCell') = true := by
  rw [Array.all_eq_true_iff_forall_mem]
  intro x hx
  simp only [arr, List.mem_toArray, List.mem_map] at hx
  obtain ⟨a, _, rfl⟩ := hx
  rfl
theorem arr_at (T : List Nat) (k : Nat) : (arr T)[k]? = T[k]?.map nv := by simp [arr]
/-- an array of numbers that lies in a block of its own -/
def Tab (w : World) (g : Nat) (t : TypeId) (T : List Nat) : Prop := w.heap[g]? = some (.cells (arr T) t (0, 0))
section
variable {w w' : World} {g : Nat} {t : TypeId} {T : List Nat}
theorem Tab.lt (h : Tab w g t T) : g < w.heap.size := (Array.getElem?_eq_some_iff.1 h).1
theorem Tab.cell (h : Tab w g t T) {k x : Nat} (hx : T[k]? = some x) : w.cell? ⟨g, k, none⟩ = some (nv x) := by
  rw [cell_of_row w g k _ t (0, 0) h, arr_at, hx]; rfl
theorem Tab.frozen (h : Tab w g t T) (k : Nat) : w.frozen? ⟨g, k, none⟩ = false := by
  unfold Tab at h
  simp [World.frozen?, h]
theorem Tab.new (w : World) (t : TypeId) (T : List Nat) : Tab (w.alloc (.cells (arr T) t)) w.heap.size t T := heap_alloc_new w _
theorem Tab.alloc (h : Tab w g t T) (o : Obj) : Tab (w.alloc o) g t T := (Below.heap_alloc w o g h.lt).trans h
theorem Tab.set (h : Tab w g t T) (k x : Nat) : Tab (w.setCell ⟨g, k, none⟩ (nv x)) g t (T.set k x) := by
  unfold Tab at h ⊢
  have e : (arr T).setIfInBounds k (nv x) = arr (T.set k x) := by
    apply Array.ext'
    simp [arr, List.map_set]
  simp [World.setCell, Array.getElem?_modify, h, e]
theorem Tab.far (h : Tab w g t T) {p : Addr} (hp : g ≠ p.block) (u : Value) : Tab (w.setCell p u) g t T := (Below.heap_setCell w p u g hp).trans h
theorem Tab.below {B : Nat} (h : Tab w g t T) (hb : Below B w w') (hg : g < B) : Tab w' g t T := (hb.block g hg).trans h
theorem Tab.drew (h : Tab w g t T) : Tab w.drew g t T := h
theorem Tab.drewN (h : Tab w g t T) (q : Nat) : Tab (w.drewN q) g t T := h
theorem Tab.setRow (h : Tab w g t T) (T' : List Nat) : Tab (w.setRow g (arr T')) g t T' := by
  unfold Tab at h ⊢
  simp [World.setRow, Array.getElem?_modify, h]
theorem Tab.setRow_far (h : Tab w g t T) {g' : Nat} (hp : g ≠ g') (cs : Array Value) : Tab (w.setRow g' cs) g t T := by
  unfold Tab at h ⊢
  simp [World.setRow, Array.getElem?_modify, h, Ne.symm hp]
end
theorem below_drew {B : Nat} {a w : World} (h : Below B a w) : Below B a w.drew := ⟨h.os, h.tape, h.output, h.size, h.block⟩
theorem below_setRow {B g : Nat} {a w : World} (h : Below B a w) (hg : B ≤ g) (cs : Array Value) : Below B a (w.setRow g cs) := by
  refine ⟨h.os, h.tape, h.output, ?_, fun k hk => ?_⟩
  · have := h.size; simpa [World.setRow] using this
  · rw [← h.block k hk]
    simp [World.setRow, Array.getElem?_modify]
    omega

set_option maxHeartbeats 1000000 in
theorem entry_any (n : Nat) (w : World) (hn : n < 4294967296) :
    Calls Tryz.prog 59 #[.int .u32 (n : Int)] w fun e w' => e = .returned (.int .u32 ((Crc.ent n : Nat) : Int)) ∧ w' = w := by
  go_enter Tryz.func59, Tryz.ntmps59
  go_wp2
  go_loopw [0, 4] (fun v i wr => ∃ k : Nat, k ≤ 8 ∧ i = .int .i64 (k : Int) ∧ v = .int .u32 ((Crc.sts k n : Nat) : Int) ∧ wr = w) (fun _ i _ => 8 - (intOf i).toNat)
  case atStart => exact ⟨0, Nat.zero_le _, rfl, rfl, rfl⟩
  case round =>
    obtain ⟨k, hk, rfl, rfl, rfl⟩ := hrel
    have hm := Crc.sts_lt k hn
    by_cases hlt : k < 8
    · have hs := Crc.sts_succ k n
      generalize Crc.sts k n = m at hs hm ⊢
      obtain ⟨d, hd⟩ : ∃ d, d = m / 2 := ⟨_, rfl⟩
      have hd2 : (m : Int) / 2 = (d : Int) := by omega
      have hdl : d < 4294967296 := by omega
      have hand := u32_and_nat m 1 hm (by omega)
      rw [Nat.and_one_is_mod] at hand
      have hxor := u32_xor_nat d 2197175160 hdl (by omega)
      unfold Crc.st at hs
      rw [← hd] at hs
      by_cases hodd : m % 2 = 1
      · rw [if_pos hodd] at hs
        rw [hodd] at hand
        generalize d ^^^ 2197175160 = r at hxor hs
        have hand2 : bits .and .u32 (m : Int) 1 = 1 := hand
        have hxor2 : bits .xor .u32 (d : Int) 2197175160 = (r : Int) := hxor
        clear hand hxor hd hodd hk
        go_wp2
        go_roundw
        case rel => exact ⟨k + 1, hlt, by go_num, by rw [hs], by first | rfl | trivial⟩
        case measure => simp [intOf]; omega
      · rw [if_neg hodd] at hs
        have h0 : m % 2 = 0 := by omega
        rw [h0] at hand
        have hand2 : bits .and .u32 (m : Int) 1 = 0 := hand
        clear hand hxor hd hodd hk h0
        go_wp2
        go_roundw
        case rel => exact ⟨k + 1, hlt, by go_num, by rw [hs], by first | rfl | trivial⟩
        case measure => simp [intOf]; omega
    · obtain rfl : k = 8 := by omega
      go_wp2
      go_ret
      exact ⟨rfl, rfl⟩
end Go.Proofs.YtjnmckchicmmgaaGreatDoor
