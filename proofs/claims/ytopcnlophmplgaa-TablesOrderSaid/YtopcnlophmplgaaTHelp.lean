/-
  Contracts of layer 7's helpers: entry, many, fine.
-/
import Derived.Test.YtopcnlophmplgaaTabG
import Derived.Test.YtopcnlophmplgaaSameE
namespace Go.Proofs.Ytopcnlophmplgaa
open Go.RowKit
set_option linter.unusedVariables false
set_option maxRecDepth 100000

/-- an entry with a value; gone, if it has none -/
def mkE (k : ByteArray) (s : Nat) (v : ByteArray) : En := ⟨⟨k, s, v.toList.isEmpty⟩, v⟩
theorem entry_any (k : ByteArray) (s : Nat) (v : ByteArray) (w : World) :
    Calls Try.prog 33 #[.string k, .int .u64 (s : Int), .string v] w fun e w' => e = .returned (mkE k s v).v ∧ Below w.heap.size w w' := by
  go_enter Try.func33, Try.ntmps33
  go_wp2
  have h : (w.alloc (Obj.cells #[Value.string k, Value.int IntKind.u64 (s : Int), Value.bool v.toList.isEmpty, Value.string v] 48)).heap[w.heap.size]? = some (.cells #[Value.string k, Value.int IntKind.u64 (s : Int), Value.bool v.toList.isEmpty, Value.string v] 48 (0, 0)) := heap_alloc_new w _
  have hb : Below w.heap.size w (w.alloc (Obj.cells #[Value.string k, Value.int IntKind.u64 (s : Int), Value.bool v.toList.isEmpty, Value.string v] 48)) := (Below.refl _ _).alloc (Nat.le_refl _) _
  revert h hb
  generalize w.alloc (Obj.cells #[Value.string k, Value.int IntKind.u64 (s : Int), Value.bool v.toList.isEmpty, Value.string v] 48) = W
  intro h hb
  have z0 : W.cell? ⟨w.heap.size, 0, none⟩ = some (.string k) := cell_of_row W _ 0 _ _ (0, 0) h
  have z1 : W.cell? ⟨w.heap.size, 1, none⟩ = some (.int .u64 (s : Int)) := cell_of_row W _ 1 _ _ (0, 0) h
  have z2 : W.cell? ⟨w.heap.size, 2, none⟩ = some (.bool v.toList.isEmpty) := cell_of_row W _ 2 _ _ (0, 0) h
  have z3 : W.cell? ⟨w.heap.size, 3, none⟩ = some (.string v) := cell_of_row W _ 3 _ _ (0, 0) h
  exact bodyPost_ret (v := .agg #[.string k, .int .u64 (s : Int), .bool v.toList.isEmpty, .string v]) (by simp [results, Try.results33, go_sem, z0, z1, z2, z3]) rfl ⟨rfl, hb⟩
theorem many_any (A : Option Addr) (n c : Nat) (l : List En) (w : World) (h : Lies w w.heap.size 4 A n (ecs l)) (hm : ∀ x ∈ l, x.m.s < 18446744073709551616 ∧ x.m.k.size ≤ 140737488351232 ∧ x.x.size ≤ 140737488351232) (hn : n ≤ 140737488351232) :
    Calls Try.prog 27 #[.slice A n c] w fun e w' => ∃ b, e = .returned (.bool b) ∧ (b = false → n ≤ 200 ∧ n + esum l ≤ 40000) ∧ Below w.heap.size w w' := by
  by_cases h1 : 200 < n
  · have i1 : (200 : Int) < (n : Int) := by omega
    clear h
    go_enter Try.func27, Try.ntmps27
    go_wp2
    go_ret
    exact ⟨true, rfl, (fun q => by cases q), Below.refl _ _⟩
  · have i1 : ¬ (200 : Int) < (n : Int) := by omega
    have HE := Lib.hid (entriesSize_any A n c l w h hm (by omega))
    clear h
    go_enter Try.func27, Try.ntmps27
    go_wp2_with fail
    refine HE.out.mono ?_
    rintro e w1 ⟨z, q, rfl, rfl, hz⟩
    have HZ := Lib.hid hz
    clear hz
    by_cases h2 : 40000 < z
    · have i2 : (40000 : Int) < (z : Int) := by omega
      go_wp2
      go_ret
      exact ⟨true, rfl, (fun q => by cases q), below_drewN (Below.refl _ _) _⟩
    · have i2 : decide ((40000 : Int) < (z : Int)) = false := decide_eq_false (by omega)
      go_wp2
      go_ret
      refine ⟨false, rfl, fun _ => ?_, below_drewN (Below.refl _ _) _⟩
      have := HZ.out (by omega)
      omega
theorem fine_any (x : En) (w : World) (hk : x.m.k.size ≤ 140737488351232) (hx : x.x.size ≤ 140737488351232) :
    Calls Try.prog 29 #[x.v] w fun e w' => e = .returned (.bool (fineE x)) ∧ Below w.heap.size w w' := by
  unfold fineE En.v
  obtain ⟨b0, b1, b2, b3, hB, _⟩ := enW_facts w x
  have HB := Lib.hid hB
  have HC : Hid (∀ W, Calls Try.prog 58 #[.string x.m.k] W fun e w' => e = .returned (.bool (chk x.m.k)) ∧ W = w') := fun W => chk_any x.m.k W (by omega)
  clear hB b0 b1 b2 b3
  obtain ⟨c, hc⟩ : ∃ c, chk x.m.k = c := ⟨_, rfl⟩
  rw [hc] at HC ⊢
  clear hc
  cases c
  · go_enter Try.func29, Try.ntmps29
    go_wp2_with (go_at_call 58; refine (HC.out _).mono ?_; rintro e w' ⟨rfl, rfl⟩)
    go_ret
    exact ⟨rfl, HB.out⟩
  · by_cases h2 : x.x.size ≤ 256
    · have i2 : (x.x.size : Int) ≤ 256 := by omega
      have d2 : decide (x.x.size ≤ 256) = true := decide_eq_true h2
      rw [d2]
      cases h3 : x.x.toList.isEmpty <;> cases h4 : x.m.g <;>
      · go_enter Try.func29, Try.ntmps29
        go_wp2_with (go_at_call 58; refine (HC.out _).mono ?_; rintro e w' ⟨rfl, rfl⟩)
        go_ret
        exact ⟨rfl, by rw [← h4]; exact HB.out⟩
    · have i2 : ¬ (x.x.size : Int) ≤ 256 := by omega
      have d2 : decide (x.x.size ≤ 256) = false := decide_eq_false h2
      rw [d2]
      go_enter Try.func29, Try.ntmps29
      go_wp2_with (go_at_call 58; refine (HC.out _).mono ?_; rintro e w' ⟨rfl, rfl⟩)
      go_ret
      exact ⟨rfl, HB.out⟩
end Go.Proofs.Ytopcnlophmplgaa
