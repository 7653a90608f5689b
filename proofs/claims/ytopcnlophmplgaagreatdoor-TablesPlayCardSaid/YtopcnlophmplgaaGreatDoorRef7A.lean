/-
  The document's own table of layer 7: its memory; Fine, Len, Bytes.
-/
import Derived.Test.YtopcnlophmplgaaGreatDoorTabG
import Derived.Test.YtopcnlophmplgaaGreatDoorTNum
import Derived.Test.YtopcnlophmplgaaGreatDoorRef4
import Derived.Deep.RegionHeld3
namespace Go.Proofs.YtopcnlophmplgaaGreatDoor
open Go.RowKit
set_option linter.unusedVariables false
set_option maxRecDepth 100000

/-- the document's own table: its entries, in order -/
def RT (w : World) (base m : Nat) (S : List En) : Prop := ∃ v, w.heap[m]? = some (.cells #[v] 78 (0, 0)) ∧ w.ownsRow base 83 4 v S.length (ecs S)
section
variable {w w' : World} {base m : Nat} {S : List En}
theorem RT.below (h : RT w base m S) (hb : Below w.heap.size w w') : RT w' base m S := by
  obtain ⟨v, h1, h2⟩ := h
  exact ⟨v, (hb.block m (Array.getElem?_eq_some_iff.1 h1).1).trans h1, own_below h2 hb⟩
/-- the cells that a call reads -/
theorem RT.at_ (h : RT w base m S) : ∃ A c, w.cell? ⟨m, 0, none⟩ = some (.slice A S.length c) ∧ w.frozen? ⟨m, 0, none⟩ = false ∧ S.length ≤ c ∧ c ≤ 9223372036854775807 ∧ Lies w w.heap.size 4 A S.length (ecs S) := by
  obtain ⟨v, h1, h2⟩ := h
  obtain ⟨A, c, rfl, h3, h4, _⟩ := own_shape h2
  exact ⟨A, c, cell_of_row w m 0 _ _ (0, 0) h1, by simp [World.frozen?, h1], h3, h4, Lies.of_own h2⟩
abbrev rp (m : Nat) : Value := .pointer (some ⟨m, 0, none⟩)
theorem rlen_ok (h : RT w base m S) : Calls Tryz.prog 40 #[rp m] w fun e w' => e = .returned (.int .i64 (S.length : Int)) ∧ w = w' := by
  obtain ⟨A, c, c0, _⟩ := h.at_
  clear h
  go_enter Tryz.func40, Tryz.ntmps40
  go_wp2
  go_ret
  exact ⟨rfl, rfl⟩
set_option maxHeartbeats 1000000 in
theorem rbytes_ok (h : RT w base m S) (hn : S.length ≤ 4096) (hs : esum S ≤ 1048576) : Calls Tryz.prog 42 #[rp m] w fun e w' => e = .returned (.int .i64 (esum S : Int)) ∧ Below w.heap.size w w' := by
  obtain ⟨A, c, c0, _, _, _, hl⟩ := h.at_
  have HL := Lib.hid hl
  have HF : Hid (S.take S.length = S) := List.take_of_length_le (Nat.le_refl _)
  obtain ⟨n, hnn⟩ : ∃ n, S.length = n := ⟨_, rfl⟩
  rw [hnn] at c0 HL HF hn
  clear h hl hnn
  go_enter Tryz.func42, Tryz.ntmps42
  go_wp2
  go_loopw [3, 4] (fun t i wr => ∃ k q : Nat, k ≤ n ∧ i = .int .i64 (k : Int) ∧ t = .int .i64 ((esum (S.take k) : Nat) : Int) ∧ wr = w.drewN q) (fun _ i _ => n - (intOf i).toNat)
  case atStart => exact ⟨0, 0, Nat.zero_le _, rfl, by simp [esum], rfl⟩
  case round =>
    obtain ⟨k, q, hk, rfl, rfl, rfl⟩ := hrel
    by_cases hlt : k < n
    · obtain ⟨b, o, x, rfl, hbB, hu, d0, _, _, d3⟩ := HL.out.entry hlt
      have HS := Lib.hid (esum_take S k x hu)
      have hle := esum_take_le S (k + 1)
      rw [HS.out] at hle
      obtain ⟨s, hs2⟩ : ∃ s, esum (S.take k) = s := ⟨_, rfl⟩
      rw [hs2] at hle ⊢
      have HZ := Lib.hid hs2
      have hi0 : (0 : Int) ≤ (k : Int) := by omega
      have hi1 : (k : Int) < (n : Int) := by omega
      have w1 : IntKind.i64.wrap ((s : Int) + (x.m.k.size : Int)) = (s : Int) + (x.m.k.size : Int) := IntWalk.i64_in _ (by omega)
      have w2 : IntKind.i64.wrap ((s : Int) + (x.m.k.size : Int) + (x.x.size : Int)) = (s : Int) + (x.m.k.size : Int) + (x.x.size : Int) := IntWalk.i64_in _ (by omega)
      clear hu hs2
      go_wp2
      go_quiet (fail)
      clear w1 w2
      go_wp2
      go_roundw
      case rel => exact ⟨k + 1, _, hlt, by go_num, by rw [HS.out, HZ.out]; simp; omega, by first | rfl | (rw [World.drewN_drewN])⟩
      case measure => simp [intOf]; omega
    · obtain rfl : n = k := by omega
      rw [HF.out]
      go_wp2
      go_ret
      exact ⟨rfl, below_drewN (Below.refl _ _) _⟩
end
theorem rfine_any (x : En) (w : World) (hk : x.m.k.size ≤ 140737488351232) (hx : x.x.size ≤ 140737488351232) :
    Calls Tryz.prog 118 #[x.v] w fun e w' => e = .returned (.bool (fineE x)) ∧ Below w.heap.size w w' := by
  unfold fineE En.v
  obtain ⟨b0, b1, b2, b3, hB, _⟩ := enW_facts w x
  have HB := Lib.hid hB
  have HC : Hid (∀ W, Calls Tryz.prog 171 #[.string x.m.k] W fun e w' => e = .returned (.bool (chk x.m.k)) ∧ W = w') := fun W => rchk_any x.m.k W (by omega)
  clear hB b0 b1 b2 b3
  obtain ⟨c, hc⟩ : ∃ c, chk x.m.k = c := ⟨_, rfl⟩
  rw [hc] at HC ⊢
  clear hc
  cases c
  · go_enter Tryz.func118, Tryz.ntmps118
    go_wp2_with (go_at_call 171; refine (HC.out _).mono ?_; rintro e w' ⟨rfl, rfl⟩)
    go_ret
    exact ⟨rfl, HB.out⟩
  · by_cases h2 : x.x.size ≤ 256
    · have i2 : (x.x.size : Int) ≤ 256 := by omega
      have d2 : decide (x.x.size ≤ 256) = true := decide_eq_true h2
      rw [d2]
      cases h3 : x.x.toList.isEmpty <;> cases h4 : x.m.g <;>
      · go_enter Tryz.func118, Tryz.ntmps118
        go_wp2_with (go_at_call 171; refine (HC.out _).mono ?_; rintro e w' ⟨rfl, rfl⟩)
        go_ret
        exact ⟨rfl, by rw [← h4]; exact HB.out⟩
    · have i2 : ¬ (x.x.size : Int) ≤ 256 := by omega
      have d2 : decide (x.x.size ≤ 256) = false := decide_eq_false h2
      rw [d2]
      go_enter Tryz.func118, Tryz.ntmps118
      go_wp2_with (go_at_call 171; refine (HC.out _).mono ?_; rintro e w' ⟨rfl, rfl⟩)
      go_ret
      exact ⟨rfl, HB.out⟩
end Go.Proofs.YtopcnlophmplgaaGreatDoor
