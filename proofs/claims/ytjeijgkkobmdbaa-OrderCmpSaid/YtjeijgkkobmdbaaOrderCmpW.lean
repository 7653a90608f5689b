/-
  The walk of OrderCmp.
-/
import Derived.Test.YtjeijgkkobmdbaaRef4
import Derived.Test.YtjeijgkkobmdbaaKept
import Derived.Deep.RegionWith
import Derived.Deep.RegionHeld3
namespace Go.Proofs.Ytjeijgkkobmdbaa
open Go.RowKit
set_option linter.unusedVariables false
set_option maxRecDepth 100000

set_option maxHeartbeats 2000000 in
theorem orderCmp_big (a b : Mk) (w : World) (ha : a.k.size ≤ 140737488351232) (hb : b.k.size ≤ 140737488351232) (hbig : 100000 < a.k.size + b.k.size) :
    Calls Try.prog 3 #[a.v, b.v] w fun e w' => e = .returned (.bool true) ∧ Below w.heap.size w w' := by
  obtain ⟨ka, sa, ga⟩ := a
  obtain ⟨kb, sb, gb⟩ := b
  obtain ⟨m1, m2, hB, hZ⟩ := two_marks ⟨ka, sa, ga⟩ ⟨kb, sb, gb⟩ w
  dsimp only at hB ha hb hbig
  have q1 := m1.cell; have q2 := m2.cell
  dsimp only at q1 q2
  have HB := Lib.hid hB
  have hw : IntKind.i64.wrap ((ka.size : Int) + (kb.size : Int)) = (ka.size : Int) + (kb.size : Int) := IntWalk.i64_in _ (by omega)
  have hd : decide ((100000 : Int) < (ka.size : Int) + (kb.size : Int)) = true := by simp; omega
  clear hB m1 m2 hZ
  unfold Mk.v
  go_enter Try.func3, Try.ntmps3
  go_wp2
  go_quiet (fail)
  go_wp2
  go_ret
  exact ⟨rfl, below_drewN HB.out _⟩

set_option maxHeartbeats 4000000 in
theorem orderCmp_small (a b : Mk) (w : World) (hsm : a.k.size + b.k.size ≤ 100000) :
    Calls Try.prog 3 #[a.v, b.v] w fun e w' => e = .returned (.bool true) ∧ Below w.heap.size w w' := by
  obtain ⟨m1, m2, hB, hZ⟩ := two_marks a b w
  have HB := Lib.hid hB
  have M1 := Lib.hid m1; have M2 := Lib.hid m2; have HZ := Lib.hid hZ
  have K1 : Hid (∀ W, Calls Try.prog 12 #[.string a.k] W fun e w' => e = .returned (.bool (chk a.k)) ∧ W = w') := fun W => chk_any a.k W (by omega)
  have K2 : Hid (∀ W, Calls Try.prog 13 #[.string a.k] W fun e w' => e = .returned (.bool (chk a.k)) ∧ W = w') := fun W => rchk_any a.k W (by omega)
  have K3 : Hid (∀ W, Calls Try.prog 14 #[.agg #[.string a.k, .int .u64 (a.s : Int), .bool a.g], .agg #[.string b.k, .int .u64 (b.s : Int), .bool b.g]] W fun e w' => e = .returned (.int .i64 (cmpM a b)) ∧ Below W.heap.size W w') := fun W => cmp_any a b W
  have K4 : Hid (∀ W, Calls Try.prog 15 #[.agg #[.string a.k, .int .u64 (a.s : Int), .bool a.g], .agg #[.string b.k, .int .u64 (b.s : Int), .bool b.g]] W fun e w' => e = .returned (.int .i64 (cmpM a b)) ∧ Below W.heap.size W w') := fun W => rcmp_any a b W (by omega) (by omega)
  obtain ⟨ka, sa, ga⟩ := a
  obtain ⟨kb, sb, gb⟩ := b
  dsimp only at hsm
  have hw : IntKind.i64.wrap ((ka.size : Int) + (kb.size : Int)) = (ka.size : Int) + (kb.size : Int) := IntWalk.i64_in _ (by omega)
  have hd : decide ((100000 : Int) < (ka.size : Int) + (kb.size : Int)) = false := by simp; omega
  generalize cmpM ⟨ka, sa, ga⟩ ⟨kb, sb, gb⟩ = z at *
  generalize chk (Mk.mk ka sa ga).k = y at *
  unfold Mk.v
  clear hB m1 m2 hZ
  go_enter Try.func3, Try.ntmps3
  go_wp2
  generalize ((w.alloc (.cells #[.string ka, .int .u64 (sa : Int), .bool ga] 24)).alloc (.cells #[.string kb, .int .u64 (sb : Int), .bool gb] 24)) = W at *
  generalize hg : w.heap.size = g at *
  have KS : Hid (∀ W', Kept W.drew W' → (W'.cell? ⟨g, 0, none⟩ = some (.string ka) ∧ W'.cell? ⟨g, 1, none⟩ = some (.int .u64 (sa : Int)) ∧ W'.cell? ⟨g, 2, none⟩ = some (.bool ga)) ∧ (W'.cell? ⟨g + 1, 0, none⟩ = some (.string kb) ∧ W'.cell? ⟨g + 1, 1, none⟩ = some (.int .u64 (sb : Int)) ∧ W'.cell? ⟨g + 1, 2, none⟩ = some (.bool gb))) := fun W' h => by
    have hs : g + 1 < W.drew.heap.size := by
      have := HZ.out
      show g + 1 < W.heap.size
      omega
    have M1' : MkAt W.drew g ⟨ka, sa, ga⟩ := M1.out
    have M2' : MkAt W.drew (g + 1) ⟨kb, sb, gb⟩ := M2.out
    have h1 : MkAt W' g ⟨ka, sa, ga⟩ := (h.block g (by omega)).trans M1'
    have h2 : MkAt W' (g + 1) ⟨kb, sb, gb⟩ := (h.block (g + 1) hs).trans M2'
    exact ⟨h1.cell, h2.cell⟩
  have HG := Lib.hid hg
  have hk : Kept W.drew W.drew := Kept.self _
  clear M1 M2 HZ hg
  go_region_held3 (fun w' => (w'.cell? ⟨g, 0, none⟩ = some (.string ka) ∧ w'.cell? ⟨g, 1, none⟩ = some (.int .u64 (sa : Int)) ∧ w'.cell? ⟨g, 2, none⟩ = some (.bool ga)) ∧ (w'.cell? ⟨g + 1, 0, none⟩ = some (.string kb) ∧ w'.cell? ⟨g + 1, 1, none⟩ = some (.int .u64 (sb : Int)) ∧ w'.cell? ⟨g + 1, 2, none⟩ = some (.bool gb)))
    (first | exact KS.out _ hk | fail)
    (first
    | (go_at_call 12; refine (K1.out _).mono ?_; rintro e w' ⟨rfl, rfl⟩)
    | (go_at_call 13; refine (K2.out _).mono ?_; rintro e w' ⟨rfl, rfl⟩)
    | (go_at_call 14; refine (K3.out _).mono ?_; rintro e w' ⟨rfl, hb⟩; have hk2 := hk.on hb; clear hb hk; have hk := hk2; clear hk2)
    | (go_at_call 15; refine (K4.out _).mono ?_; rintro e w' ⟨rfl, hb⟩; have hk2 := hk.on hb; clear hb hk; have hk := hk2; clear hk2)
    | fail)
  go_wp2
  go_ret
  refine ⟨rfl, ?_⟩
  have h1 := HB.out.size
  have h2 := HG.out
  rw [h2]
  exact (Below.drew HB.out).trans (Below.mono hk (by show g ≤ W.heap.size; omega))

theorem orderCmp_walk (a b : Mk) (w : World) (xa : a.s < 18446744073709551616) (ya : a.k.size ≤ 140737488351232) (xb : b.s < 18446744073709551616) (yb : b.k.size ≤ 140737488351232) :
    Calls Try.prog 3 #[a.v, b.v] w fun e w' => e = .returned (.bool true) ∧ Below w.heap.size w w' := by
  by_cases h : 100000 < a.k.size + b.k.size
  · exact orderCmp_big a b w ya yb h
  · exact orderCmp_small a b w (by omega)
end Go.Proofs.Ytjeijgkkobmdbaa
