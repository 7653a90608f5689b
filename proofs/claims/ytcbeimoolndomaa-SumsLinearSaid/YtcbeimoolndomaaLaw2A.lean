/-
  What laws of layer 2 share: a table made of a few numbers; a byte, so often.
-/
import Derived.Test.YtcbeimoolndomaaSumsC
namespace Go.Proofs.Ytcbeimoolndomaa
open Go.RowKit
set_option linter.unusedVariables false

/-- what a table of a few numbers has at a place -/
def spread (l : List Nat) (i : Nat) : Nat := l.getD (i % 4) 0 ^^^ (i / 4 * l.getD ((i + 1) % 4) 0) % 4294967296
def tabOf (l : List Nat) : List Nat := (List.range 256).map (spread l)
theorem tabOf_len (l : List Nat) : (tabOf l).length = 256 := by simp [tabOf]
theorem spread_lt {l : List Nat} (h : Crc.Small l) (i : Nat) : spread l i < 4294967296 :=
  Nat.xor_lt_two_pow (n := 32) (Crc.small_getD h _) (by omega)
theorem tabOf_small {l : List Nat} (h : Crc.Small l) : Crc.Small (tabOf l) := by
  intro x hx
  unfold tabOf at hx
  obtain ⟨i, _, rfl⟩ := List.mem_map.1 hx
  exact spread_lt h i

set_option maxRecDepth 100000 in
set_option maxHeartbeats 2000000 in
theorem tableOf_any (l : List Nat) (w : World) (hl : l.length = 4) (hs : Crc.Small l) :
    Calls Try.prog 16 #[.agg (arr l)] w fun e w' => e = .returned (.agg (arr (tabOf l))) ∧ Below w.heap.size w w' := by
  go_enter Try.func16, Try.ntmps16
  go_wp2_with (refine wpList_newTab rfl rfl ?_)
  have T2 := Tab.new ((w.alloc (.cells (arr l) 27)).alloc (.cells (arr noughts) 23)) 23 noughts
  have T1 := (Tab.new (w.alloc (.cells (arr l) 27)) 23 noughts).alloc (.cells (arr noughts) 23)
  have T0 := ((Tab.new w 27 l).alloc (.cells (arr noughts) 23)).alloc (.cells (arr noughts) 23)
  have hb0 : Below w.heap.size w (((w.alloc (.cells (arr l) 27)).alloc (.cells (arr noughts) 23)).alloc (.cells (arr noughts) 23)) := (((Below.refl _ _).alloc (Nat.le_refl _) _).alloc (by simp) _).alloc (by simp; omega) _
  have e0 : (w.alloc (.cells (arr l) 27)).heap.size = w.heap.size + 1 := by simp
  have e1 : ((w.alloc (.cells (arr l) 27)).alloc (.cells (arr noughts) 23)).heap.size = w.heap.size + 1 + 1 := by simp
  rw [e0] at T1
  rw [e1] at T2
  go_loopw [4] (fun i wr => ∃ k : Nat, k ≤ 256 ∧ i = .int .i64 (k : Int) ∧ Tab wr w.heap.size 27 l ∧ Tab wr (w.heap.size + 1) 23 noughts ∧ Tab wr (w.heap.size + 1 + 1) 23 (fillTo (spread l) k) ∧ Below w.heap.size w wr) (fun i _ => 256 - (intOf i).toNat)
  case atStart => exact ⟨0, Nat.zero_le _, rfl, T0, T1, by rw [fillTo_zero]; exact T2, hb0⟩
  case round =>
    clear T2 T1 T0 hb0 e0 e1
    obtain ⟨k, hk, rfl, T0, T1, T2, hb⟩ := hrel
    by_cases hlt : k < 256
    · obtain ⟨x, hx⟩ : ∃ x, (fillTo (spread l) k)[k]? = some x := ⟨_, List.getElem?_eq_getElem (by rw [fillTo_len]; exact hlt)⟩
      have hc2 := T2.cell hx
      have hf := T2.frozen k
      obtain ⟨a, ha⟩ : ∃ a, a = k % 4 := ⟨_, rfl⟩
      obtain ⟨b, hb'⟩ : ∃ b, b = (k + 1) % 4 := ⟨_, rfl⟩
      obtain ⟨q, hq⟩ : ∃ q, q = k / 4 := ⟨_, rfl⟩
      obtain ⟨y, hy⟩ : ∃ y, l[a]? = some y := ⟨_, List.getElem?_eq_getElem (by omega)⟩
      obtain ⟨z, hz⟩ : ∃ z, l[b]? = some z := ⟨_, List.getElem?_eq_getElem (by omega)⟩
      have hyl := hs y (List.mem_of_getElem? hy)
      have hzl := hs z (List.mem_of_getElem? hz)
      have hca := T0.cell hy
      have hcb := T0.cell hz
      obtain ⟨p, hp⟩ : ∃ p, p = q * z % 4294967296 := ⟨_, rfl⟩
      have hpl : p < 4294967296 := by omega
      have hxor := u32_xor_nat y p hyl hpl
      have hsp : spread l k = y ^^^ p := by
        unfold spread
        rw [List.getD_eq_getElem?_getD, List.getD_eq_getElem?_getD, ← ha, ← hb', hy, hz, ← hq]
        simp only [Option.getD_some]
        rw [← hp]
      generalize y ^^^ p = r at hxor hsp
      have f1 : (k : Int) % 4 = (a : Int) := by omega
      have f2 : ((k : Int) + 1) % 4 = (b : Int) := by omega
      have f3 : (k : Int) / 4 = (q : Int) := by omega
      have f4 : (q : Int) % 4294967296 = (q : Int) := by omega
      have f5 : (q : Int) * (z : Int) % 4294967296 = (p : Int) := by rw [hp, ← Int.natCast_mul]; omega
      have f6 : (a : Int) < 4 := by omega
      have f7 : (b : Int) < 4 := by omega
      have f8 : (k : Int) < 256 := by omega
      have H0 := Lib.hid T0; have H1 := Lib.hid T1; have H2 := Lib.hid T2; have HB := Lib.hid hb; have HS := Lib.hid hsp
      clear T0 T1 T2 hb hx hy hz ha hb' hq hp hsp hk
      go_wp2
      go_region
      go_wp2
      go_roundw
      case rel => exact ⟨k + 1, hlt, by go_num, (H0.out.far (p := ⟨w.heap.size + 1 + 1, k, none⟩) (by simp; omega) (nv r)).drew, (H1.out.far (p := ⟨w.heap.size + 1 + 1, k, none⟩) (by simp) (nv r)).drew, by rw [← fillTo_set, HS.out]; exact (H2.out.set k _).drew, below_drew (HB.out.setCell (p := ⟨w.heap.size + 1 + 1, k, none⟩) (by simp; omega) (nv r))⟩
      case measure => simp [intOf]; omega
    · obtain rfl : k = 256 := by omega
      have T3 := Lib.hid (T1.setRow (fillTo (spread l) 256))
      have HB := Lib.hid (below_setRow hb (Nat.le_succ _) (arr (fillTo (spread l) 256)))
      have HR := fillTo_all (spread l)
      go_wp2_with (first
        | refine wpList_loadTab rfl _ rfl (w.heap.size + 1 + 1) rfl _ T2 (fillTo_len _ _) ?_
        | refine wpList_storeTab rfl _ _ rfl (w.heap.size + 1) rfl (fillTo (spread l) 256) rfl noughts T1 noughts_len (fillTo_len _ _) ?_)
      refine bodyPost_ret (v := .agg (arr (fillTo (spread l) 256))) ?_ rfl ⟨?_, HB.out⟩
      · exact results_tab rfl _ _ (w.heap.size + 1) _ rfl T3.out (fillTo_len _ _)
      · rw [HR]; rfl
end Go.Proofs.Ytcbeimoolndomaa
