/-
  The walk of SumsTable.
-/
import Derived.Test.YtcbeimoolndomaaLaw2C
import Derived.Test.YtcbeimoolndomaaRef2
namespace Go.Proofs.Ytcbeimoolndomaa
open Go.RowKit
set_option linter.unusedVariables false

set_option maxHeartbeats 4000000 in
set_option maxRecDepth 100000 in
theorem sumsTable_walk (k : Nat) (w : World) (hk : k < 256) :
    Calls Try.prog 3 #[.int .u8 (k : Int)] w fun e w' => e = .returned (.bool true) ∧ Below w.heap.size w w' := by
  obtain ⟨cs, hcs⟩ : ∃ cs, cs = Crc.tab.map nv := ⟨_, rfl⟩
  have harr : arr Crc.tab = cs.toArray := by rw [hcs]; rfl
  obtain ⟨y, hy⟩ : ∃ y, Crc.tab[k]? = some y := ⟨_, List.getElem?_eq_getElem (by rw [Crc.tab_len]; exact hk)⟩
  have hcl : cs.length = 256 := by rw [hcs, List.length_map, Crc.tab_len]
  have hci : cs[k]? = some (nv y) := by rw [hcs, List.getElem?_map, hy]; rfl
  have heq := fun W => eq_tab Crc.tab W Crc.tab_len
  rw [harr] at heq
  have C1 : ∀ (g : Nat) (u : World), Tab u g 23 Crc.tab → Calls Try.prog 13 #[] u fun e u' => e = .returned (.agg cs.toArray) ∧ Tab u' g 23 Crc.tab ∧ Below u.heap.size u u' := fun g u h =>
    (table_any u).mono fun e u' ⟨he, hb⟩ => ⟨by rw [he, harr], h.below hb h.lt, hb⟩
  have C2 : ∀ (g : Nat) (u : World), Tab u g 23 Crc.tab → Calls Try.prog 14 #[] u fun e u' => e = .returned (.agg cs.toArray) ∧ Tab u' g 23 Crc.tab ∧ Below u.heap.size u u' := fun g u h =>
    (rtable_any u).mono fun e u' ⟨he, hb⟩ => ⟨by rw [he, harr], h.below hb h.lt, hb⟩
  have HC1 := Lib.hid C1; have HC2 := Lib.hid C2
  clear C1 C2
  go_enter Try.func3, Try.ntmps3
  go_wp2_with fail
  refine (table_any w).mono ?_
  rintro e w1 ⟨rfl, hb1⟩
  go_wp2_with (first
    | refine wpList_lay rfl rfl ?_
    | refine wpList_laid rfl _ _ rfl noughts Crc.tab rfl rfl noughts_len Crc.tab_len ?_)
  have T1 := lay_tab w1 Crc.tab
  have hB := Lib.hid (lay_below hb1 hb1.size Crc.tab)
  generalize w1.heap.size = g at *
  generalize lay w1 Crc.tab = W at *
  have hu := Try.underlying23
  have hi : (Try.prog.info? 23).map (·.size) = some cs.length := by rw [hcl]; exact (zero_of_info (P := Try.prog) arr_info).2
  have hone : ∀ v ∈ cs, v.oneCell' = true := by rw [hcs]; intro v hv; obtain ⟨a, _, rfl⟩ := List.mem_map.1 hv; rfl
  have hk0 : (0 : Int) ≤ (k : Int) := by omega
  have hk1 : (k : Int) < 256 := by omega
  have KS : Hid (∀ u, Tab u g 23 Crc.tab → (u.rangeAt g 0 cs ∧ u.cell? ⟨g, k, none⟩ = some (nv y))) := fun u h => ⟨by rw [hcs]; exact h.range, h.cell hy⟩
  have hix : ∀ W, (Instr.index 23 (.agg cs.toArray) (.int .u8 (k : Int))).run Try.prog W = .ok (nv y) W := by
    intro W
    simp [Instr.index, run_underlying hu, asIntOf, part, isAgg, run_underlying Try.underlying22, hci]
    omega
  clear harr hcs hy hb1
  have HT := Lib.hid T1; clear T1
  go_region_held3 (fun w' => w'.rangeAt g 0 cs ∧ w'.cell? ⟨g, k, none⟩ = some (nv y)) (first | exact KS.out _ HT.out | exact KS.out _ hT4 | exact KS.out _ hT5)
    (first
    | (go_at_call 14; (first | refine (HC2.out g _ HT.out).mono ?_ | refine (HC2.out g _ HT.out.drew).mono ?_ | refine (HC2.out g _ (HT.out.drewN _)).mono ?_); rintro e w4 ⟨rfl, hT4, hb4⟩)
    | (go_at_call 13; refine (HC1.out g _ hT4).mono ?_; rintro e w5 ⟨rfl, hT5, hb5⟩))
  have HB := Lib.hid (((below_drew hB.out).trans (hb4.mono hB.out.size)).trans (hb5.mono (Nat.le_trans hB.out.size hb4.size)))
  clear hb4 hb5 hB hT4 hT5 HT KS HC1 HC2
  go_wp2
  go_ret
  exact ⟨rfl, HB.out⟩
end Go.Proofs.Ytcbeimoolndomaa
