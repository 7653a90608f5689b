/-
  Contracts of the laws' helpers: TwinEntries.
  Contracts of the laws' helpers: LeftEntries.
-/
import Derived.Test.YtodmgmfanpnabaaGreatDoorRefABC
import Derived.Test.YtodmgmfanpnabaaGreatDoorCutE
import Derived.Test.YtodmgmfanpnabaaGreatDoorKept
import Derived.Deep.QuietTactic
import Derived.BigQuiet
namespace Go.Proofs.YtodmgmfanpnabaaGreatDoor
open Go.RowKit
set_option linter.unusedVariables false
set_option maxRecDepth 100000

/-- the mark behind a copy of entries -/
def spareE : En := ⟨⟨⟨#[115, 112, 97, 114, 101]⟩, 0, false⟩, ByteArray.empty⟩
theorem ecs_app (l m : List En) : ecs (l ++ m) = ecs l ++ ecs m := by simp [ecs]

set_option maxHeartbeats 4000000 in
theorem twinE_any (A : Option Addr) (n c : Nat) (l : List En) (w : World) (h : Lies w w.heap.size 4 A n (ecs l)) (hn : n ≤ 1000000) :
    Calls Tryz.prog 31 #[.slice A n c] w fun e w' => ∃ g c', e = .returned (.slice (some ⟨g, 0, none⟩) n c') ∧ w'.ownsRow w.heap.size 130 4 (.slice (some ⟨g, 0, none⟩) (n + 1) c') (n + 1) (ecs (l ++ [spareE])) ∧ Below w.heap.size w w' := by
  obtain ⟨i0, hi, hz0, hz1, hz2⟩ := info_parts entry_info
  have hln := h.elen
  have HN := Lib.hid h; have HLn := Lib.hid hln; clear h hln
  go_enter Tryz.func31, Tryz.ntmps31
  go_wp2_with (at_make; refine wpList_make_own _ rfl _ _ 71 rfl w.heap.size 130 i0 _ 4 Tryz.underlying71 hi hz0 hz1 _ _ _ (n + 1) rfl rfl (by omega) (by rw [hz2]; omega) (by unfold maxLen; omega) (Nat.le_refl _) ?_; intro w1 hown1 hgrow1)
  have hb1 : Below w.heap.size w w1 := (Below.refl _ _).grown hgrow1 (Nat.le_refl _) (by simp)
  clear hgrow1
  go_loopw [3, 4] (fun v i wr => ∃ k : Nat, k ≤ n ∧ i = .int .i64 (k : Int) ∧ wr.ownsRow w.heap.size 130 4 v k (ecs (l.take k)) ∧ Below w.heap.size w wr) (fun _ i _ => n - (intOf i).toNat)
  case atStart => exact ⟨0, Nat.zero_le _, rfl, hown1, hb1⟩
  case round =>
    clear hown1 hb1
    obtain ⟨k, hk, rfl, hown, hb⟩ := hrel
    have hbs := hb.size
    obtain ⟨A1, c1, rfl, hnc1, hcm1, hA1⟩ := own_shape hown
    have HOW := Lib.hid hown; have HB := Lib.hid hb
    by_cases hlt : k < n
    · obtain ⟨b, o, x, rfl, hbB, hx, d0, d1, d2, d3⟩ := (HN.out.keep (fun p hp => HB.out.cell hp) : Lies wr w.heap.size 4 A n (ecs l)).entry hlt
      have HX := Lib.hid (show l.take (k + 1) = l.take k ++ [x] from by rw [List.take_add_one, hx]; rfl)
      have hba := (enW_facts wr x).2.2.2.2.1
      have HOA := Lib.hid (own_below HOW.out hba)
      have HBA := Lib.hid (HB.out.trans (hba.mono HB.out.size))
      have HLA := Lib.hid (en_lies wr x)
      have i0' : (0 : Int) ≤ (k : Int) := by omega
      have i1' : (k : Int) < (n : Int) := by omega
      clear hx hown hb hba
      go_wp2_with (at_builtin; refine wpList_app _ rfl _ _ 71 rfl w.heap.size 130 i0 _ 4 48 Tryz.underlying71 hi hz0 hz1 hz2 rfl (by decide) (.slice A1 k c1) k (ecs (l.take k)) rfl HOA.out (wr.heap.size + 1) (some ⟨wr.heap.size, 0, none⟩) 1 1 (ecs [x]) rfl HLA.out (ecs_one _) (by unfold maxLen; omega) (by omega) (by simp; omega) ?_)
      intro v2 w2 hown2 hg2 _
      have hb2 := HBA.out.grown hg2 HBA.out.size (fun k hk => (HOA.out.lt k hk).1)
      have hown3 : w2.ownsRow w.heap.size 130 4 v2 (k + 1) (ecs (l.take (k + 1))) := by rw [HX.out, ecs_app]; exact hown2
      clear hown2 hg2 HX HOA HLA HBA
      go_wp2
      go_roundw
      case rel => exact ⟨k + 1, hlt, by go_num, hown3, hb2⟩
      case measure => simp [intOf]; omega
    · obtain rfl : n = k := by omega
      have hl : l.take n = l := List.take_of_length_le (by have := HLn.out; omega)
      rw [hl] at HOW
      have hba := (enW_facts wr spareE).2.2.2.2.1
      have HOA := Lib.hid (own_below HOW.out hba)
      have HBA := Lib.hid (HB.out.trans (hba.mono HB.out.size))
      have HLA := Lib.hid (en_lies wr spareE)
      clear hown hb hba
      go_wp2_with (at_builtin; refine wpList_app _ rfl _ _ 71 rfl w.heap.size 130 i0 _ 4 48 Tryz.underlying71 hi hz0 hz1 hz2 rfl (by decide) (.slice A1 n c1) n (ecs l) rfl HOA.out (wr.heap.size + 1) (some ⟨wr.heap.size, 0, none⟩) 1 1 (ecs [spareE]) rfl HLA.out (ecs_one _) (by unfold maxLen; omega) (by omega) (by simp; omega) ?_)
      intro v2 w2 hown2 hg2 _
      have hb2 := HBA.out.grown hg2 HBA.out.size (fun k hk => (HOA.out.lt k hk).1)
      have hown3 : w2.ownsRow w.heap.size 130 4 v2 (n + 1) (ecs (l ++ [spareE])) := by rw [ecs_app]; exact hown2
      clear hown2 hg2 HOA HLA HBA
      obtain ⟨g, c2, rfl, hnc2, hcm2⟩ : ∃ g c2, v2 = .slice (some ⟨g, 0, none⟩) (n + 1) c2 ∧ n + 1 ≤ c2 ∧ c2 ≤ maxLen := by
        rcases hown3.2 with ⟨_, h0⟩ | ⟨g, cap, cur, rfl, _, _, h1, h2, _⟩
        · omega
        · exact ⟨g, cap, rfl, h1, h2⟩
      have r1 := fun W => run_headE W (some ⟨g, 0, none⟩) (n + 1) c2 n (by omega)
      unfold maxLen at hcm2
      go_wp2
      go_ret
      exact ⟨g, c2, rfl, hown3, hb2⟩
end Go.Proofs.YtodmgmfanpnabaaGreatDoor

namespace Go.Proofs.YtodmgmfanpnabaaGreatDoor
open Go.RowKit
set_option linter.unusedVariables false
set_option maxRecDepth 100000

set_option maxHeartbeats 4000000 in
/-- a copy that nobody touched is still what it was made of, its mark too -/
theorem leftE_any (A : Option Addr) (g og n c c2 B : Nat) (l : List En) (w : World) (h1 : Lies w B 4 (some ⟨g, og, none⟩) (n + 1) (ecs (l ++ [spareE]))) (hc1 : n + 1 ≤ c) (hc2 : c ≤ maxLen) (h2 : Lies w B 4 A n (ecs l)) :
    Calls Tryz.prog 35 #[.slice (some ⟨g, og, none⟩) n c, .slice A n c2] w fun e w' => e = .returned (.bool true) ∧ Below w.heap.size w w' := by
  unfold maxLen at hc2
  have H1 := Lib.hid h1; clear h1
  have H2 := Lib.hid h2; clear h2
  have hne : ((n : Int) != (n : Int)) = false := by simp
  have hle : decide ((c : Int) ≤ (n : Int)) = false := by simp; omega
  have hle2 : decide (c ≤ n) = false := by simp; omega
  go_enter Tryz.func35, Tryz.ntmps35
  go_wp2
  go_loopw [5] (fun i wr => ∃ k q : Nat, k ≤ n ∧ i = .int .i64 (k : Int) ∧ wr = w.drewN q) (fun i _ => n - (intOf i).toNat)
  case atStart => exact ⟨0, 0, Nat.zero_le _, rfl, rfl⟩
  case round =>
    obtain ⟨k, q, hk, rfl, rfl⟩ := hrel
    by_cases hlt : k < n
    · obtain ⟨b, o, x, hbo, _, hx, c0, c1, c2', c3⟩ := H1.out.entry (i := k) (by omega)
      injection hbo with hbo
      injection hbo with hb0 ho0
      subst hb0 ho0
      obtain ⟨b2, o2, y, rfl, _, hy, d0, d1, d2, d3⟩ := H2.out.entry hlt
      have hxy : x = y := by
        rw [List.getElem?_append_left (by have := H2.out.elen; omega), hy] at hx
        injection hx with hx
        exact hx.symm
      subst hxy
      have hi : (k : Int) < (n : Int) := by omega
      have hi0 : (0 : Int) ≤ (k : Int) := by omega
      clear hx hy
      go_wp2
      go_quiet (fail)
      go_wp2
      go_roundw
      case rel => exact ⟨k + 1, _, hlt, by go_num, by first | rfl | (rw [World.drewN_drewN])⟩
      case measure => simp [intOf]; omega
    · obtain rfl : k = n := by omega
      obtain ⟨b, o, x, hbo, _, hx, c0, c1, c2', c3⟩ := H1.out.entry (i := k) (by omega)
      injection hbo with hbo
      injection hbo with hb0 ho0
      subst hb0 ho0
      have hxs : x = spareE := by
        rw [List.getElem?_append_right (by have := H2.out.elen; omega), H2.out.elen] at hx
        simp at hx
        exact hx.symm
      subst hxs
      clear hx
      have e0 : (w.drewN q).cell? ⟨g, og + k * 4, none⟩ = some (.string ⟨#[115, 112, 97, 114, 101]⟩) := c0
      have e1 : (w.drewN q).cell? ⟨g, og + k * 4 + 1, none⟩ = some (.int .u64 0) := c1
      have e2 : (w.drewN q).cell? ⟨g, og + k * 4 + 2, none⟩ = some (.bool false) := c2'
      have e3 : (w.drewN q).cell? ⟨g, og + k * 4 + 3, none⟩ = some (.string ByteArray.empty) := c3
      have r1 := fun W => run_headE W (some ⟨g, og, none⟩) k c (k + 1) (by omega)
      have hbq : Below w.heap.size w (w.drewN q) := below_drewN (Below.refl _ _) _
      have hB := Lib.hid (hbq.trans ((enW_facts (w.drewN q) spareE).2.2.2.2.1.mono hbq.size))
      have hi : (k : Int) < ((k + 1 : Nat) : Int) := by omega
      clear hbq c0 c1 c2' c3
      obtain ⟨w2, hw2⟩ : ∃ w2, w.drewN q = w2 := ⟨_, rfl⟩
      rw [hw2] at e0 e1 e2 e3 hB ⊢
      clear hw2
      go_wp2
      go_ret
      exact ⟨rfl, hB.out⟩
end Go.Proofs.YtodmgmfanpnabaaGreatDoor

