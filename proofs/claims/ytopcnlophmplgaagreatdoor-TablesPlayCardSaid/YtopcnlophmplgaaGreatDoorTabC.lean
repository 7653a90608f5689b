/-
  Package tables: insert, and what is left where an entry is put.
-/
import Derived.Test.YtopcnlophmplgaaGreatDoorTabB
namespace Go.Proofs.YtopcnlophmplgaaGreatDoor
open Go.RowKit
set_option linter.unusedVariables false
set_option maxRecDepth 100000

theorem lnk_at {j : Nat} {pre A0 B r : List Nd} {q n : Nd} (hq : j < q.h) (hB : ∀ x ∈ B, x.h ≤ j) (hn : n.h = j) : lnk q.h (B ++ n :: r) j = nxt j r := by
  subst hn; exact lnk_led q n B r hq hB
/-- nodes are no towers -/
theorem Skip.other {w : World} {l : List Nd} (h : Skip w l) {P : Nat} {cur : Array Value} {t : TypeId} (hP : w.heap[P]? = some (.cells cur t (0, 0))) (ht : t ≠ 140) : P ∉ l.map Nd.b := by
  intro hm
  obtain ⟨n, hn, e⟩ := List.mem_map.1 hm
  obtain ⟨A, r, rfl⟩ := List.append_of_mem hn
  have := h.at_
  rw [e, hP] at this
  injection this with this
  injection this with _ this
  exact ht this
def InsRel (w : World) (pre Q : List Nd) (n : Nd) (k : Nat) (i : Value) (wr : World) : Prop :=
  ∃ j, j ≤ k ∧ i = .int .i64 (j : Int) ∧ Skip wr (pre ++ ⟨n.b, n.e, j⟩ :: Q) ∧ Wrote (fun i => i ∈ (pre ++ n :: Q).map Nd.b) w wr

set_option maxHeartbeats 2000000 in
theorem insert_ok {w : World} {pre Q : List Nd} {n : Nd} {k P : Nat} {cs : Array Value} (hP : w.heap[P]? = some (.cells cs 138 (0, 0))) (hok : PathOK pre 0 cs) (hs : Skip w (pre ++ n :: Q)) (hn : n.h = 0) (hk : k ≤ 8) (hnd : ((pre ++ n :: Q).map Nd.b).Nodup) :
    Calls Tryz.prog 117 #[tp n.b, .slice (some ⟨P, 0, none⟩) k 8] w fun e w' => e = .returned (.tuple #[]) ∧ Skip w' (pre ++ ⟨n.b, n.e, k⟩ :: Q) ∧ Wrote (fun i => i ∈ (pre ++ n :: Q).map Nd.b) w w' := by
  have HPn := Lib.hid (hs.other hP (by decide))
  have HP := Lib.hid hP; have HOK := Lib.hid hok; have HND := Lib.hid hnd
  have HR : Hid (InsRel w pre Q n k (.int .i64 0) w) := ⟨0, Nat.zero_le _, rfl, by cases n; cases hn; exact hs, Wrote.refl _ _⟩
  clear hP hok hs hnd hn
  go_enter Tryz.func117, Tryz.ntmps117
  go_wp2
  go_loopw [8] (fun i wr => InsRel w pre Q n k i wr) (fun i _ => k - (intOf i).toNat)
  case atStart => exact HR.out
  case round =>
    clear HR
    obtain ⟨j, hjk, rfl, hs, hw⟩ := hrel
    have HW := Lib.hid hw
    by_cases hlt : j < k
    · have i0 : (0 : Int) ≤ (j : Int) := by omega
      have i1 : (j : Int) < (k : Int) := by omega
      have i2 : (j : Int) < 8 := by omega
      obtain ⟨q, hcq, A, q', B, hpre, rfl, hqh, hB⟩ := HOK.out.2 j (Nat.zero_le _) (by omega)
      have hPw : wr.heap[P]? = some (.cells cs 138 (0, 0)) := (hw.block P (Array.getElem?_eq_some_iff.1 HP.out).1 HPn.out).trans HP.out
      have kp : wr.cell? ⟨P, j, none⟩ = some (.pointer (some ⟨q'.b, 0, none⟩)) := (cell_of_row wr P j _ _ (0, 0) hPw).trans hcq
      have e1 : pre ++ (⟨n.b, n.e, j⟩ : Nd) :: Q = A ++ q' :: (B ++ (⟨n.b, n.e, j⟩ : Nd) :: Q) := by rw [hpre]; simp
      rw [e1] at hs
      have hqc := hs.tower (j := j) (by omega)
      rw [lnk_led q' ⟨n.b, n.e, j⟩ B Q hqh hB] at hqc
      have hs' := hs
      rw [show A ++ q' :: (B ++ (⟨n.b, n.e, j⟩ : Nd) :: Q) = (A ++ q' :: B) ++ (⟨n.b, n.e, j⟩ : Nd) :: Q from by simp] at hs'
      have hnc := hs'.tower (j := j) (by omega)
      have hfn : wr.frozen? ⟨n.b, 4 + j, none⟩ = false := by simp [World.frozen?, hs'.at_]
      have hfq : wr.frozen? ⟨q'.b, 4 + j, none⟩ = false := by simp [World.frozen?, hs.at_]
      have hnd : ((A ++ q' :: (B ++ (⟨n.b, n.e, j⟩ : Nd) :: Q)).map Nd.b).Nodup := by
        have := HND.out
        rw [hpre] at this
        simpa using this
      have hne : q'.b ≠ n.b := by
        have h := hnd
        simp only [List.map_append, List.map_cons, List.nodup_append, List.nodup_cons, List.mem_append, List.mem_cons] at h
        exact fun e => h.2.1.1 (.inr (.inl e))
      have hq2 : ∀ W : World, W.heap = wr.heap → (W.setCell ⟨n.b, 4 + j, none⟩ (bp (nxt j Q))).cell? ⟨q'.b, 4 + j, none⟩ = some (bp (nxt j Q)) ∧ (W.setCell ⟨n.b, 4 + j, none⟩ (bp (nxt j Q))).frozen? ⟨q'.b, 4 + j, none⟩ = false := fun W hW => by
        have hb := Below.heap_setCell W ⟨n.b, 4 + j, none⟩ (bp (nxt j Q)) q'.b hne
        rw [hW] at hb
        constructor
        · rw [World.cell?, hb]; exact hqc
        · simp only [World.frozen?, hb]; exact hfq
      have hq3 := (hq2 wr.drew rfl).1
      have hq4 := (hq2 wr.drew rfl).2
      have HS : Hid (Skip wr (A ++ q' :: (B ++ (⟨n.b, n.e, j⟩ : Nd) :: Q))) := hs.keep fun x hx => rfl
      have HP2 : Hid (pre = A ++ q' :: B) := hpre
      have HN2 := Lib.hid hnd
      clear hq2 hs hs' e1 hpre hnd hw hPw hcq
      obtain ⟨o, ho⟩ : ∃ o, bp (nxt j Q) = .pointer o := ⟨_, rfl⟩
      rw [ho] at hqc hq3 hq4
      have HO := Lib.hid ho
      clear ho
      go_wp2
      go_region
      go_wp2
      go_roundw
      case rel =>
        refine ⟨j + 1, hlt, by go_num, ?_, ?_⟩
        · have h := HS.out.raiseW (by show j < 8; omega) hqh hB HN2.out
          rw [show bp (nxt (⟨n.b, n.e, j⟩ : Nd).h Q) = Value.pointer o from HO.out] at h
          rw [HP2.out, show (A ++ q' :: B) ++ (⟨n.b, n.e, j + 1⟩ : Nd) :: Q = A ++ q' :: (B ++ (⟨n.b, n.e, j⟩ : Nd).up :: Q) from by simp [Nd.up]]
          exact h.keep fun x hx => rfl
        · exact ((HW.out.set (p := ⟨n.b, 4 + j, none⟩) (by simp) _).set (p := ⟨q'.b, 4 + j, none⟩) (by rw [HP2.out]; simp) _).drew
      case measure => simp [intOf]; omega
    · obtain rfl : j = k := by omega
      go_wp2
      exact bodyPost_end (results_none rfl _ _ _) rfl ⟨rfl, hs, HW.out⟩
end Go.Proofs.YtopcnlophmplgaaGreatDoor
