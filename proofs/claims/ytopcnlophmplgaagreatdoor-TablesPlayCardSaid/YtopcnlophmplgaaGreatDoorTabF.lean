/-
  Package tables: From.
-/
import Derived.Test.YtopcnlophmplgaaGreatDoorTabE
namespace Go.Proofs.YtopcnlophmplgaaGreatDoor
open Go.RowKit
set_option linter.unusedVariables false
set_option maxRecDepth 100000

theorem entry_info : (Tryz.prog.info? 83).map (fun i => (i.zero, i.size, i.bytes)) = some (some (.agg #[.string ByteArray.empty, .int .u64 0, .bool false, .string ByteArray.empty]), 4, 48) := by kernel_rfl
theorem ecs_one (l : List En) : ∀ u ∈ ecs l, u.oneCell' = true := by
  intro u hu
  obtain ⟨m, _, hm⟩ := List.mem_flatMap.1 hu
  simp only [En.cs, List.mem_cons, List.not_mem_nil, or_false] at hm
  rcases hm with rfl | rfl | rfl | rfl <;> rfl
theorem en_lies (w : World) (x : En) : Lies (enW w x) (w.heap.size + 1) 4 (some ⟨w.heap.size, 0, none⟩) 1 (ecs [x]) := by
  have h : (enW w x).heap[w.heap.size]? = some (.cells #[.string x.m.k, .int .u64 (x.m.s : Int), .bool x.m.g, .string x.x] 83 (0, 0)) := heap_alloc_new w _
  have e : ecs [x] = [.string x.m.k, .int .u64 (x.m.s : Int), .bool x.m.g, .string x.x] := by simp [ecs, En.cs]
  rw [e]
  refine ⟨rfl, fun j hj => ?_⟩
  have hj4 : j < 4 := hj
  refine ⟨_, _, rfl, Nat.lt_succ_self _, List.getElem?_eq_getElem hj4, ?_⟩
  rw [add_lit, Nat.zero_add, cell_of_row _ _ j _ _ (0, 0) h]
  rw [List.getElem?_toArray]
  exact List.getElem?_eq_getElem hj4

/-- what has been told: the first ones, P, of Q; the node at hand is the next one -/
def FromRel (W : World) (Q : List Nd) (most : Int) (k : Nat) (v n : Value) (wr : World) : Prop :=
  ∃ P R, Q = P ++ R ∧ R.length = k ∧ n = bp (R.head?.map Nd.b) ∧ wr.ownsRow W.heap.size 83 4 v P.length (ecs (P.map Nd.e)) ∧ Below W.heap.size W wr ∧ (P = [] ∨ (P.length : Int) ≤ most)

set_option maxHeartbeats 2000000 in
theorem from_list {w : World} {t hd : Nat} {ns A0 Q : List Nd} {m : Mk} (h : TabN w t hd ns) (hp : Parted hd ns m A0 Q) (most : Int) :
    Calls Tryz.prog 35 #[tp t, m.v, .int .i64 most] w fun e w' => ∃ v, e = .returned v ∧ w'.ownsRow w.heap.size 83 4 v (min most.toNat Q.length) (ecs ((Q.map Nd.e).take most.toNat)) ∧ Below w.heap.size w w' := by
  obtain ⟨i0, hi, hz0, hz1, hz2⟩ := info_parts entry_info
  obtain ⟨b0, b1, b2, hB, hz⟩ := mkW_facts w m
  obtain ⟨W, hW⟩ : ∃ W, w.alloc (.cells #[.string m.k, .int .u64 (m.s : Int), .bool m.g] 81) = W := ⟨_, rfl⟩
  rw [show mkW w m = W from hW] at b0 b1 b2 hB hz
  have hT := h.below hB
  have HFr := Lib.hid (from_ok hT hp)
  have HT := Lib.hid hT; have HP := Lib.hid hp; have HB := Lib.hid hB
  clear h hp hT hB hz
  unfold Mk.v at HFr ⊢
  go_enter Tryz.func35, Tryz.ntmps35
  go_wp2_with fail
  clear hW
  refine HFr.out.mono ?_
  rintro e w2 ⟨rfl, hb⟩
  have HR : Hid (FromRel W Q most Q.length (.slice none 0 0) (bp (Q.head?.map Nd.b)) w2) := ⟨[], Q, rfl, rfl, rfl, World.ownsRow_nil _ _ _ _, hb, .inl rfl⟩
  have HQ : Hid (∀ wr, Below W.heap.size W wr → ∀ P n R, Q = P ++ n :: R → wr.cell? ⟨n.b, 0, none⟩ = some (.string n.e.m.k) ∧ wr.cell? ⟨n.b, 1, none⟩ = some (.int .u64 (n.e.m.s : Int)) ∧ wr.cell? ⟨n.b, 2, none⟩ = some (.bool n.e.m.g) ∧ wr.cell? ⟨n.b, 3, none⟩ = some (.string n.e.x) ∧ wr.cell? ⟨n.b, 4, none⟩ = some (bp (R.head?.map Nd.b))) := fun wr hb P n R e => by
    have h1 := HT.out.below hb
    rw [HP.out.eq, e, ← List.append_assoc] at h1
    exact h1.node
  clear hb HFr b0 b1 b2
  go_wp2
  have hQl : Q.length ≤ 4096 := by
    have h1 := HT.out.max
    rw [HP.out.eq, List.length_append] at h1; omega
  go_loopg [7, 8] Q.length (fun k v n wr => FromRel W Q most k v n wr)
  case atStart => exact HR.out
  case round =>
    clear HR
    obtain ⟨P, R, hQ, hk, rfl, hown, hb, hP⟩ := hrel
    obtain ⟨Av, cv, rfl, hnc⟩ := own_shape hown
    have hPl : P.length ≤ 4096 := by rw [hQ, List.length_append] at hQl; omega
    have HF : Hid (Below w.heap.size w wr) := HB.out.trans (hb.mono HB.out.size)
    cases R with
    | nil =>
      have e0 : bp ((([] : List Nd).head?).map Nd.b) = .pointer none := rfl
      have HA : Hid (wr.ownsRow w.heap.size 83 4 (.slice Av P.length cv) (min most.toNat Q.length) (ecs ((Q.map Nd.e).take most.toNat))) := by
        rw [List.append_nil] at hQ
        subst hQ
        rcases hP with h0 | h0
        · rw [h0] at hown ⊢
          simp only [List.map_nil, List.length_nil, Nat.min_zero, List.take_nil] at hown ⊢
          exact own_base hown HB.out.size
        · have e1 : min most.toNat Q.length = Q.length := Nat.min_eq_right (by omega)
          have e2 : (Q.map Nd.e).take most.toNat = Q.map Nd.e := List.take_of_length_le (by rw [List.length_map]; omega)
          unfold Hid
          rw [e1, e2]; exact own_base hown HB.out.size
      rw [e0]
      clear e0 hown hQ hP hk hb
      go_wp2
      go_ret
      exact ⟨_, rfl, HA.out, HF.out⟩
    | cons n R =>
      obtain ⟨y0, y1, y2, y3, y4⟩ := HQ.out wr hb P n R hQ
      have e0 : bp (((n :: R).head?).map Nd.b) = .pointer (some ⟨n.b, 0, none⟩) := rfl
      rw [e0]
      by_cases hlt : (P.length : Int) < most
      · have hbe : Below wr.heap.size wr (enW wr n.e) := (enW_facts wr n.e).2.2.2.2.1
        have HOW := Lib.hid (own_below hown hbe)
        have hbs : W.heap.size ≤ wr.heap.size := hb.size
        have HQ2 := Lib.hid hQ
        have HB2 := Lib.hid (hb.trans (hbe.mono hb.size))
        have HL := Lib.hid (en_lies wr n.e)
        clear hQ hP e0 hown hb y4
        go_wp2_with (at_builtin; refine wpList_app _ rfl (.tmp 25) (.tmp 30) 76 rfl W.heap.size 83 i0 _ 4 48 Tryz.underlying76 hi hz0 hz1 hz2 rfl (by decide) (.slice Av P.length cv) P.length (ecs (P.map Nd.e)) rfl HOW.out (wr.heap.size + 1) (some ⟨wr.heap.size, 0, none⟩) 1 1 (ecs [n.e]) rfl HL.out (ecs_one _) (by unfold maxLen; omega) (by omega) (by simp; omega) ?_)
        intro v3 w3 hown3 hg3 _
        have hb3 := HB2.out.grown hg3 HB2.out.size (fun k hk => (HOW.out.lt k hk).1)
        have z4 := (HQ.out w3 hb3 P n R HQ2.out).2.2.2.2
        have HB3 := Lib.hid hb3
        have HO3 : Hid (w3.ownsRow W.heap.size 83 4 v3 (P ++ [n]).length (ecs ((P ++ [n]).map Nd.e))) := by
          unfold Hid
          rw [List.length_append, List.length_singleton, List.map_append, List.map_cons, List.map_nil, show ecs (P.map Nd.e ++ [n.e]) = ecs (P.map Nd.e) ++ ecs [n.e] from by simp [ecs]]
          exact hown3
        have hkk : R.length < gk := by rw [← hk]; exact Nat.lt_succ_self _
        clear hown3 hg3 hb3 y0 y1 y2 y3 HL HOW
        go_wp2
        go_roundg R.length
        case measure => exact hkk
        case rel => exact ⟨P ++ [n], R, by rw [HQ2.out]; simp, rfl, rfl, HO3.out, HB3.out, .inr (by rw [List.length_append, List.length_singleton]; omega)⟩
      · have HA : Hid (wr.ownsRow w.heap.size 83 4 (.slice Av P.length cv) (min most.toNat Q.length) (ecs ((Q.map Nd.e).take most.toNat))) := by
          have e1 : min most.toNat Q.length = P.length := by
            rw [hQ, List.length_append, List.length_cons]
            rcases hP with h0 | h0
            · rw [h0] at hlt ⊢; simp at hlt ⊢; omega
            · omega
          have e2 : (Q.map Nd.e).take most.toNat = P.map Nd.e := by
            have e3 : most.toNat = (P.map Nd.e).length := by
              rw [List.length_map]
              rcases hP with h0 | h0
              · rw [h0] at hlt ⊢; simp at hlt ⊢; omega
              · omega
            rw [e3, hQ, List.map_append, List.take_left']; rfl
          unfold Hid
          rw [e1, e2]; exact own_base hown HB.out.size
        clear e0 hown hQ hP hk hb y4 y0 y1 y2 y3
        go_wp2
        go_ret
        exact ⟨_, rfl, HA.out, HF.out⟩
end Go.Proofs.YtopcnlophmplgaaGreatDoor
