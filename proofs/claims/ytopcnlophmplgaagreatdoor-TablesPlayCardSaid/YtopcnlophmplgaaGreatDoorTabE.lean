/-
  Package tables: from, Get, From.
-/
import Derived.Test.YtopcnlophmplgaaGreatDoorTabD
namespace Go.Proofs.YtopcnlophmplgaaGreatDoor
open Go.RowKit
set_option linter.unusedVariables false
set_option maxRecDepth 100000

abbrev mkW (w : World) (m : Mk) : World := w.alloc (.cells #[.string m.k, .int .u64 (m.s : Int), .bool m.g] 81)
theorem mkW_facts (w : World) (m : Mk) : (mkW w m).cell? ⟨w.heap.size, 0, none⟩ = some (.string m.k) ∧ (mkW w m).cell? ⟨w.heap.size, 1, none⟩ = some (.int .u64 (m.s : Int)) ∧ (mkW w m).cell? ⟨w.heap.size, 2, none⟩ = some (.bool m.g) ∧ Below w.heap.size w (mkW w m) ∧ (mkW w m).heap.size = w.heap.size + 1 := by
  have h : (mkW w m).heap[w.heap.size]? = some (.cells #[.string m.k, .int .u64 (m.s : Int), .bool m.g] 81 (0, 0)) := heap_alloc_new w _
  exact ⟨cell_of_row _ _ 0 _ _ (0, 0) h, cell_of_row _ _ 1 _ _ (0, 0) h, cell_of_row _ _ 2 _ _ (0, 0) h, (Below.refl _ _).alloc (Nat.le_refl _) _, by simp⟩

theorem run_idx8 (w : World) (v0 v1 v2 v3 v4 v5 v6 v7 : Value) : (Instr.index 138 (.agg #[v0, v1, v2, v3, v4, v5, v6, v7]) (.int .i64 0)).run Tryz.prog w = .ok v0 w := by
  simp [Instr.index, run_underlying Tryz.underlying138, asIntOf, go_sem]

set_option maxHeartbeats 1000000 in
theorem from_ok {w : World} {t hd : Nat} {ns A0 Q : List Nd} {m : Mk} (h : TabN w t hd ns) (hp : Parted hd ns m A0 Q) :
    Calls Tryz.prog 120 #[tp t, m.v] w fun e w' => e = .returned (bp (Q.head?.map Nd.b)) ∧ Below w.heap.size w w' := by
  obtain ⟨b0, b1, b2, hB, hz⟩ := mkW_facts w m
  obtain ⟨W, hW⟩ : ∃ W, w.alloc (.cells #[.string m.k, .int .u64 (m.s : Int), .bool m.g] 81) = W := ⟨_, rfl⟩
  rw [show mkW w m = W from hW] at b0 b1 b2 hB hz
  have hT := h.below hB
  have HE := Lib.hid (exists_yes t hd W hT.c0)
  have HBf := Lib.hid (before_ok hT.c0 hT.skip hp)
  have HT := Lib.hid hT; have HP := Lib.hid hp; have HB := Lib.hid hB
  clear h hp hT hB hz
  unfold Mk.v at HBf ⊢
  go_enter Tryz.func120, Tryz.ntmps120
  go_wp2_with fail
  refine HE.out.mono ?_
  rintro e w1 ⟨rfl, hw⟩
  obtain rfl := hw
  go_wp2_with fail
  clear hW
  refine HBf.out.mono ?_
  rintro e w2 ⟨cs, rfl, hok, hb⟩
  obtain ⟨q0, q1, q2, q3, q4, q5, q6, q7, rfl, hl⟩ := hok.eight
  have hT2 := HT.out.below hb
  obtain ⟨L, q, hL, rfl, hqh⟩ := hl.zero (fun n hn => by
    rcases List.mem_cons.1 hn with rfl | hn
    · show 1 ≤ 8; decide
    · exact hT2.tall n (by rw [HP.out.eq]; simp [hn]))
  have hsk : Skip w2 (L ++ q :: Q) := by
    have h1 := hT2.skip
    rw [HP.out.eq, ← List.cons_append, hL] at h1
    simpa using h1
  have t0 := hsk.tower (j := 0) (by decide)
  rw [show lnk q.h Q 0 = Q.head?.map Nd.b from by unfold lnk; rw [if_pos (by omega)]; exact nxt_zero Q fun n hn => hT2.tall n (by rw [HP.out.eq]; simp [hn])] at t0
  have t1 : w2.cell? ⟨q.b, 4, none⟩ = some (bp (Q.head?.map Nd.b)) := t0
  have HF := Lib.hid (HB.out.trans (hb.mono HB.out.size))
  clear hok hl hb hsk hT2 hL t0 b0 b1 b2
  obtain ⟨o, ho⟩ : ∃ o, bp (Q.head?.map Nd.b) = .pointer o := ⟨_, rfl⟩
  rw [ho] at t1
  have HO := Lib.hid ho
  have HI := Lib.hid (run_idx8 w2 (tp q.b) (tp q1) (tp q2) (tp q3) (tp q4) (tp q5) (tp q6) (tp q7))
  clear ho
  have hI := HI.out
  go_wp2
  go_ret
  exact ⟨by rw [HO.out]; rfl, HF.out⟩

/-- the nodes parted at a mark -/
theorem TabN.parted {w : World} {t hd : Nat} {ns : List Nd} (h : TabN w t hd ns) (m : Mk) : ∃ A Q, Parted hd ns m A Q := Go.Proofs.YtopcnlophmplgaaGreatDoor.parted hd ns m h.rise
/-- a node's entry -/
theorem TabN.node {w : World} {t hd : Nat} {A Q : List Nd} {n : Nd} (h : TabN w t hd (A ++ n :: Q)) : w.cell? ⟨n.b, 0, none⟩ = some (.string n.e.m.k) ∧ w.cell? ⟨n.b, 1, none⟩ = some (.int .u64 (n.e.m.s : Int)) ∧ w.cell? ⟨n.b, 2, none⟩ = some (.bool n.e.m.g) ∧ w.cell? ⟨n.b, 3, none⟩ = some (.string n.e.x) ∧ w.cell? ⟨n.b, 4, none⟩ = some (bp (Q.head?.map Nd.b)) := by
  have hs : Skip w ((head hd :: A) ++ n :: Q) := by simpa using h.skip
  obtain ⟨y0, y1, y2, y3⟩ := hs.entry
  refine ⟨y0, y1, y2, y3, ?_⟩
  have t0 := hs.tower (j := 0) (by decide)
  rw [show lnk n.h Q 0 = Q.head?.map Nd.b from by
    unfold lnk
    rw [if_pos (by have := h.tall n (by simp); omega)]
    exact nxt_zero Q fun x hx => h.tall x (by simp [hx])] at t0
  exact t0

/-- a struct of four cells is written whole -/
theorem four_set {w w0 : World} {E g : Nat} {a0 a1 a2 a3 : Value} {t : TypeId} (h : w.heap[E]? = some (.cells #[a0, a1, a2, a3] t (0, 0))) (hb : Below g w0 w) (hg : g ≤ E) (u0 u1 u2 u3 : Value) :
    ((((w.setCell ⟨E, 0, none⟩ u0).setCell ⟨E, 1, none⟩ u1).setCell ⟨E, 2, none⟩ u2).setCell ⟨E, 3, none⟩ u3).heap[E]? = some (.cells #[u0, u1, u2, u3] t (0, 0)) ∧
    Below g w0 ((((w.setCell ⟨E, 0, none⟩ u0).setCell ⟨E, 1, none⟩ u1).setCell ⟨E, 2, none⟩ u2).setCell ⟨E, 3, none⟩ u3) := by
  have st : ∀ {W : World} {k : Nat} {l : List Value} (v : Value), W.heap[E]? = some (.cells l.toArray t (0, 0)) → (W.setCell ⟨E, k, none⟩ v).heap[E]? = some (.cells (l.set k v).toArray t (0, 0)) := fun v h => heap_set h v
  exact ⟨st u3 (st u2 (st u1 (st (l := [a0, a1, a2, a3]) u0 h))), (((hb.setCell hg _).setCell hg _).setCell hg _).setCell hg _⟩
/-- what Get answers -/
def getE (S : List En) (k : ByteArray) (s : Nat) : Option En :=
  match (S.dropWhile (bef ⟨k, s, true⟩)).head? with
  | some e => if e.m.k = k then some e else none
  | none => none
def okE (o : Option En) : Value := .tuple #[(o.getD zeroE).v, .bool o.isSome]

set_option maxHeartbeats 1000000 in
theorem get_ok {w : World} {t hd : Nat} {ns : List Nd} (h : TabN w t hd ns) (k : ByteArray) (s : Nat) :
    Calls Tryz.prog 33 #[tp t, .string k, .int .u64 (s : Int)] w fun e w' => e = .returned (okE (getE (ns.map Nd.e) k s)) ∧ Below w.heap.size w w' := by
  obtain ⟨b0, b1, b2, b3, hB, hz⟩ := enW_facts w zeroE
  obtain ⟨W, hW⟩ : ∃ W, w.alloc (Obj.cells #[Value.string ⟨#[]⟩, Value.int IntKind.u64 0, Value.bool false, Value.string ⟨#[]⟩] 83) = W := ⟨_, rfl⟩
  rw [show enW w zeroE = W from hW] at b0 b1 b2 b3 hB hz
  have hT := h.below hB
  obtain ⟨A, Q, hp⟩ := hT.parted ⟨k, s, true⟩
  have HFr := Lib.hid (from_ok hT hp)
  have HGet : Hid (getE (ns.map Nd.e) k s = match (Q.map Nd.e).head? with | some e => if e.m.k = k then some e else none | none => none) := by
    unfold Hid getE
    rw [hp.take.2]
  unfold Mk.v at HFr
  have HB := Lib.hid hB
  have HT := Lib.hid hT
  have HP := Lib.hid hp
  have HZ : Hid (w.heap.size < W.heap.size) := by unfold Hid; omega
  have HBX : Hid (W.heap[w.heap.size]? = some (.cells #[Value.string ⟨#[]⟩, Value.int IntKind.u64 0, Value.bool false, Value.string ⟨#[]⟩] 83 (0, 0))) := by
    unfold Hid; rw [← hW]; exact heap_alloc_new w _
  clear h hB hT hp b0 b1 b2 b3 hz
  cases Q with
  | nil =>
    rw [show getE (ns.map Nd.e) k s = none from HGet.out]
    have HF2 : Hid (Calls Tryz.prog 120 #[tp t, .agg #[.string k, .int .u64 (s : Int), .bool true]] W fun e w' => e = .returned (.pointer none) ∧ Below W.heap.size W w') := HFr.out
    clear HFr
    go_enter Tryz.func33, Tryz.ntmps33
    go_wp2_with fail
    refine HF2.out.mono ?_
    rintro e w2 ⟨rfl, hb⟩
    have hbx := (hb.block _ HZ.out).trans HBX.out
    have z0 : w2.cell? ⟨w.heap.size, 0, none⟩ = some (.string ⟨#[]⟩) := cell_of_row w2 _ 0 _ _ (0, 0) hbx
    have z1 : w2.cell? ⟨w.heap.size, 1, none⟩ = some (.int .u64 0) := cell_of_row w2 _ 1 _ _ (0, 0) hbx
    have z2 : w2.cell? ⟨w.heap.size, 2, none⟩ = some (.bool false) := cell_of_row w2 _ 2 _ _ (0, 0) hbx
    have z3 : w2.cell? ⟨w.heap.size, 3, none⟩ = some (.string ⟨#[]⟩) := cell_of_row w2 _ 3 _ _ (0, 0) hbx
    have f0 : w2.frozen? ⟨w.heap.size, 0, none⟩ = false := by simp [World.frozen?, hbx]
    have f1 : w2.frozen? ⟨w.heap.size, 1, none⟩ = false := by simp [World.frozen?, hbx]
    have f2 : w2.frozen? ⟨w.heap.size, 2, none⟩ = false := by simp [World.frozen?, hbx]
    have f3 : w2.frozen? ⟨w.heap.size, 3, none⟩ = false := by simp [World.frozen?, hbx]
    have HF := Lib.hid (four_set hbx (HB.out.trans (hb.mono HB.out.size)) (Nat.le_refl _) (.string ⟨#[]⟩) (.int .u64 0) (.bool false) (.string ⟨#[]⟩))
    clear hb hbx hW
    go_wp2
    clear z0 z1 z2 z3 f0 f1 f2 f3
    generalize (((w2.setCell ⟨w.heap.size, 0, none⟩ (.string ⟨#[]⟩)).setCell ⟨w.heap.size, 1, none⟩ (.int .u64 0)).setCell ⟨w.heap.size, 2, none⟩ (.bool false)).setCell ⟨w.heap.size, 3, none⟩ (.string ⟨#[]⟩) = WF at *
    obtain ⟨hf, hbf⟩ := HF.out
    have z0 : WF.cell? ⟨w.heap.size, 0, none⟩ = some (.string ⟨#[]⟩) := cell_of_row WF _ 0 _ _ (0, 0) hf
    have z1 : WF.cell? ⟨w.heap.size, 1, none⟩ = some (.int .u64 0) := cell_of_row WF _ 1 _ _ (0, 0) hf
    have z2 : WF.cell? ⟨w.heap.size, 2, none⟩ = some (.bool false) := cell_of_row WF _ 2 _ _ (0, 0) hf
    have z3 : WF.cell? ⟨w.heap.size, 3, none⟩ = some (.string ⟨#[]⟩) := cell_of_row WF _ 3 _ _ (0, 0) hf
    exact bodyPost_ret (v := .tuple #[.agg #[.string ⟨#[]⟩, .int .u64 0, .bool false, .string ⟨#[]⟩], .bool false]) (by simp [results, Tryz.results33, go_sem, z0, z1, z2, z3]) rfl ⟨rfl, hbf⟩
  | cons y Q =>
    have HF2 : Hid (Calls Tryz.prog 120 #[tp t, .agg #[.string k, .int .u64 (s : Int), .bool true]] W fun e w' => e = .returned (.pointer (some ⟨y.b, 0, none⟩)) ∧ Below W.heap.size W w') := HFr.out
    have HT2 : Hid (TabN W t hd (A ++ y :: Q)) := by unfold Hid; rw [← HP.out.eq]; exact HT.out
    clear HFr
    by_cases hk : y.e.m.k = k
    · rw [show getE (ns.map Nd.e) k s = some y.e from HGet.out.trans (if_pos hk)]
      have hks : (y.e.m.k.toList == k.toList) = true := by rw [txt_eqB]; exact decide_eq_true hk
      go_enter Tryz.func33, Tryz.ntmps33
      go_wp2_with fail
      refine HF2.out.mono ?_
      rintro e w2 ⟨rfl, hb⟩
      have hbx := (hb.block _ HZ.out).trans HBX.out
      have z0 : w2.cell? ⟨w.heap.size, 0, none⟩ = some (.string ⟨#[]⟩) := cell_of_row w2 _ 0 _ _ (0, 0) hbx
      have z1 : w2.cell? ⟨w.heap.size, 1, none⟩ = some (.int .u64 0) := cell_of_row w2 _ 1 _ _ (0, 0) hbx
      have z2 : w2.cell? ⟨w.heap.size, 2, none⟩ = some (.bool false) := cell_of_row w2 _ 2 _ _ (0, 0) hbx
      have z3 : w2.cell? ⟨w.heap.size, 3, none⟩ = some (.string ⟨#[]⟩) := cell_of_row w2 _ 3 _ _ (0, 0) hbx
      have f0 : w2.frozen? ⟨w.heap.size, 0, none⟩ = false := by simp [World.frozen?, hbx]
      have f1 : w2.frozen? ⟨w.heap.size, 1, none⟩ = false := by simp [World.frozen?, hbx]
      have f2 : w2.frozen? ⟨w.heap.size, 2, none⟩ = false := by simp [World.frozen?, hbx]
      have f3 : w2.frozen? ⟨w.heap.size, 3, none⟩ = false := by simp [World.frozen?, hbx]
      obtain ⟨y0, y1, y2, y3, _⟩ := (HT2.out.below hb).node
      have HF := Lib.hid (four_set hbx (HB.out.trans (hb.mono HB.out.size)) (Nat.le_refl _) (.string y.e.m.k) (.int .u64 (y.e.m.s : Int)) (.bool y.e.m.g) (.string y.e.x))
      clear hb hbx hW
      clear hk
      go_wp2
      clear z0 z1 z2 z3 f0 f1 f2 f3
      generalize (((w2.setCell ⟨w.heap.size, 0, none⟩ (.string y.e.m.k)).setCell ⟨w.heap.size, 1, none⟩ (.int .u64 (y.e.m.s : Int))).setCell ⟨w.heap.size, 2, none⟩ (.bool y.e.m.g)).setCell ⟨w.heap.size, 3, none⟩ (.string y.e.x) = WF at *
      obtain ⟨hf, hbf⟩ := HF.out
      have z0 : WF.cell? ⟨w.heap.size, 0, none⟩ = some (.string y.e.m.k) := cell_of_row WF _ 0 _ _ (0, 0) hf
      have z1 : WF.cell? ⟨w.heap.size, 1, none⟩ = some (.int .u64 (y.e.m.s : Int)) := cell_of_row WF _ 1 _ _ (0, 0) hf
      have z2 : WF.cell? ⟨w.heap.size, 2, none⟩ = some (.bool y.e.m.g) := cell_of_row WF _ 2 _ _ (0, 0) hf
      have z3 : WF.cell? ⟨w.heap.size, 3, none⟩ = some (.string y.e.x) := cell_of_row WF _ 3 _ _ (0, 0) hf
      exact bodyPost_ret (v := .tuple #[.agg #[(.string y.e.m.k), (.int .u64 (y.e.m.s : Int)), (.bool y.e.m.g), (.string y.e.x)], .bool true]) (by simp [results, Tryz.results33, go_sem, z0, z1, z2, z3]) rfl ⟨rfl, hbf⟩
    · rw [show getE (ns.map Nd.e) k s = none from HGet.out.trans (if_neg hk)]
      have hks : (y.e.m.k.toList == k.toList) = false := by rw [txt_eqB]; exact decide_eq_false hk
      go_enter Tryz.func33, Tryz.ntmps33
      go_wp2_with fail
      refine HF2.out.mono ?_
      rintro e w2 ⟨rfl, hb⟩
      have hbx := (hb.block _ HZ.out).trans HBX.out
      have z0 : w2.cell? ⟨w.heap.size, 0, none⟩ = some (.string ⟨#[]⟩) := cell_of_row w2 _ 0 _ _ (0, 0) hbx
      have z1 : w2.cell? ⟨w.heap.size, 1, none⟩ = some (.int .u64 0) := cell_of_row w2 _ 1 _ _ (0, 0) hbx
      have z2 : w2.cell? ⟨w.heap.size, 2, none⟩ = some (.bool false) := cell_of_row w2 _ 2 _ _ (0, 0) hbx
      have z3 : w2.cell? ⟨w.heap.size, 3, none⟩ = some (.string ⟨#[]⟩) := cell_of_row w2 _ 3 _ _ (0, 0) hbx
      have f0 : w2.frozen? ⟨w.heap.size, 0, none⟩ = false := by simp [World.frozen?, hbx]
      have f1 : w2.frozen? ⟨w.heap.size, 1, none⟩ = false := by simp [World.frozen?, hbx]
      have f2 : w2.frozen? ⟨w.heap.size, 2, none⟩ = false := by simp [World.frozen?, hbx]
      have f3 : w2.frozen? ⟨w.heap.size, 3, none⟩ = false := by simp [World.frozen?, hbx]
      obtain ⟨y0, y1, y2, y3, _⟩ := (HT2.out.below hb).node
      have HF := Lib.hid (four_set hbx (HB.out.trans (hb.mono HB.out.size)) (Nat.le_refl _) (.string ⟨#[]⟩) (.int .u64 0) (.bool false) (.string ⟨#[]⟩))
      clear hb hbx hW
      clear hk
      go_wp2
      clear z0 z1 z2 z3 f0 f1 f2 f3
      generalize (((w2.setCell ⟨w.heap.size, 0, none⟩ (.string ⟨#[]⟩)).setCell ⟨w.heap.size, 1, none⟩ (.int .u64 0)).setCell ⟨w.heap.size, 2, none⟩ (.bool false)).setCell ⟨w.heap.size, 3, none⟩ (.string ⟨#[]⟩) = WF at *
      obtain ⟨hf, hbf⟩ := HF.out
      have z0 : WF.cell? ⟨w.heap.size, 0, none⟩ = some (.string ⟨#[]⟩) := cell_of_row WF _ 0 _ _ (0, 0) hf
      have z1 : WF.cell? ⟨w.heap.size, 1, none⟩ = some (.int .u64 0) := cell_of_row WF _ 1 _ _ (0, 0) hf
      have z2 : WF.cell? ⟨w.heap.size, 2, none⟩ = some (.bool false) := cell_of_row WF _ 2 _ _ (0, 0) hf
      have z3 : WF.cell? ⟨w.heap.size, 3, none⟩ = some (.string ⟨#[]⟩) := cell_of_row WF _ 3 _ _ (0, 0) hf
      exact bodyPost_ret (v := .tuple #[.agg #[(.string ⟨#[]⟩), (.int .u64 0), (.bool false), (.string ⟨#[]⟩)], .bool false]) (by simp [results, Tryz.results33, go_sem, z0, z1, z2, z3]) rfl ⟨rfl, hbf⟩
end Go.Proofs.YtopcnlophmplgaaGreatDoor
