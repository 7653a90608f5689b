/-
  Package tables: New, Put.
-/
import Derived.Test.YtopcnlophmplgaaGreatDoorTabC
import Derived.Test.YtopcnlophmplgaaGreatDoorTabL
import Derived.Deep.QuietTactic
import Derived.BigQuiet
namespace Go.Proofs.YtopcnlophmplgaaGreatDoor
open Go.RowKit
set_option linter.unusedVariables false
set_option maxRecDepth 100000

theorem PathOK.eight {pre : List Nd} {cs : Array Value} (h : PathOK pre 0 cs) : ∃ q0 q1 q2 q3 q4 q5 q6 q7, cs = #[tp q0, tp q1, tp q2, tp q3, tp q4, tp q5, tp q6, tp q7] ∧ LastAt 0 pre q0 := by
  obtain ⟨hcz, hcs⟩ := h
  obtain ⟨q0, p0, l0⟩ := hcs 0 (Nat.le_refl _) (by decide)
  obtain ⟨q1, p1, l1⟩ := hcs 1 (Nat.zero_le _) (by decide)
  obtain ⟨q2, p2, l2⟩ := hcs 2 (Nat.zero_le _) (by decide)
  obtain ⟨q3, p3, l3⟩ := hcs 3 (Nat.zero_le _) (by decide)
  obtain ⟨q4, p4, l4⟩ := hcs 4 (Nat.zero_le _) (by decide)
  obtain ⟨q5, p5, l5⟩ := hcs 5 (Nat.zero_le _) (by decide)
  obtain ⟨q6, p6, l6⟩ := hcs 6 (Nat.zero_le _) (by decide)
  obtain ⟨q7, p7, l7⟩ := hcs 7 (Nat.zero_le _) (by decide)
  refine ⟨q0, q1, q2, q3, q4, q5, q6, q7, ?_, l0⟩
  apply Array.ext_getElem?
  intro i
  rcases i with _ | _ | _ | _ | _ | _ | _ | _ | i
  · exact p0
  · exact p1
  · exact p2
  · exact p3
  · exact p4
  · exact p5
  · exact p6
  · exact p7
  · rw [Array.getElem?_eq_none (by rw [hcz]; omega), Array.getElem?_eq_none (by show 8 ≤ _; omega)]
theorem nxt_zero : ∀ R : List Nd, (∀ n ∈ R, 1 ≤ n.h) → nxt 0 R = R.head?.map Nd.b
  | [], _ => rfl
  | n :: R, h => by rw [nxt, if_pos (by have := h n (by simp); omega)]; rfl
theorem LastAt.zero {pre : List Nd} {q : Nat} (h : LastAt 0 pre q) (ht : ∀ n ∈ pre, 1 ≤ n.h) : ∃ A n, pre = A ++ [n] ∧ n.b = q ∧ 1 ≤ n.h := by
  obtain ⟨A, n, B, rfl, h1, h2, h3⟩ := h
  have : B = [] := by
    cases B with
    | nil => rfl
    | cons x B => have := h3 x (by simp); have := ht x (by simp); omega
  subst this
  exact ⟨A, n, rfl, h1, h2⟩

/-- a table is made -/
theorem new_any (w : World) : Calls Tryz.prog 30 #[] w fun e w' => ∃ t hd, e = .returned (tp t) ∧ TabN w' t hd [] ∧ w.heap.size ≤ t ∧ w.heap.size ≤ hd ∧ Below w.heap.size w w' := by
  go_enter Tryz.func30, Tryz.ntmps30
  go_wp2
  go_ret
  have h1 : (w.alloc (Obj.cells (ncs zeroE 8 []).toArray 140)).heap[w.heap.size]? = some (.cells (ncs zeroE 8 []).toArray 140 (0, 0)) := heap_alloc_new w _
  have hz : (w.alloc (Obj.cells (ncs zeroE 8 []).toArray 140)).heap.size = w.heap.size + 1 := by simp
  have h2 : ((w.alloc (Obj.cells (ncs zeroE 8 []).toArray 140)).alloc (Obj.cells #[tp w.heap.size, .int .i64 0, .int .i64 0] 142)).heap[w.heap.size + 1]? = some (.cells #[tp w.heap.size, .int .i64 0, .int .i64 0] 142 (0, 0)) := by
    rw [← hz]; exact heap_alloc_new _ _
  refine ⟨w.heap.size + 1, w.heap.size, rfl, ⟨h2, ⟨?_, trivial⟩, by simp, (fun n hn => by cases hn), List.Pairwise.nil, (fun n hn => by cases hn), by decide⟩, Nat.le_succ _, Nat.le_refl _, ((Below.refl _ _).alloc (Nat.le_refl _) _).alloc (by simp) _⟩
  exact (Below.heap_alloc (w.alloc (Obj.cells (ncs zeroE 8 []).toArray 140)) _ w.heap.size (by rw [hz]; exact Nat.lt_succ_self _)).trans h1

theorem nodup_ins {hd b : Nat} {A Q : List Nat} (h : (hd :: (A ++ Q)).Nodup) (hb : b ∉ hd :: (A ++ Q)) : (hd :: (A ++ b :: Q)).Nodup := by
  have hp : (hd :: (A ++ b :: Q)).Perm (b :: hd :: (A ++ Q)) := (List.perm_middle.cons hd).trans (List.Perm.swap b hd _)
  exact hp.nodup_iff.2 (List.nodup_cons.2 ⟨hb, h⟩)
/-- the table's memory where an entry has been linked in, and counted -/
theorem tab_done {w W5 w6 W8 : World} {t hd b : Nat} {ns A Q : List Nd} {x : En} {k : Nat} {o : Obj} (h : TabN w t hd ns) (hb5 : Below w.heap.size w W5) (hal : Below W5.heap.size W5 (W5.drew.alloc o)) (hT5 : TabN W5 t hd ns)
    (hp : Parted hd ns x.m A Q) (hno : ¬ ∃ y Q', Q = y :: Q' ∧ y.e.m = x.m) (hf : fineE x = true) (hn : ns.length < 4096) (hk : 1 ≤ k) (hb : b = W5.heap.size)
    (hs6 : Skip w6 (head hd :: A ++ (⟨b, x, k⟩ : Nd) :: Q)) (hw6 : Wrote (fun i => i ∈ (head hd :: A ++ (⟨b, x, 0⟩ : Nd) :: Q).map Nd.b) (W5.drew.alloc o) w6)
    (h8 : W8.heap[t]? = some (.cells #[tp hd, .int .i64 ((ns.length + 1 : Nat) : Int), .int .i64 ((esum (ns.map Nd.e) + (x.m.k.size + x.x.size) : Nat) : Int)] 142 (0, 0))) (ho : ∀ i, i ≠ t → W8.heap[i]? = w6.heap[i]?) (hos : W8.os = w6.os ∧ W8.tape = w6.tape ∧ W8.output = w6.output ∧ W8.heap.size = w6.heap.size) :
    TabN W8 t hd (A ++ (⟨b, x, k⟩ : Nd) :: Q) ∧ Wrote (fun i => i = t ∨ i = hd ∨ i ∈ ns.map Nd.b) w W8 := by
  have hl5 := hT5.lt
  have hl := h.lt
  have hne := hT5.ne
  have hbn : b ∉ hd :: ns.map Nd.b := fun hm => by
    rcases List.mem_cons.1 hm with e | hm
    · omega
    · obtain ⟨n, hn, e⟩ := List.mem_map.1 hm
      have := hl5.2.2 n hn; omega
  have hnd : (hd :: (A ++ (⟨b, x, k⟩ : Nd) :: Q).map Nd.b).Nodup := by
    have h1 := hT5.nodup
    rw [hp.eq, List.map_append] at h1 hbn
    rw [List.map_append, List.map_cons]
    exact nodup_ins h1 hbn
  have hin : ∀ n ∈ A ++ (⟨b, x, k⟩ : Nd) :: Q, n ∈ ns ∨ n = ⟨b, x, k⟩ := fun n hn => by
    rw [hp.eq]
    simp only [List.mem_append, List.mem_cons] at hn ⊢
    rcases hn with hn | hn | hn
    · exact .inl (.inl hn)
    · exact .inr hn
    · exact .inl (.inr hn)
  have htn : ∀ n ∈ A ++ (⟨b, x, k⟩ : Nd) :: Q, n.b ≠ t := fun n hn e => by
    rcases hin n hn with h1 | h1
    · exact hne.2 n h1 e.symm
    · subst h1
      have e : b = t := e
      have := hl5.1; omega
  have hes : insE x (ns.map Nd.e) = (A ++ (⟨b, x, k⟩ : Nd) :: Q).map Nd.e := by
    rw [hp.ins x rfl, List.map_append, List.map_cons]
  have hlen : (A ++ (⟨b, x, k⟩ : Nd) :: Q).length = ns.length + 1 := by rw [hp.eq]; simp; omega
  have hth : ¬ ∃ e ∈ ns.map Nd.e, e.m = x.m := fun q => hno ((hp.there h.rise).1 q)
  refine ⟨⟨?_, ?_, hnd, fun n hn => ?_, ?_, fun n hn => ?_, by omega⟩, ?_⟩
  · rw [h8, hlen, ← hes, esum_insE]
  · refine hs6.keep fun n hn => ho _ fun e => ?_
    rcases List.mem_cons.1 hn with rfl | hn
    · exact hne.1 e.symm
    · exact htn n hn e
  · rcases hin n hn with h1 | h1
    · exact h.tall n h1
    · subst h1; exact hk
  · rw [← hes]
    exact h.rise.ins x fun e he hm => hth ⟨e, he, hm⟩
  · rcases hin n hn with h1 | h1
    · exact h.fine n h1
    · subst h1; exact hf
  · have hsz := hb5.size
    have hsz2 := hal.size
    have hsz3 := hw6.size
    refine ⟨hos.1.trans (hw6.os.trans (hal.os.trans hb5.os)), hos.2.1.trans (hw6.tape.trans (hal.tape.trans hb5.tape)), hos.2.2.1.trans (hw6.output.trans (hal.output.trans hb5.output)), by omega, fun i hi hS => ?_⟩
    have hit : i ≠ t := fun e => hS (.inl e)
    rw [ho i hit, hw6.block i (by omega) fun hm => ?_, hal.block i (by omega), hb5.block i hi]
    simp only [List.cons_append, List.map_cons, List.map_append, List.mem_cons, List.mem_append] at hm
    rcases hm with e | hm | e | hm
    · exact hS (.inr (.inl e))
    · exact hS (.inr (.inr (by rw [hp.eq, List.map_append]; exact List.mem_append_left _ hm)))
    · have e : i = b := e
      omega
    · exact hS (.inr (.inr (by rw [hp.eq, List.map_append]; exact List.mem_append_right _ hm)))
abbrev te (e : Nat) : Value := .int .i64 (e : Int)
section
variable {w : World} {t hd : Nat} {ns : List Nd} (h : TabN w t hd ns) (x : En) (hk : x.m.k.size ≤ 140737488351232) (hx : x.x.size ≤ 140737488351232)
include h hk hx
theorem put_bad (k : Int) (hbad : fineE x = false ∨ k < 1 ∨ 8 < k) :
    Calls Tryz.prog 31 #[tp t, x.v, .int .i64 k] w fun e w' => e = .returned (te 1) ∧ Below w.heap.size w w' := by
  have HV : Hid (∀ W, Calls Tryz.prog 115 #[x.v] W fun e w' => e = .returned (.bool (fineE x)) ∧ Below W.heap.size W w') := fun W => valid_any x W hk hx
  obtain ⟨b0, b1, b2, b3, hB, hz⟩ := enW_facts w x
  have hT := h.below hB
  obtain ⟨W, hW⟩ : ∃ W, w.alloc (Obj.cells #[.string x.m.k, .int .u64 (x.m.s : Int), .bool x.m.g, .string x.x] 83) = W := ⟨_, rfl⟩
  rw [show enW w x = W from hW] at b0 b1 b2 b3 hB hT hz
  have c0 := hT.c0
  have HT := Lib.hid hT; have HB := Lib.hid hB
  clear hT hB h
  unfold En.v at HV ⊢
  go_enter Tryz.func31, Tryz.ntmps31
  go_wp2_with fail
  clear hW
  refine (exists_yes t hd W c0).mono ?_
  rintro e w' ⟨rfl, rfl⟩
  have HB2 : Hid (∀ W', Below W.heap.size W W' → Below w.heap.size w W') := fun W' hb => HB.out.trans (hb.mono HB.out.size)
  cases hf : fineE x
  · rw [hf] at HV
    go_wp2_with fail
    refine (HV.out W).mono ?_
    rintro e w' ⟨rfl, hb⟩
    have HF := Lib.hid (HB2.out _ hb)
    clear hb
    go_wp2
    go_ret
    exact ⟨rfl, HF.out⟩
  · rw [hf] at HV
    have hk2 : k < 1 ∨ 8 < k := by
      rcases hbad with h | h
      · rw [hf] at h; cases h
      · exact h
    clear hbad
    go_wp2_with fail
    refine (HV.out W).mono ?_
    rintro e w' ⟨rfl, hb⟩
    have HF := Lib.hid (HB2.out _ hb)
    clear hb
    by_cases h1 : k < 1
    · go_wp2
      go_ret
      exact ⟨rfl, HF.out⟩
    · have h8 : 8 < k := by omega
      go_wp2
      go_ret
      exact ⟨rfl, HF.out⟩
/-- what a table does with an entry that may be, whose mark's place parts its nodes -/
def PutPost (w : World) (t hd : Nat) (ns : List Nd) (x : En) (k : Nat) (A Q : List Nd) (e : Ending) (w' : World) : Prop :=
  ((∃ y Q', Q = y :: Q' ∧ y.e.m = x.m) ∧ e = .returned (te 8) ∧ Below w.heap.size w w') ∨
  (¬ (∃ y Q', Q = y :: Q' ∧ y.e.m = x.m) ∧ 4096 ≤ ns.length ∧ e = .returned (te 6) ∧ Below w.heap.size w w') ∨
  (¬ (∃ y Q', Q = y :: Q' ∧ y.e.m = x.m) ∧ ns.length < 4096 ∧ e = .returned (te 0) ∧ ∃ b, w.heap.size ≤ b ∧ TabN w' t hd (A ++ (⟨b, x, k⟩ : Nd) :: Q) ∧ Wrote (fun i => i = t ∨ i = hd ∨ i ∈ ns.map Nd.b) w w')

set_option maxHeartbeats 4000000 in
theorem put_fine (k : Nat) (hk1 : 1 ≤ k) (hk8 : k ≤ 8) (hf : fineE x = true) {A Q : List Nd} (hp : Parted hd ns x.m A Q) :
    Calls Tryz.prog 31 #[tp t, x.v, .int .i64 (k : Int)] w fun e w' => PutPost w t hd ns x k A Q e w' := by
  have HV : Hid (∀ W, Calls Tryz.prog 115 #[x.v] W fun e w' => e = .returned (.bool (fineE x)) ∧ Below W.heap.size W w') := fun W => valid_any x W hk hx
  rw [hf] at HV
  obtain ⟨b0, b1, b2, b3, hB, hz⟩ := enW_facts w x
  have hT := h.below hB
  obtain ⟨W, hW⟩ : ∃ W, w.alloc (Obj.cells #[.string x.m.k, .int .u64 (x.m.s : Int), .bool x.m.g, .string x.x] 83) = W := ⟨_, rfl⟩
  rw [show enW w x = W from hW] at b0 b1 b2 b3 hB hT hz
  have c0 := hT.c0
  have H := Lib.hid h
  have HT := Lib.hid hT; have HB := Lib.hid hB
  have HP := Lib.hid hp
  have i1 : decide ((k : Int) < 1) = false := decide_eq_false (by omega)
  have i8 : decide ((8 : Int) < (k : Int)) = false := decide_eq_false (by omega)
  clear hT hB h hp
  unfold En.v at HV ⊢
  go_enter Tryz.func31, Tryz.ntmps31
  go_wp2_with fail
  clear hW
  refine (exists_yes t hd W c0).mono ?_
  rintro e w' ⟨rfl, rfl⟩
  go_wp2_with fail
  refine (HV.out W).mono ?_
  rintro e W2 ⟨rfl, hb⟩
  have hT := HT.out.below hb
  have c0' := hT.c0
  have HBF := Lib.hid (before_ok hT.c0 hT.skip HP.out)
  have HT := Lib.hid hT
  have HB := Lib.hid (HB.out.trans (hb.mono HB.out.size))
  clear hT
  have d0 : W2.cell? ⟨w.heap.size, 0, none⟩ = some (.string x.m.k) := (hb.cell (p := ⟨w.heap.size, 0, none⟩) (by show w.heap.size < _; omega)).trans b0
  have d1 : W2.cell? ⟨w.heap.size, 1, none⟩ = some (.int .u64 (x.m.s : Int)) := (hb.cell (p := ⟨w.heap.size, 1, none⟩) (by show w.heap.size < _; omega)).trans b1
  have d2 : W2.cell? ⟨w.heap.size, 2, none⟩ = some (.bool x.m.g) := (hb.cell (p := ⟨w.heap.size, 2, none⟩) (by show w.heap.size < _; omega)).trans b2
  have d3 : W2.cell? ⟨w.heap.size, 3, none⟩ = some (.string x.x) := (hb.cell (p := ⟨w.heap.size, 3, none⟩) (by show w.heap.size < _; omega)).trans b3
  have hz2 : w.heap.size < W2.heap.size := by have := hb.size; omega
  clear hb c0 b0 b1 b2 b3 hz
  unfold Mk.v at HBF
  go_wp2_with fail
  refine HBF.out.mono ?_
  rintro e W3 ⟨cs, rfl, hok, hb⟩
  obtain ⟨q0, q1, q2, q3, q4, q5, q6, q7, rfl, hl⟩ := hok.eight
  obtain ⟨W4, hW4⟩ : ∃ W4, W3.alloc (Obj.cells #[tp q0, tp q1, tp q2, tp q3, tp q4, tp q5, tp q6, tp q7] 138) = W4 := ⟨_, rfl⟩
  obtain ⟨P, hPe⟩ : ∃ P, W3.heap.size = P := ⟨_, rfl⟩
  have hPW : W4.heap[P]? = some (.cells #[tp q0, tp q1, tp q2, tp q3, tp q4, tp q5, tp q6, tp q7] 138 (0, 0)) := by rw [← hW4, ← hPe]; exact heap_alloc_new W3 _
  have hb4 : Below W2.heap.size W2 W4 := by rw [← hW4]; exact hb.trans ((Below.refl _ _).alloc hb.size _)
  have hP2 : W2.heap.size ≤ P := by rw [← hPe]; exact hb.size
  have hP4 : W4.heap.size = P + 1 := by rw [← hW4, ← hPe]; simp
  have p0 : W4.cell? ⟨P, 0, none⟩ = some (.pointer (some ⟨q0, 0, none⟩)) := cell_of_row W4 P 0 _ _ (0, 0) hPW
  have hT4 := HT.out.below hb4
  have g0 : W4.cell? ⟨w.heap.size, 0, none⟩ = some (.string x.m.k) := (hb4.cell (p := ⟨w.heap.size, 0, none⟩) hz2).trans d0
  have g1 : W4.cell? ⟨w.heap.size, 1, none⟩ = some (.int .u64 (x.m.s : Int)) := (hb4.cell (p := ⟨w.heap.size, 1, none⟩) hz2).trans d1
  have g2 : W4.cell? ⟨w.heap.size, 2, none⟩ = some (.bool x.m.g) := (hb4.cell (p := ⟨w.heap.size, 2, none⟩) hz2).trans d2
  have g3 : W4.cell? ⟨w.heap.size, 3, none⟩ = some (.string x.x) := (hb4.cell (p := ⟨w.heap.size, 3, none⟩) hz2).trans d3
  have HB := Lib.hid (HB.out.trans (hb4.mono HB.out.size))
  have hzP : w.heap.size < P := by omega
  have c1 := hT4.c1
  have c2 := hT4.c2
  obtain ⟨L, q, hL, rfl, hqh⟩ := hl.zero (fun n hn => by
    rcases List.mem_cons.1 hn with rfl | hn
    · show 1 ≤ 8; decide
    · exact hT4.tall n (by rw [HP.out.eq]; simp [hn]))
  have hsk : Skip W4 (L ++ q :: Q) := by
    have h1 := hT4.skip
    rw [HP.out.eq, ← List.cons_append, hL] at h1
    simpa using h1
  have t0 := hsk.tower (j := 0) (by decide)
  rw [show lnk q.h Q 0 = Q.head?.map Nd.b from by unfold lnk; rw [if_pos (by omega)]; exact nxt_zero Q fun n hn => hT4.tall n (by rw [HP.out.eq]; simp [hn])] at t0
  have HT4 := Lib.hid hT4
  have HSK := Lib.hid hsk
  have HPW := Lib.hid hPW
  have HOK := Lib.hid hok
  have HL := Lib.hid hL
  have HP4 := Lib.hid hP4
  clear HT d0 d1 d2 d3 hb hb4 hP2 hT4 hsk hPW hok hL hP4 hl HBF HV hz2 c0'
  have HALL : Hid (∀ nq, TabN (W4.drewN nq) t hd ns ∧ Below w.heap.size w (W4.drewN nq) ∧ (W4.drewN nq).heap[P]? = some (.cells #[tp q.b, tp q1, tp q2, tp q3, tp q4, tp q5, tp q6, tp q7] 138 (0, 0)) ∧ ((W4.drewN nq).cell? ⟨w.heap.size, 0, none⟩ = some (.string x.m.k) ∧ (W4.drewN nq).cell? ⟨w.heap.size, 1, none⟩ = some (.int .u64 (x.m.s : Int)) ∧ (W4.drewN nq).cell? ⟨w.heap.size, 2, none⟩ = some (.bool x.m.g) ∧ (W4.drewN nq).cell? ⟨w.heap.size, 3, none⟩ = some (.string x.x)) ∧ P < (W4.drewN nq).heap.size) := fun nq => by
    have hq := below_drewN (Below.refl W4.heap.size W4) nq
    have hP4 := HP4.out
    have hw4 : w.heap.size < W4.heap.size := by omega
    exact ⟨HT4.out.below hq, below_drewN HB.out nq, (hq.block P (by omega)).trans HPW.out, ⟨(hq.cell (p := ⟨w.heap.size, 0, none⟩) hw4).trans g0, (hq.cell (p := ⟨w.heap.size, 1, none⟩) hw4).trans g1, (hq.cell (p := ⟨w.heap.size, 2, none⟩) hw4).trans g2, (hq.cell (p := ⟨w.heap.size, 3, none⟩) hw4).trans g3⟩, by have := hq.size; omega⟩
  by_cases hth : ∃ y Q', Q = y :: Q' ∧ y.e.m = x.m
  · obtain ⟨y, Q', rfl, hm⟩ := hth
    have hyb := HSK.out
    rw [show L ++ q :: y :: Q' = (L ++ [q]) ++ y :: Q' from by simp] at hyb
    obtain ⟨y0, y1, y2, _⟩ := hyb.entry
    have t1 : W4.cell? ⟨q.b, 4, none⟩ = some (.pointer (some ⟨y.b, 0, none⟩)) := t0
    clear t0 hyb
    rw [hm] at y0 y1 y2
    have HF : Hid (∀ nq, PutPost w t hd ns x k A (y :: Q') (.returned (te 8)) (W4.drewN nq)) := fun nq => .inl ⟨⟨y, Q', rfl, hm⟩, rfl, below_drewN HB.out nq⟩
    clear hm HALL
    go_wp2
    go_quiet (fail)
    go_wp2
    go_ret
    exact HF.out _
  have HNO := Lib.hid hth
  have HF6 : Hid (4096 ≤ ns.length → ∀ W', Below w.heap.size w W' → PutPost w t hd ns x k A Q (.returned (te 6)) W') := fun h W' hb => .inr (.inl ⟨HNO.out, h, rfl, hb⟩)
  have hmax := HT4.out.max
  have IN : Hid (∀ W b, TabN W t hd ns → W.heap[b]? = some (.cells (ncs x 0 Q).toArray 140 (0, 0)) → b ∉ hd :: ns.map Nd.b → W.heap[P]? = some (.cells #[tp q.b, tp q1, tp q2, tp q3, tp q4, tp q5, tp q6, tp q7] 138 (0, 0)) →
      Calls Tryz.prog 117 #[tp b, .slice (some ⟨P, 0, none⟩) k 8] W fun e w' => e = .returned (.tuple #[]) ∧ Skip w' (head hd :: A ++ (⟨b, x, k⟩ : Nd) :: Q) ∧ Wrote (fun i => i ∈ (head hd :: A ++ (⟨b, x, 0⟩ : Nd) :: Q).map Nd.b) W w') := fun W b hT hb hnb hPP => by
    refine insert_ok (n := ⟨b, x, 0⟩) hPP HOK.out ?_ rfl hk8 ?_
    · have h1 := hT.skip
      rw [HP.out.eq, ← List.cons_append] at h1
      exact h1.flat rfl hb
    · have h1 := hT.nodup
      rw [HP.out.eq, List.map_append] at h1
      rw [HP.out.eq, List.map_append] at hnb
      have := nodup_ins h1 hnb
      simpa [head] using this
  have hnsz : 4096 ≤ ns.length ∨ ns.length < 4096 := by omega
  have HQT : (Q = [] ∧ W4.cell? ⟨q.b, 4, none⟩ = some (.pointer none)) ∨ ∃ y Q', Q = y :: Q' ∧ y.e.m ≠ x.m ∧ W4.cell? ⟨q.b, 4, none⟩ = some (.pointer (some ⟨y.b, 0, none⟩)) ∧ W4.cell? ⟨y.b, 0, none⟩ = some (.string y.e.m.k) ∧ W4.cell? ⟨y.b, 1, none⟩ = some (.int .u64 (y.e.m.s : Int)) ∧ W4.cell? ⟨y.b, 2, none⟩ = some (.bool y.e.m.g) := by
    cases hQ : Q with
    | nil => rw [hQ] at t0; exact .inl ⟨rfl, t0⟩
    | cons y Q' =>
      rw [hQ] at t0
      have hyb := HSK.out
      rw [hQ, show L ++ q :: y :: Q' = (L ++ [q]) ++ y :: Q' from by simp] at hyb
      obtain ⟨y0, y1, y2, _⟩ := hyb.entry
      exact .inr ⟨y, Q', rfl, fun e => hth ⟨y, Q', hQ, e⟩, t0, y0, y1, y2⟩
  clear t0 hth hmax g3
  rcases HQT with ⟨hQ, t1⟩ | ⟨y, Q', hQ, hm, t1, y0, y1, y2⟩
  · have HQ := Lib.hid hQ
    clear hQ g0 g1 g2
    go_wp2
    go_quiet (fail)
    obtain ⟨hT5, hB5, hP5, ⟨g0, g1, g2, g3⟩, hl5⟩ := HALL.out nq
    have c1 := hT5.c1
    generalize W4.drewN nq = W5 at *
    rcases hnsz with hns | hns
    · have i9 : (4096 : Int) ≤ (ns.length : Int) := by omega
      have HFF := Lib.hid (HF6.out hns W5 hB5)
      go_wp2
      go_ret
      exact HFF.out
    · have i9 : ¬ (4096 : Int) ≤ (ns.length : Int) := by omega
      have hd0 : Below W5.heap.size W5 W5.drew := (Below.refl _ _).drew
      have hw5 : w.heap.size < W5.heap.size := by omega
      have eN : (ncs x 0 Q).toArray = #[.string x.m.k, .int .u64 (x.m.s : Int), .bool x.m.g, .string x.x, .pointer none, .pointer none, .pointer none, .pointer none, .pointer none, .pointer none, .pointer none, .pointer none] := rfl
      have hal : Below W5.heap.size W5 (W5.drew.alloc (.cells (ncs x 0 Q).toArray 140)) := hd0.alloc hd0.size _
      have hnb : W5.heap.size ∉ hd :: ns.map Nd.b := fun hm => by
        rcases List.mem_cons.1 hm with e | hm
        · have := hT5.lt.2.1; omega
        · obtain ⟨n, hn, e⟩ := List.mem_map.1 hm
          have := hT5.lt.2.2 n hn; omega
      have INS := Lib.hid (IN.out (W5.drew.alloc (.cells (ncs x 0 Q).toArray 140)) W5.heap.size (hT5.below hal) (heap_alloc_new W5.drew _) hnb ((hal.block P hl5).trans hP5))
      have HAL := Lib.hid hal
      rw [eN] at INS HAL
      have KE : Hid (∀ W', Below W5.heap.size W5 W' → W'.cell? ⟨w.heap.size, 0, none⟩ = some (.string x.m.k) ∧ W'.cell? ⟨w.heap.size, 1, none⟩ = some (.int .u64 (x.m.s : Int)) ∧ W'.cell? ⟨w.heap.size, 2, none⟩ = some (.bool x.m.g) ∧ W'.cell? ⟨w.heap.size, 3, none⟩ = some (.string x.x)) :=
        fun W' hb => ⟨(hb.cell (p := ⟨w.heap.size, 0, none⟩) hw5).trans g0, (hb.cell (p := ⟨w.heap.size, 1, none⟩) hw5).trans g1, (hb.cell (p := ⟨w.heap.size, 2, none⟩) hw5).trans g2, (hb.cell (p := ⟨w.heap.size, 3, none⟩) hw5).trans g3⟩
      have KF : Hid (∀ W', Wrote (fun i => i ∈ (head hd :: A ++ (⟨W5.heap.size, x, 0⟩ : Nd) :: Q).map Nd.b) (W5.drew.alloc (.cells (ncs x 0 Q).toArray 140)) W' → W'.cell? ⟨w.heap.size, 0, none⟩ = some (.string x.m.k) ∧ W'.cell? ⟨w.heap.size, 1, none⟩ = some (.int .u64 (x.m.s : Int)) ∧ W'.cell? ⟨w.heap.size, 2, none⟩ = some (.bool x.m.g) ∧ W'.cell? ⟨w.heap.size, 3, none⟩ = some (.string x.x)) := fun W' hw => by
        have hno : w.heap.size ∉ (head hd :: A ++ (⟨W5.heap.size, x, 0⟩ : Nd) :: Q).map Nd.b := by
          intro hm
          have hl := H.out.lt
          rw [HP.out.eq] at hl
          simp only [List.map_append, List.map_cons, List.mem_append, List.mem_cons, List.cons_append, List.mem_map, head] at hm
          rcases hm with e | ⟨n, hn, e⟩ | e | ⟨n, hn, e⟩
          · have := hl.2.1; omega
          · have := hl.2.2 n (by simp [hn]); omega
          · omega
          · have := hl.2.2 n (by simp [hn]); omega
        have hbk := hw.block w.heap.size (Nat.lt_of_lt_of_le hw5 hal.size) hno
        obtain ⟨k0, k1, k2, k3⟩ := KE.out _ hal
        exact ⟨by rw [World.cell?, hbk]; exact k0, by rw [World.cell?, hbk]; exact k1, by rw [World.cell?, hbk]; exact k2, by rw [World.cell?, hbk]; exact k3⟩
      have HT5 := Lib.hid hT5
      have HB5 := Lib.hid hB5
      have hk0 : (0 : Int) ≤ (k : Int) := by omega
      have hk8' : (k : Int) ≤ 8 := by omega
      clear hT5 hB5 hP5 hnb hal eN hl5
      go_wp2
      go_region_held3 (fun W' => W'.cell? ⟨w.heap.size, 0, none⟩ = some (.string x.m.k) ∧ W'.cell? ⟨w.heap.size, 1, none⟩ = some (.int .u64 (x.m.s : Int)) ∧ W'.cell? ⟨w.heap.size, 2, none⟩ = some (.bool x.m.g) ∧ W'.cell? ⟨w.heap.size, 3, none⟩ = some (.string x.x)) (first | exact KE.out _ hd0 | exact KE.out _ HAL.out | exact KF.out _ hw6)
        (first
          | (go_at_call 117; refine INS.out.mono ?_; rintro e w6 ⟨rfl, hs6, hw6⟩)
          | fail)
      have hT6 : w6.heap[t]? = some (.cells #[tp hd, .int .i64 (ns.length : Int), .int .i64 (esum (ns.map Nd.e) : Int)] 142 (0, 0)) := by
        have hlt := HT5.out.lt
        have hsz := HAL.out.size
        refine ((hw6.block t (Nat.lt_of_lt_of_le hlt.1 hsz) fun hm => ?_).trans (HAL.out.block t hlt.1)).trans HT5.out.box
        have hne := HT5.out.ne
        rw [HP.out.eq] at hne
        simp only [List.cons_append, List.map_cons, List.map_append, List.mem_cons, List.mem_append, List.mem_map] at hm
        rcases hm with e | ⟨n, hn, e⟩ | e | ⟨n, hn, e⟩
        · exact hne.1 e
        · exact hne.2 n (by simp [hn]) e.symm
        · have e : t = W5.heap.size := e
          omega
        · exact hne.2 n (by simp [hn]) e.symm
      have u0 : w6.cell? ⟨t, 0, none⟩ = some (tp hd) := cell_of_row w6 t 0 _ _ (0, 0) hT6
      have u1 : w6.cell? ⟨t, 1, none⟩ = some (.int .i64 (ns.length : Int)) := cell_of_row w6 t 1 _ _ (0, 0) hT6
      have u2 : w6.cell? ⟨t, 2, none⟩ = some (.int .i64 (esum (ns.map Nd.e) : Int)) := cell_of_row w6 t 2 _ _ (0, 0) hT6
      have f1 : w6.frozen? ⟨t, 1, none⟩ = false := by simp [World.frozen?, hT6]
      have f2 : w6.frozen? ⟨t, 2, none⟩ = false := by simp [World.frozen?, hT6]
      have HT6 := Lib.hid hT6
      have HS6 := Lib.hid hs6
      have HW6 := Lib.hid hw6
      obtain ⟨r0, r1, r2, r3⟩ := KF.out _ hw6
      clear hT6 hs6 hw6
      obtain ⟨w7, hW7⟩ : ∃ w7, w6.setCell ⟨t, 1, none⟩ (.int .i64 ((ns.length : Int) + 1)) = w7 := ⟨_, rfl⟩
      have hwt : w.heap.size ≠ t := by have := H.out.lt.1; omega
      have h7 : ∀ b o v, b ≠ t → w6.cell? ⟨b, o, none⟩ = some v → w7.cell? ⟨b, o, none⟩ = some v := fun b o v hb hc => by
        rw [← hW7, World.cell?, Below.heap_setCell _ _ _ b hb]; exact hc
      have s0 := h7 _ _ _ hwt r0
      have s3 := h7 _ _ _ hwt r3
      have hT7 : w7.heap[t]? = some (.cells #[tp hd, .int .i64 ((ns.length : Int) + 1), .int .i64 (esum (ns.map Nd.e) : Int)] 142 (0, 0)) := by
        rw [← hW7]; exact heap_set (l := [tp hd, .int .i64 (ns.length : Int), .int .i64 (esum (ns.map Nd.e) : Int)]) HT6.out _
      have v2 : w7.cell? ⟨t, 2, none⟩ = some (.int .i64 (esum (ns.map Nd.e) : Int)) := cell_of_row w7 t 2 _ _ (0, 0) hT7
      have f2 : w7.frozen? ⟨t, 2, none⟩ = false := by simp [World.frozen?, hT7]
      have hes := esum_le (S := ns.map Nd.e) (fun e he => by obtain ⟨n, hn, rfl⟩ := List.mem_map.1 he; exact H.out.fine n hn)
      rw [List.length_map] at hes
      have hfx := fine_size hf
      have m1 : IntKind.i64.wrap ((x.m.k.size : Int) + (x.x.size : Int)) = (x.m.k.size : Int) + (x.x.size : Int) := IntWalk.i64_in _ (by omega)
      have m2 : IntKind.i64.wrap ((esum (ns.map Nd.e) : Int) + ((x.m.k.size : Int) + (x.x.size : Int))) = (esum (ns.map Nd.e) : Int) + ((x.m.k.size : Int) + (x.x.size : Int)) := IntWalk.i64_in _ (by omega)
      have HT7 := Lib.hid hT7
      have HX7 : Hid (∀ i, i ≠ t → w7.heap[i]? = w6.heap[i]?) := fun i hi => by rw [← hW7]; exact Below.heap_setCell _ _ _ i hi
      have HO7 : Hid (w7.os = w6.os ∧ w7.tape = w6.tape ∧ w7.output = w6.output ∧ w7.heap.size = w6.heap.size) := by rw [← hW7]; exact ⟨rfl, rfl, rfl, by simp [World.setCell]⟩
      clear hT7 hes hfx h7 r0 r1 r2 r3 u0 u2
      go_wp2
      clear hW7 u1 f1
      go_region
      go_wp2
      go_ret
      have hT8 := heap_set (i := 2) (l := [tp hd, .int .i64 ((ns.length : Int) + 1), .int .i64 (esum (ns.map Nd.e) : Int)]) HT7.out (.int .i64 ((esum (ns.map Nd.e) : Int) + ((x.m.k.size : Int) + (x.x.size : Int))))
      refine .inr (.inr ⟨HNO.out, hns, rfl, W5.heap.size, HB5.out.size, tab_done H.out HB5.out HAL.out HT5.out HP.out HNO.out hf hns hk1 rfl HS6.out HW6.out ?_ (fun i hi => ?_) ⟨?_, ?_, ?_, ?_⟩⟩)
      · rw [show (((ns.length + 1 : Nat) : Int)) = (ns.length : Int) + 1 from by omega, show (((esum (ns.map Nd.e) + (x.m.k.size + x.x.size) : Nat) : Int)) = (esum (ns.map Nd.e) : Int) + ((x.m.k.size : Int) + (x.x.size : Int)) from by omega]
        exact hT8
      · exact (Below.heap_setCell w7 ⟨t, 2, none⟩ _ i hi).trans (HX7.out i hi)
      · exact HO7.out.1
      · exact HO7.out.2.1
      · exact HO7.out.2.2.1
      · rw [← HO7.out.2.2.2]; simp [World.setCell]
  · have HQ := Lib.hid hQ
    clear hQ
    by_cases hk0 : y.e.m.k = x.m.k
    · rw [hk0] at y0
      by_cases hs0 : y.e.m.s = x.m.s
      · rw [hs0] at y1
        have hg0 : y.e.m.g ≠ x.m.g := fun e => hm (by rw [show y.e.m = ⟨y.e.m.k, y.e.m.s, y.e.m.g⟩ from rfl, hk0, hs0, e])
        have hg1 : (y.e.m.g == x.m.g) = false := by simpa using hg0
        clear hm hs0 hk0 hg0
        go_wp2
        go_quiet (fail)
        clear hg1 g0 g1 g2
        obtain ⟨hT5, hB5, hP5, ⟨g0, g1, g2, g3⟩, hl5⟩ := HALL.out nq
        have c1 := hT5.c1
        generalize W4.drewN nq = W5 at *
        rcases hnsz with hns | hns
        · have i9 : (4096 : Int) ≤ (ns.length : Int) := by omega
          have HFF := Lib.hid (HF6.out hns W5 hB5)
          go_wp2
          go_ret
          exact HFF.out
        · have i9 : ¬ (4096 : Int) ≤ (ns.length : Int) := by omega
          have hd0 : Below W5.heap.size W5 W5.drew := (Below.refl _ _).drew
          have hw5 : w.heap.size < W5.heap.size := by omega
          have eN : (ncs x 0 Q).toArray = #[.string x.m.k, .int .u64 (x.m.s : Int), .bool x.m.g, .string x.x, .pointer none, .pointer none, .pointer none, .pointer none, .pointer none, .pointer none, .pointer none, .pointer none] := rfl
          have hal : Below W5.heap.size W5 (W5.drew.alloc (.cells (ncs x 0 Q).toArray 140)) := hd0.alloc hd0.size _
          have hnb : W5.heap.size ∉ hd :: ns.map Nd.b := fun hm => by
            rcases List.mem_cons.1 hm with e | hm
            · have := hT5.lt.2.1; omega
            · obtain ⟨n, hn, e⟩ := List.mem_map.1 hm
              have := hT5.lt.2.2 n hn; omega
          have INS := Lib.hid (IN.out (W5.drew.alloc (.cells (ncs x 0 Q).toArray 140)) W5.heap.size (hT5.below hal) (heap_alloc_new W5.drew _) hnb ((hal.block P hl5).trans hP5))
          have HAL := Lib.hid hal
          rw [eN] at INS HAL
          have KE : Hid (∀ W', Below W5.heap.size W5 W' → W'.cell? ⟨w.heap.size, 0, none⟩ = some (.string x.m.k) ∧ W'.cell? ⟨w.heap.size, 1, none⟩ = some (.int .u64 (x.m.s : Int)) ∧ W'.cell? ⟨w.heap.size, 2, none⟩ = some (.bool x.m.g) ∧ W'.cell? ⟨w.heap.size, 3, none⟩ = some (.string x.x)) :=
            fun W' hb => ⟨(hb.cell (p := ⟨w.heap.size, 0, none⟩) hw5).trans g0, (hb.cell (p := ⟨w.heap.size, 1, none⟩) hw5).trans g1, (hb.cell (p := ⟨w.heap.size, 2, none⟩) hw5).trans g2, (hb.cell (p := ⟨w.heap.size, 3, none⟩) hw5).trans g3⟩
          have KF : Hid (∀ W', Wrote (fun i => i ∈ (head hd :: A ++ (⟨W5.heap.size, x, 0⟩ : Nd) :: Q).map Nd.b) (W5.drew.alloc (.cells (ncs x 0 Q).toArray 140)) W' → W'.cell? ⟨w.heap.size, 0, none⟩ = some (.string x.m.k) ∧ W'.cell? ⟨w.heap.size, 1, none⟩ = some (.int .u64 (x.m.s : Int)) ∧ W'.cell? ⟨w.heap.size, 2, none⟩ = some (.bool x.m.g) ∧ W'.cell? ⟨w.heap.size, 3, none⟩ = some (.string x.x)) := fun W' hw => by
            have hno : w.heap.size ∉ (head hd :: A ++ (⟨W5.heap.size, x, 0⟩ : Nd) :: Q).map Nd.b := by
              intro hm
              have hl := H.out.lt
              rw [HP.out.eq] at hl
              simp only [List.map_append, List.map_cons, List.mem_append, List.mem_cons, List.cons_append, List.mem_map, head] at hm
              rcases hm with e | ⟨n, hn, e⟩ | e | ⟨n, hn, e⟩
              · have := hl.2.1; omega
              · have := hl.2.2 n (by simp [hn]); omega
              · omega
              · have := hl.2.2 n (by simp [hn]); omega
            have hbk := hw.block w.heap.size (Nat.lt_of_lt_of_le hw5 hal.size) hno
            obtain ⟨k0, k1, k2, k3⟩ := KE.out _ hal
            exact ⟨by rw [World.cell?, hbk]; exact k0, by rw [World.cell?, hbk]; exact k1, by rw [World.cell?, hbk]; exact k2, by rw [World.cell?, hbk]; exact k3⟩
          have HT5 := Lib.hid hT5
          have HB5 := Lib.hid hB5
          have hk0 : (0 : Int) ≤ (k : Int) := by omega
          have hk8' : (k : Int) ≤ 8 := by omega
          clear hT5 hB5 hP5 hnb hal eN hl5
          go_wp2
          go_region_held3 (fun W' => W'.cell? ⟨w.heap.size, 0, none⟩ = some (.string x.m.k) ∧ W'.cell? ⟨w.heap.size, 1, none⟩ = some (.int .u64 (x.m.s : Int)) ∧ W'.cell? ⟨w.heap.size, 2, none⟩ = some (.bool x.m.g) ∧ W'.cell? ⟨w.heap.size, 3, none⟩ = some (.string x.x)) (first | exact KE.out _ hd0 | exact KE.out _ HAL.out | exact KF.out _ hw6)
            (first
              | (go_at_call 117; refine INS.out.mono ?_; rintro e w6 ⟨rfl, hs6, hw6⟩)
              | fail)
          have hT6 : w6.heap[t]? = some (.cells #[tp hd, .int .i64 (ns.length : Int), .int .i64 (esum (ns.map Nd.e) : Int)] 142 (0, 0)) := by
            have hlt := HT5.out.lt
            have hsz := HAL.out.size
            refine ((hw6.block t (Nat.lt_of_lt_of_le hlt.1 hsz) fun hm => ?_).trans (HAL.out.block t hlt.1)).trans HT5.out.box
            have hne := HT5.out.ne
            rw [HP.out.eq] at hne
            simp only [List.cons_append, List.map_cons, List.map_append, List.mem_cons, List.mem_append, List.mem_map] at hm
            rcases hm with e | ⟨n, hn, e⟩ | e | ⟨n, hn, e⟩
            · exact hne.1 e
            · exact hne.2 n (by simp [hn]) e.symm
            · have e : t = W5.heap.size := e
              omega
            · exact hne.2 n (by simp [hn]) e.symm
          have u0 : w6.cell? ⟨t, 0, none⟩ = some (tp hd) := cell_of_row w6 t 0 _ _ (0, 0) hT6
          have u1 : w6.cell? ⟨t, 1, none⟩ = some (.int .i64 (ns.length : Int)) := cell_of_row w6 t 1 _ _ (0, 0) hT6
          have u2 : w6.cell? ⟨t, 2, none⟩ = some (.int .i64 (esum (ns.map Nd.e) : Int)) := cell_of_row w6 t 2 _ _ (0, 0) hT6
          have f1 : w6.frozen? ⟨t, 1, none⟩ = false := by simp [World.frozen?, hT6]
          have f2 : w6.frozen? ⟨t, 2, none⟩ = false := by simp [World.frozen?, hT6]
          have HT6 := Lib.hid hT6
          have HS6 := Lib.hid hs6
          have HW6 := Lib.hid hw6
          obtain ⟨r0, r1, r2, r3⟩ := KF.out _ hw6
          clear hT6 hs6 hw6
          obtain ⟨w7, hW7⟩ : ∃ w7, w6.setCell ⟨t, 1, none⟩ (.int .i64 ((ns.length : Int) + 1)) = w7 := ⟨_, rfl⟩
          have hwt : w.heap.size ≠ t := by have := H.out.lt.1; omega
          have h7 : ∀ b o v, b ≠ t → w6.cell? ⟨b, o, none⟩ = some v → w7.cell? ⟨b, o, none⟩ = some v := fun b o v hb hc => by
            rw [← hW7, World.cell?, Below.heap_setCell _ _ _ b hb]; exact hc
          have s0 := h7 _ _ _ hwt r0
          have s3 := h7 _ _ _ hwt r3
          have hT7 : w7.heap[t]? = some (.cells #[tp hd, .int .i64 ((ns.length : Int) + 1), .int .i64 (esum (ns.map Nd.e) : Int)] 142 (0, 0)) := by
            rw [← hW7]; exact heap_set (l := [tp hd, .int .i64 (ns.length : Int), .int .i64 (esum (ns.map Nd.e) : Int)]) HT6.out _
          have v2 : w7.cell? ⟨t, 2, none⟩ = some (.int .i64 (esum (ns.map Nd.e) : Int)) := cell_of_row w7 t 2 _ _ (0, 0) hT7
          have f2 : w7.frozen? ⟨t, 2, none⟩ = false := by simp [World.frozen?, hT7]
          have hes := esum_le (S := ns.map Nd.e) (fun e he => by obtain ⟨n, hn, rfl⟩ := List.mem_map.1 he; exact H.out.fine n hn)
          rw [List.length_map] at hes
          have hfx := fine_size hf
          have m1 : IntKind.i64.wrap ((x.m.k.size : Int) + (x.x.size : Int)) = (x.m.k.size : Int) + (x.x.size : Int) := IntWalk.i64_in _ (by omega)
          have m2 : IntKind.i64.wrap ((esum (ns.map Nd.e) : Int) + ((x.m.k.size : Int) + (x.x.size : Int))) = (esum (ns.map Nd.e) : Int) + ((x.m.k.size : Int) + (x.x.size : Int)) := IntWalk.i64_in _ (by omega)
          have HT7 := Lib.hid hT7
          have HX7 : Hid (∀ i, i ≠ t → w7.heap[i]? = w6.heap[i]?) := fun i hi => by rw [← hW7]; exact Below.heap_setCell _ _ _ i hi
          have HO7 : Hid (w7.os = w6.os ∧ w7.tape = w6.tape ∧ w7.output = w6.output ∧ w7.heap.size = w6.heap.size) := by rw [← hW7]; exact ⟨rfl, rfl, rfl, by simp [World.setCell]⟩
          clear hT7 hes hfx h7 r0 r1 r2 r3 u0 u2
          go_wp2
          clear hW7 u1 f1
          go_region
          go_wp2
          go_ret
          have hT8 := heap_set (i := 2) (l := [tp hd, .int .i64 ((ns.length : Int) + 1), .int .i64 (esum (ns.map Nd.e) : Int)]) HT7.out (.int .i64 ((esum (ns.map Nd.e) : Int) + ((x.m.k.size : Int) + (x.x.size : Int))))
          refine .inr (.inr ⟨HNO.out, hns, rfl, W5.heap.size, HB5.out.size, tab_done H.out HB5.out HAL.out HT5.out HP.out HNO.out hf hns hk1 rfl HS6.out HW6.out ?_ (fun i hi => ?_) ⟨?_, ?_, ?_, ?_⟩⟩)
          · rw [show (((ns.length + 1 : Nat) : Int)) = (ns.length : Int) + 1 from by omega, show (((esum (ns.map Nd.e) + (x.m.k.size + x.x.size) : Nat) : Int)) = (esum (ns.map Nd.e) : Int) + ((x.m.k.size : Int) + (x.x.size : Int)) from by omega]
            exact hT8
          · exact (Below.heap_setCell w7 ⟨t, 2, none⟩ _ i hi).trans (HX7.out i hi)
          · exact HO7.out.1
          · exact HO7.out.2.1
          · exact HO7.out.2.2.1
          · rw [← HO7.out.2.2.2]; simp [World.setCell]
      · have hs1 : (((y.e.m.s : Nat) : Int) == ((x.m.s : Nat) : Int)) = false := by
          rw [beq_eq_false_iff_ne]; omega
        clear hm hs0 hk0
        go_wp2
        go_quiet (fail)
        clear hs1 g0 g1 g2
        obtain ⟨hT5, hB5, hP5, ⟨g0, g1, g2, g3⟩, hl5⟩ := HALL.out nq
        have c1 := hT5.c1
        generalize W4.drewN nq = W5 at *
        rcases hnsz with hns | hns
        · have i9 : (4096 : Int) ≤ (ns.length : Int) := by omega
          have HFF := Lib.hid (HF6.out hns W5 hB5)
          go_wp2
          go_ret
          exact HFF.out
        · have i9 : ¬ (4096 : Int) ≤ (ns.length : Int) := by omega
          have hd0 : Below W5.heap.size W5 W5.drew := (Below.refl _ _).drew
          have hw5 : w.heap.size < W5.heap.size := by omega
          have eN : (ncs x 0 Q).toArray = #[.string x.m.k, .int .u64 (x.m.s : Int), .bool x.m.g, .string x.x, .pointer none, .pointer none, .pointer none, .pointer none, .pointer none, .pointer none, .pointer none, .pointer none] := rfl
          have hal : Below W5.heap.size W5 (W5.drew.alloc (.cells (ncs x 0 Q).toArray 140)) := hd0.alloc hd0.size _
          have hnb : W5.heap.size ∉ hd :: ns.map Nd.b := fun hm => by
            rcases List.mem_cons.1 hm with e | hm
            · have := hT5.lt.2.1; omega
            · obtain ⟨n, hn, e⟩ := List.mem_map.1 hm
              have := hT5.lt.2.2 n hn; omega
          have INS := Lib.hid (IN.out (W5.drew.alloc (.cells (ncs x 0 Q).toArray 140)) W5.heap.size (hT5.below hal) (heap_alloc_new W5.drew _) hnb ((hal.block P hl5).trans hP5))
          have HAL := Lib.hid hal
          rw [eN] at INS HAL
          have KE : Hid (∀ W', Below W5.heap.size W5 W' → W'.cell? ⟨w.heap.size, 0, none⟩ = some (.string x.m.k) ∧ W'.cell? ⟨w.heap.size, 1, none⟩ = some (.int .u64 (x.m.s : Int)) ∧ W'.cell? ⟨w.heap.size, 2, none⟩ = some (.bool x.m.g) ∧ W'.cell? ⟨w.heap.size, 3, none⟩ = some (.string x.x)) :=
            fun W' hb => ⟨(hb.cell (p := ⟨w.heap.size, 0, none⟩) hw5).trans g0, (hb.cell (p := ⟨w.heap.size, 1, none⟩) hw5).trans g1, (hb.cell (p := ⟨w.heap.size, 2, none⟩) hw5).trans g2, (hb.cell (p := ⟨w.heap.size, 3, none⟩) hw5).trans g3⟩
          have KF : Hid (∀ W', Wrote (fun i => i ∈ (head hd :: A ++ (⟨W5.heap.size, x, 0⟩ : Nd) :: Q).map Nd.b) (W5.drew.alloc (.cells (ncs x 0 Q).toArray 140)) W' → W'.cell? ⟨w.heap.size, 0, none⟩ = some (.string x.m.k) ∧ W'.cell? ⟨w.heap.size, 1, none⟩ = some (.int .u64 (x.m.s : Int)) ∧ W'.cell? ⟨w.heap.size, 2, none⟩ = some (.bool x.m.g) ∧ W'.cell? ⟨w.heap.size, 3, none⟩ = some (.string x.x)) := fun W' hw => by
            have hno : w.heap.size ∉ (head hd :: A ++ (⟨W5.heap.size, x, 0⟩ : Nd) :: Q).map Nd.b := by
              intro hm
              have hl := H.out.lt
              rw [HP.out.eq] at hl
              simp only [List.map_append, List.map_cons, List.mem_append, List.mem_cons, List.cons_append, List.mem_map, head] at hm
              rcases hm with e | ⟨n, hn, e⟩ | e | ⟨n, hn, e⟩
              · have := hl.2.1; omega
              · have := hl.2.2 n (by simp [hn]); omega
              · omega
              · have := hl.2.2 n (by simp [hn]); omega
            have hbk := hw.block w.heap.size (Nat.lt_of_lt_of_le hw5 hal.size) hno
            obtain ⟨k0, k1, k2, k3⟩ := KE.out _ hal
            exact ⟨by rw [World.cell?, hbk]; exact k0, by rw [World.cell?, hbk]; exact k1, by rw [World.cell?, hbk]; exact k2, by rw [World.cell?, hbk]; exact k3⟩
          have HT5 := Lib.hid hT5
          have HB5 := Lib.hid hB5
          have hk0 : (0 : Int) ≤ (k : Int) := by omega
          have hk8' : (k : Int) ≤ 8 := by omega
          clear hT5 hB5 hP5 hnb hal eN hl5
          go_wp2
          go_region_held3 (fun W' => W'.cell? ⟨w.heap.size, 0, none⟩ = some (.string x.m.k) ∧ W'.cell? ⟨w.heap.size, 1, none⟩ = some (.int .u64 (x.m.s : Int)) ∧ W'.cell? ⟨w.heap.size, 2, none⟩ = some (.bool x.m.g) ∧ W'.cell? ⟨w.heap.size, 3, none⟩ = some (.string x.x)) (first | exact KE.out _ hd0 | exact KE.out _ HAL.out | exact KF.out _ hw6)
            (first
              | (go_at_call 117; refine INS.out.mono ?_; rintro e w6 ⟨rfl, hs6, hw6⟩)
              | fail)
          have hT6 : w6.heap[t]? = some (.cells #[tp hd, .int .i64 (ns.length : Int), .int .i64 (esum (ns.map Nd.e) : Int)] 142 (0, 0)) := by
            have hlt := HT5.out.lt
            have hsz := HAL.out.size
            refine ((hw6.block t (Nat.lt_of_lt_of_le hlt.1 hsz) fun hm => ?_).trans (HAL.out.block t hlt.1)).trans HT5.out.box
            have hne := HT5.out.ne
            rw [HP.out.eq] at hne
            simp only [List.cons_append, List.map_cons, List.map_append, List.mem_cons, List.mem_append, List.mem_map] at hm
            rcases hm with e | ⟨n, hn, e⟩ | e | ⟨n, hn, e⟩
            · exact hne.1 e
            · exact hne.2 n (by simp [hn]) e.symm
            · have e : t = W5.heap.size := e
              omega
            · exact hne.2 n (by simp [hn]) e.symm
          have u0 : w6.cell? ⟨t, 0, none⟩ = some (tp hd) := cell_of_row w6 t 0 _ _ (0, 0) hT6
          have u1 : w6.cell? ⟨t, 1, none⟩ = some (.int .i64 (ns.length : Int)) := cell_of_row w6 t 1 _ _ (0, 0) hT6
          have u2 : w6.cell? ⟨t, 2, none⟩ = some (.int .i64 (esum (ns.map Nd.e) : Int)) := cell_of_row w6 t 2 _ _ (0, 0) hT6
          have f1 : w6.frozen? ⟨t, 1, none⟩ = false := by simp [World.frozen?, hT6]
          have f2 : w6.frozen? ⟨t, 2, none⟩ = false := by simp [World.frozen?, hT6]
          have HT6 := Lib.hid hT6
          have HS6 := Lib.hid hs6
          have HW6 := Lib.hid hw6
          obtain ⟨r0, r1, r2, r3⟩ := KF.out _ hw6
          clear hT6 hs6 hw6
          obtain ⟨w7, hW7⟩ : ∃ w7, w6.setCell ⟨t, 1, none⟩ (.int .i64 ((ns.length : Int) + 1)) = w7 := ⟨_, rfl⟩
          have hwt : w.heap.size ≠ t := by have := H.out.lt.1; omega
          have h7 : ∀ b o v, b ≠ t → w6.cell? ⟨b, o, none⟩ = some v → w7.cell? ⟨b, o, none⟩ = some v := fun b o v hb hc => by
            rw [← hW7, World.cell?, Below.heap_setCell _ _ _ b hb]; exact hc
          have s0 := h7 _ _ _ hwt r0
          have s3 := h7 _ _ _ hwt r3
          have hT7 : w7.heap[t]? = some (.cells #[tp hd, .int .i64 ((ns.length : Int) + 1), .int .i64 (esum (ns.map Nd.e) : Int)] 142 (0, 0)) := by
            rw [← hW7]; exact heap_set (l := [tp hd, .int .i64 (ns.length : Int), .int .i64 (esum (ns.map Nd.e) : Int)]) HT6.out _
          have v2 : w7.cell? ⟨t, 2, none⟩ = some (.int .i64 (esum (ns.map Nd.e) : Int)) := cell_of_row w7 t 2 _ _ (0, 0) hT7
          have f2 : w7.frozen? ⟨t, 2, none⟩ = false := by simp [World.frozen?, hT7]
          have hes := esum_le (S := ns.map Nd.e) (fun e he => by obtain ⟨n, hn, rfl⟩ := List.mem_map.1 he; exact H.out.fine n hn)
          rw [List.length_map] at hes
          have hfx := fine_size hf
          have m1 : IntKind.i64.wrap ((x.m.k.size : Int) + (x.x.size : Int)) = (x.m.k.size : Int) + (x.x.size : Int) := IntWalk.i64_in _ (by omega)
          have m2 : IntKind.i64.wrap ((esum (ns.map Nd.e) : Int) + ((x.m.k.size : Int) + (x.x.size : Int))) = (esum (ns.map Nd.e) : Int) + ((x.m.k.size : Int) + (x.x.size : Int)) := IntWalk.i64_in _ (by omega)
          have HT7 := Lib.hid hT7
          have HX7 : Hid (∀ i, i ≠ t → w7.heap[i]? = w6.heap[i]?) := fun i hi => by rw [← hW7]; exact Below.heap_setCell _ _ _ i hi
          have HO7 : Hid (w7.os = w6.os ∧ w7.tape = w6.tape ∧ w7.output = w6.output ∧ w7.heap.size = w6.heap.size) := by rw [← hW7]; exact ⟨rfl, rfl, rfl, by simp [World.setCell]⟩
          clear hT7 hes hfx h7 r0 r1 r2 r3 u0 u2
          go_wp2
          clear hW7 u1 f1
          go_region
          go_wp2
          go_ret
          have hT8 := heap_set (i := 2) (l := [tp hd, .int .i64 ((ns.length : Int) + 1), .int .i64 (esum (ns.map Nd.e) : Int)]) HT7.out (.int .i64 ((esum (ns.map Nd.e) : Int) + ((x.m.k.size : Int) + (x.x.size : Int))))
          refine .inr (.inr ⟨HNO.out, hns, rfl, W5.heap.size, HB5.out.size, tab_done H.out HB5.out HAL.out HT5.out HP.out HNO.out hf hns hk1 rfl HS6.out HW6.out ?_ (fun i hi => ?_) ⟨?_, ?_, ?_, ?_⟩⟩)
          · rw [show (((ns.length + 1 : Nat) : Int)) = (ns.length : Int) + 1 from by omega, show (((esum (ns.map Nd.e) + (x.m.k.size + x.x.size) : Nat) : Int)) = (esum (ns.map Nd.e) : Int) + ((x.m.k.size : Int) + (x.x.size : Int)) from by omega]
            exact hT8
          · exact (Below.heap_setCell w7 ⟨t, 2, none⟩ _ i hi).trans (HX7.out i hi)
          · exact HO7.out.1
          · exact HO7.out.2.1
          · exact HO7.out.2.2.1
          · rw [← HO7.out.2.2.2]; simp [World.setCell]
    · have hks : (y.e.m.k.toList == x.m.k.toList) = false := by
        rw [txt_eqB]; exact decide_eq_false hk0
      clear hm hk0
      go_wp2
      go_quiet (fail)
      clear hks g0 g1 g2
      obtain ⟨hT5, hB5, hP5, ⟨g0, g1, g2, g3⟩, hl5⟩ := HALL.out nq
      have c1 := hT5.c1
      generalize W4.drewN nq = W5 at *
      rcases hnsz with hns | hns
      · have i9 : (4096 : Int) ≤ (ns.length : Int) := by omega
        have HFF := Lib.hid (HF6.out hns W5 hB5)
        go_wp2
        go_ret
        exact HFF.out
      · have i9 : ¬ (4096 : Int) ≤ (ns.length : Int) := by omega
        have hd0 : Below W5.heap.size W5 W5.drew := (Below.refl _ _).drew
        have hw5 : w.heap.size < W5.heap.size := by omega
        have eN : (ncs x 0 Q).toArray = #[.string x.m.k, .int .u64 (x.m.s : Int), .bool x.m.g, .string x.x, .pointer none, .pointer none, .pointer none, .pointer none, .pointer none, .pointer none, .pointer none, .pointer none] := rfl
        have hal : Below W5.heap.size W5 (W5.drew.alloc (.cells (ncs x 0 Q).toArray 140)) := hd0.alloc hd0.size _
        have hnb : W5.heap.size ∉ hd :: ns.map Nd.b := fun hm => by
          rcases List.mem_cons.1 hm with e | hm
          · have := hT5.lt.2.1; omega
          · obtain ⟨n, hn, e⟩ := List.mem_map.1 hm
            have := hT5.lt.2.2 n hn; omega
        have INS := Lib.hid (IN.out (W5.drew.alloc (.cells (ncs x 0 Q).toArray 140)) W5.heap.size (hT5.below hal) (heap_alloc_new W5.drew _) hnb ((hal.block P hl5).trans hP5))
        have HAL := Lib.hid hal
        rw [eN] at INS HAL
        have KE : Hid (∀ W', Below W5.heap.size W5 W' → W'.cell? ⟨w.heap.size, 0, none⟩ = some (.string x.m.k) ∧ W'.cell? ⟨w.heap.size, 1, none⟩ = some (.int .u64 (x.m.s : Int)) ∧ W'.cell? ⟨w.heap.size, 2, none⟩ = some (.bool x.m.g) ∧ W'.cell? ⟨w.heap.size, 3, none⟩ = some (.string x.x)) :=
          fun W' hb => ⟨(hb.cell (p := ⟨w.heap.size, 0, none⟩) hw5).trans g0, (hb.cell (p := ⟨w.heap.size, 1, none⟩) hw5).trans g1, (hb.cell (p := ⟨w.heap.size, 2, none⟩) hw5).trans g2, (hb.cell (p := ⟨w.heap.size, 3, none⟩) hw5).trans g3⟩
        have KF : Hid (∀ W', Wrote (fun i => i ∈ (head hd :: A ++ (⟨W5.heap.size, x, 0⟩ : Nd) :: Q).map Nd.b) (W5.drew.alloc (.cells (ncs x 0 Q).toArray 140)) W' → W'.cell? ⟨w.heap.size, 0, none⟩ = some (.string x.m.k) ∧ W'.cell? ⟨w.heap.size, 1, none⟩ = some (.int .u64 (x.m.s : Int)) ∧ W'.cell? ⟨w.heap.size, 2, none⟩ = some (.bool x.m.g) ∧ W'.cell? ⟨w.heap.size, 3, none⟩ = some (.string x.x)) := fun W' hw => by
          have hno : w.heap.size ∉ (head hd :: A ++ (⟨W5.heap.size, x, 0⟩ : Nd) :: Q).map Nd.b := by
            intro hm
            have hl := H.out.lt
            rw [HP.out.eq] at hl
            simp only [List.map_append, List.map_cons, List.mem_append, List.mem_cons, List.cons_append, List.mem_map, head] at hm
            rcases hm with e | ⟨n, hn, e⟩ | e | ⟨n, hn, e⟩
            · have := hl.2.1; omega
            · have := hl.2.2 n (by simp [hn]); omega
            · omega
            · have := hl.2.2 n (by simp [hn]); omega
          have hbk := hw.block w.heap.size (Nat.lt_of_lt_of_le hw5 hal.size) hno
          obtain ⟨k0, k1, k2, k3⟩ := KE.out _ hal
          exact ⟨by rw [World.cell?, hbk]; exact k0, by rw [World.cell?, hbk]; exact k1, by rw [World.cell?, hbk]; exact k2, by rw [World.cell?, hbk]; exact k3⟩
        have HT5 := Lib.hid hT5
        have HB5 := Lib.hid hB5
        have hk0 : (0 : Int) ≤ (k : Int) := by omega
        have hk8' : (k : Int) ≤ 8 := by omega
        clear hT5 hB5 hP5 hnb hal eN hl5
        go_wp2
        go_region_held3 (fun W' => W'.cell? ⟨w.heap.size, 0, none⟩ = some (.string x.m.k) ∧ W'.cell? ⟨w.heap.size, 1, none⟩ = some (.int .u64 (x.m.s : Int)) ∧ W'.cell? ⟨w.heap.size, 2, none⟩ = some (.bool x.m.g) ∧ W'.cell? ⟨w.heap.size, 3, none⟩ = some (.string x.x)) (first | exact KE.out _ hd0 | exact KE.out _ HAL.out | exact KF.out _ hw6)
          (first
            | (go_at_call 117; refine INS.out.mono ?_; rintro e w6 ⟨rfl, hs6, hw6⟩)
            | fail)
        have hT6 : w6.heap[t]? = some (.cells #[tp hd, .int .i64 (ns.length : Int), .int .i64 (esum (ns.map Nd.e) : Int)] 142 (0, 0)) := by
          have hlt := HT5.out.lt
          have hsz := HAL.out.size
          refine ((hw6.block t (Nat.lt_of_lt_of_le hlt.1 hsz) fun hm => ?_).trans (HAL.out.block t hlt.1)).trans HT5.out.box
          have hne := HT5.out.ne
          rw [HP.out.eq] at hne
          simp only [List.cons_append, List.map_cons, List.map_append, List.mem_cons, List.mem_append, List.mem_map] at hm
          rcases hm with e | ⟨n, hn, e⟩ | e | ⟨n, hn, e⟩
          · exact hne.1 e
          · exact hne.2 n (by simp [hn]) e.symm
          · have e : t = W5.heap.size := e
            omega
          · exact hne.2 n (by simp [hn]) e.symm
        have u0 : w6.cell? ⟨t, 0, none⟩ = some (tp hd) := cell_of_row w6 t 0 _ _ (0, 0) hT6
        have u1 : w6.cell? ⟨t, 1, none⟩ = some (.int .i64 (ns.length : Int)) := cell_of_row w6 t 1 _ _ (0, 0) hT6
        have u2 : w6.cell? ⟨t, 2, none⟩ = some (.int .i64 (esum (ns.map Nd.e) : Int)) := cell_of_row w6 t 2 _ _ (0, 0) hT6
        have f1 : w6.frozen? ⟨t, 1, none⟩ = false := by simp [World.frozen?, hT6]
        have f2 : w6.frozen? ⟨t, 2, none⟩ = false := by simp [World.frozen?, hT6]
        have HT6 := Lib.hid hT6
        have HS6 := Lib.hid hs6
        have HW6 := Lib.hid hw6
        obtain ⟨r0, r1, r2, r3⟩ := KF.out _ hw6
        clear hT6 hs6 hw6
        obtain ⟨w7, hW7⟩ : ∃ w7, w6.setCell ⟨t, 1, none⟩ (.int .i64 ((ns.length : Int) + 1)) = w7 := ⟨_, rfl⟩
        have hwt : w.heap.size ≠ t := by have := H.out.lt.1; omega
        have h7 : ∀ b o v, b ≠ t → w6.cell? ⟨b, o, none⟩ = some v → w7.cell? ⟨b, o, none⟩ = some v := fun b o v hb hc => by
          rw [← hW7, World.cell?, Below.heap_setCell _ _ _ b hb]; exact hc
        have s0 := h7 _ _ _ hwt r0
        have s3 := h7 _ _ _ hwt r3
        have hT7 : w7.heap[t]? = some (.cells #[tp hd, .int .i64 ((ns.length : Int) + 1), .int .i64 (esum (ns.map Nd.e) : Int)] 142 (0, 0)) := by
          rw [← hW7]; exact heap_set (l := [tp hd, .int .i64 (ns.length : Int), .int .i64 (esum (ns.map Nd.e) : Int)]) HT6.out _
        have v2 : w7.cell? ⟨t, 2, none⟩ = some (.int .i64 (esum (ns.map Nd.e) : Int)) := cell_of_row w7 t 2 _ _ (0, 0) hT7
        have f2 : w7.frozen? ⟨t, 2, none⟩ = false := by simp [World.frozen?, hT7]
        have hes := esum_le (S := ns.map Nd.e) (fun e he => by obtain ⟨n, hn, rfl⟩ := List.mem_map.1 he; exact H.out.fine n hn)
        rw [List.length_map] at hes
        have hfx := fine_size hf
        have m1 : IntKind.i64.wrap ((x.m.k.size : Int) + (x.x.size : Int)) = (x.m.k.size : Int) + (x.x.size : Int) := IntWalk.i64_in _ (by omega)
        have m2 : IntKind.i64.wrap ((esum (ns.map Nd.e) : Int) + ((x.m.k.size : Int) + (x.x.size : Int))) = (esum (ns.map Nd.e) : Int) + ((x.m.k.size : Int) + (x.x.size : Int)) := IntWalk.i64_in _ (by omega)
        have HT7 := Lib.hid hT7
        have HX7 : Hid (∀ i, i ≠ t → w7.heap[i]? = w6.heap[i]?) := fun i hi => by rw [← hW7]; exact Below.heap_setCell _ _ _ i hi
        have HO7 : Hid (w7.os = w6.os ∧ w7.tape = w6.tape ∧ w7.output = w6.output ∧ w7.heap.size = w6.heap.size) := by rw [← hW7]; exact ⟨rfl, rfl, rfl, by simp [World.setCell]⟩
        clear hT7 hes hfx h7 r0 r1 r2 r3 u0 u2
        go_wp2
        clear hW7 u1 f1
        go_region
        go_wp2
        go_ret
        have hT8 := heap_set (i := 2) (l := [tp hd, .int .i64 ((ns.length : Int) + 1), .int .i64 (esum (ns.map Nd.e) : Int)]) HT7.out (.int .i64 ((esum (ns.map Nd.e) : Int) + ((x.m.k.size : Int) + (x.x.size : Int))))
        refine .inr (.inr ⟨HNO.out, hns, rfl, W5.heap.size, HB5.out.size, tab_done H.out HB5.out HAL.out HT5.out HP.out HNO.out hf hns hk1 rfl HS6.out HW6.out ?_ (fun i hi => ?_) ⟨?_, ?_, ?_, ?_⟩⟩)
        · rw [show (((ns.length + 1 : Nat) : Int)) = (ns.length : Int) + 1 from by omega, show (((esum (ns.map Nd.e) + (x.m.k.size + x.x.size) : Nat) : Int)) = (esum (ns.map Nd.e) : Int) + ((x.m.k.size : Int) + (x.x.size : Int)) from by omega]
          exact hT8
        · exact (Below.heap_setCell w7 ⟨t, 2, none⟩ _ i hi).trans (HX7.out i hi)
        · exact HO7.out.1
        · exact HO7.out.2.1
        · exact HO7.out.2.2.1
        · rw [← HO7.out.2.2.2]; simp [World.setCell]
end
end Go.Proofs.YtopcnlophmplgaaGreatDoor
