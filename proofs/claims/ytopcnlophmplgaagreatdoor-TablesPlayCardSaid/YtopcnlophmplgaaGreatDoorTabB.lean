/-
  Package tables: before.
-/
import Derived.Test.YtopcnlophmplgaaGreatDoorTabA
import Derived.Deep.LoopGhost
import Derived.WalkMore
import Derived.BigQuiet
import Derived.Deep.RegionHeld3
namespace Go.Proofs.YtopcnlophmplgaaGreatDoor
open Go.RowKit
set_option linter.unusedVariables false
set_option maxRecDepth 100000

/-- the memory of a search: the nodes are as they were, the marks' box too; the path lies in P -/
structure Seek (W : World) (P : Nat) (cs : Array Value) (wr : World) : Prop where
  below : Below W.heap.size W wr
  path : wr.heap[P]? = some (.cells cs 138 (0, 0))
  lo : W.heap.size ≤ P
theorem Seek.cell {W wr : World} {P : Nat} {cs : Array Value} (h : Seek W P cs wr) {b o : Nat} {v : Value} (hb : b < W.heap.size) (hc : W.cell? ⟨b, o, none⟩ = some v) : wr.cell? ⟨b, o, none⟩ = some v := by
  rw [World.cell?, h.below.block b hb]; exact hc
theorem Seek.next {W wr w' : World} {P : Nat} {cs : Array Value} (h : Seek W P cs wr) (hb : Below wr.heap.size wr w') : Seek W P cs w' :=
  ⟨h.below.trans (hb.mono h.below.size), (hb.block P (Array.getElem?_eq_some_iff.1 h.path).1).trans h.path, h.lo⟩
theorem Seek.set {W wr : World} {P : Nat} {cs : Array Value} (h : Seek W P cs wr) (k : Nat) (v : Value) : Seek W P (cs.setIfInBounds k v) (wr.setCell ⟨P, k, none⟩ v) :=
  ⟨⟨h.below.os, h.below.tape, h.below.output, by have := h.below.size; simpa [World.setCell] using this, fun i hi => (Below.heap_setCell _ _ _ _ (fun e => by have := h.lo; have e : i = P := e; omega)).trans (h.below.block i hi)⟩,
    by simp only [World.setCell, Array.getElem?_modify, if_pos, h.path, Option.map_some, Option.isSome_none, Bool.false_eq_true, if_false], h.lo⟩
theorem Seek.spot {W wr : World} {P : Nat} {cs : Array Value} (h : Seek W P cs wr) {k : Nat} (hk : k < cs.size) : ∃ v, wr.cell? ⟨P, k, none⟩ = some v := by
  refine ⟨cs[k], ?_⟩
  rw [cell_of_row wr P k cs _ (0, 0) h.path]; exact Array.getElem?_eq_getElem hk
theorem Seek.thaw {W wr : World} {P : Nat} {cs : Array Value} (h : Seek W P cs wr) (k : Nat) : wr.frozen? ⟨P, k, none⟩ = false := by simp [World.frozen?, h.path]

/-- ahead of a level: k levels are to come; who is at stands among the first ones and is tall enough -/
def SeekO (W : World) (P : Nat) (pre : List Nd) (k : Nat) (at_ lv : Value) (wr : World) : Prop :=
  ∃ A n B cs, pre = A ++ n :: B ∧ k ≤ n.h ∧ k ≤ 8 ∧ at_ = tp n.b ∧ lv = .int .i64 ((k : Int) - 1) ∧ PathOK pre k cs ∧ Seek W P cs wr
/-- on a level: so many are behind who is at -/
def SeekI (W : World) (P : Nat) (pre : List Nd) (l : Nat) (k : Nat) (at_ : Value) (wr : World) : Prop :=
  ∃ A n B cs, pre = A ++ n :: B ∧ B.length = k ∧ l < n.h ∧ at_ = tp n.b ∧ PathOK pre (l + 1) cs ∧ Seek W P cs wr

theorem nxt_mem {j : Nat} : ∀ {Q : List Nd} {b : Nat}, nxt j Q = some b → ∃ y ∈ Q, y.b = b
  | [], b, h => by cases h
  | y :: Q, b, h => by
    rw [nxt] at h
    by_cases hj : j < y.h
    · rw [if_pos hj] at h; injection h with h; exact ⟨y, by simp, h⟩
    · rw [if_neg hj] at h
      obtain ⟨z, hz, e⟩ := nxt_mem h
      exact ⟨z, by simp [hz], e⟩
abbrev nil8 : Array Value := #[.pointer none, .pointer none, .pointer none, .pointer none, .pointer none, .pointer none, .pointer none, .pointer none]
theorem eight_set {w w0 : World} {E g q0 q1 q2 q3 q4 q5 q6 q7 : Nat} {c : Array Value} {t : TypeId} (h : w.heap[E]? = some (.cells c t (0, 0))) (hc : c.size = 8) (hb : Below g w0 w) (hg : g ≤ E) :
    ((((((((w.setCell ⟨E, 0, none⟩ (tp q0)).setCell ⟨E, 1, none⟩ (tp q1)).setCell ⟨E, 2, none⟩ (tp q2)).setCell ⟨E, 3, none⟩ (tp q3)).setCell ⟨E, 4, none⟩ (tp q4)).setCell ⟨E, 5, none⟩ (tp q5)).setCell ⟨E, 6, none⟩ (tp q6)).setCell ⟨E, 7, none⟩ (tp q7)).heap[E]? = some (.cells #[tp q0, tp q1, tp q2, tp q3, tp q4, tp q5, tp q6, tp q7] t (0, 0)) ∧
    Below g w0 ((((((((w.setCell ⟨E, 0, none⟩ (tp q0)).setCell ⟨E, 1, none⟩ (tp q1)).setCell ⟨E, 2, none⟩ (tp q2)).setCell ⟨E, 3, none⟩ (tp q3)).setCell ⟨E, 4, none⟩ (tp q4)).setCell ⟨E, 5, none⟩ (tp q5)).setCell ⟨E, 6, none⟩ (tp q6)).setCell ⟨E, 7, none⟩ (tp q7)) := by
  have st : ∀ {W : World} {k : Nat} {l : List Value} (v : Value), W.heap[E]? = some (.cells l.toArray t (0, 0)) → (W.setCell ⟨E, k, none⟩ v).heap[E]? = some (.cells (l.set k v).toArray t (0, 0)) := fun v h => heap_set h v
  refine ⟨?_, (((((((hb.setCell hg _).setCell hg _).setCell hg _).setCell hg _).setCell hg _).setCell hg _).setCell hg _).setCell hg _⟩
  have hl : c.toList.length = 8 := by rw [Array.length_toList]; exact hc
  obtain ⟨l⟩ := c
  match l, hl with
  | [a0, a1, a2, a3, a4, a5, a6, a7], _ => exact st (tp q7) (st (tp q6) (st (tp q5) (st (tp q4) (st (tp q3) (st (tp q2) (st (tp q1) (st (tp q0) h)))))))

set_option maxHeartbeats 2000000 in
theorem before_ok {w : World} {t hd : Nat} {ns A0 Q : List Nd} {m : Mk} (c0 : w.cell? ⟨t, 0, none⟩ = some (tp hd)) (hs : Skip w (head hd :: ns)) (hp : Parted hd ns m A0 Q) :
    Calls Tryz.prog 116 #[tp t, m.v] w fun e w' => ∃ cs, e = .returned (.agg cs) ∧ PathOK (head hd :: A0) 0 cs ∧ Below w.heap.size w w' := by
  have HS : Hid (Skip w (head hd :: A0 ++ Q)) := by have := hs; rw [hp.eq] at this; exact this
  have HLT := Lib.hid hp.lt; have HGE := Lib.hid hp.ge
  clear hs hp
  obtain ⟨pre, hpre⟩ : ∃ pre, head hd :: A0 = pre := ⟨_, rfl⟩
  have HPre := Lib.hid hpre
  rw [hpre] at HS ⊢
  clear hpre
  unfold Mk.v
  go_enter Tryz.func116, Tryz.ntmps116
  go_wp2
  go_step3
  generalize hW : (w.alloc (Obj.cells #[Value.string m.k, Value.int IntKind.u64 (m.s : Int), Value.bool m.g] 81)).alloc (Obj.cells #[Value.pointer none, Value.pointer none, Value.pointer none, Value.pointer none, Value.pointer none, Value.pointer none, Value.pointer none, Value.pointer none] 138) = W
  have hWB : Below w.heap.size w W := by rw [← hW]; exact ((Below.refl _ _).alloc (Nat.le_refl _) _).alloc (by simp) _
  have hWz : W.heap.size = w.heap.size + 1 + 1 := by rw [← hW]; simp
  have hWm : W.heap[w.heap.size]? = some (.cells #[Value.string m.k, Value.int IntKind.u64 (m.s : Int), Value.bool m.g] 81 (0, 0)) := by
    rw [← hW, Below.heap_alloc _ _ _ (by simp)]; exact heap_alloc_new w _
  have m0 : W.cell? ⟨w.heap.size, 0, none⟩ = some (.string m.k) := cell_of_row W w.heap.size 0 _ _ (0, 0) hWm
  have m1 : W.cell? ⟨w.heap.size, 1, none⟩ = some (.int .u64 (m.s : Int)) := cell_of_row W w.heap.size 1 _ _ (0, 0) hWm
  have m2 : W.cell? ⟨w.heap.size, 2, none⟩ = some (.bool m.g) := cell_of_row W w.heap.size 2 _ _ (0, 0) hWm
  have hWE : W.heap[w.heap.size + 1]? = some (.cells #[Value.pointer none, Value.pointer none, Value.pointer none, Value.pointer none, Value.pointer none, Value.pointer none, Value.pointer none, Value.pointer none] 138 (0, 0)) := by
    rw [← hW, show w.heap.size + 1 = (w.alloc (.cells #[Value.string m.k, Value.int IntKind.u64 (m.s : Int), Value.bool m.g] 81)).heap.size from by simp]; exact heap_alloc_new _ _
  have c0' : W.cell? ⟨t, 0, none⟩ = some (tp hd) := by
    have ht : t < w.heap.size := by
      rcases Nat.lt_or_ge t w.heap.size with h | h
      · exact h
      · rw [World.cell?, Array.getElem?_eq_none h] at c0; cases c0
    rw [World.cell?, hWB.block t ht]; exact c0
  have c1 : (W.alloc (Obj.cells #[Value.pointer none, Value.pointer none, Value.pointer none, Value.pointer none, Value.pointer none, Value.pointer none, Value.pointer none, Value.pointer none] 138)).cell? ⟨t, 0, none⟩ = some (tp hd) := by
    have ht : t < W.heap.size := by
      rcases Nat.lt_or_ge t W.heap.size with h | h
      · exact h
      · rw [World.cell?, Array.getElem?_eq_none h] at c0'; cases c0'
    rw [World.cell?, Below.heap_alloc _ _ _ ht]; exact c0'
  have HK : Hid (Seek W W.heap.size #[Value.pointer none, Value.pointer none, Value.pointer none, Value.pointer none, Value.pointer none, Value.pointer none, Value.pointer none, Value.pointer none] (W.alloc (Obj.cells #[Value.pointer none, Value.pointer none, Value.pointer none, Value.pointer none, Value.pointer none, Value.pointer none, Value.pointer none, Value.pointer none] 138))) :=
    ⟨(Below.refl _ _).alloc (Nat.le_refl _) _, heap_alloc_new W _, Nat.le_refl _⟩
  have HSW : Hid (Skip W (pre ++ Q)) := HS.out.keep fun x hx => hWB.block _ (HS.out.lt hx)
  have HWB := Lib.hid hWB
  have HWE := Lib.hid hWE
  clear hW hWm c0 c0' HS hWE
  go_wp2
  clear c1 hWB
  generalize W.alloc (Obj.cells #[Value.pointer none, Value.pointer none, Value.pointer none, Value.pointer none, Value.pointer none, Value.pointer none, Value.pointer none, Value.pointer none] 138) = W1 at *
  rw [hWz] at HK
  have hgz : w.heap.size < W.heap.size := by omega
  have hez : w.heap.size + 1 < W.heap.size := by omega
  have HgE : Hid (w.heap.size ≤ w.heap.size + 1) := Nat.le_succ _
  clear hWz
  generalize w.heap.size + 1 + 1 = P at *
  generalize w.heap.size + 1 = E at *
  generalize hGG : w.heap.size = g at *
  have HG := Lib.hid hGG
  clear hGG
  have HR : Hid (SeekO W P pre 8 (tp hd) (.int .i64 7) W1) := by
    refine ⟨[], head hd, A0, _, HPre.out.symm, Nat.le_refl 8, by decide, rfl, rfl, ⟨rfl, fun j h1 h2 => by omega⟩, HK.out⟩
  clear HK
  go_step3
  go_wp2
  go_loopg [6, 7] 8 (fun k p l wr => SeekO W P pre k p l wr)
  case atStart => exact HR.out
  case round =>
    clear HR
    obtain ⟨A, n, B, cs, hAB, hkn, hk8, rfl, rfl, hok, hsk⟩ := hrel
    rcases gk with _ | lv
    · obtain ⟨hcz, hcs⟩ := hok
      obtain ⟨q0, p0, l0⟩ := hcs 0 (Nat.le_refl _) (by decide)
      obtain ⟨q1, p1, l1⟩ := hcs 1 (Nat.zero_le _) (by decide)
      obtain ⟨q2, p2, l2⟩ := hcs 2 (Nat.zero_le _) (by decide)
      obtain ⟨q3, p3, l3⟩ := hcs 3 (Nat.zero_le _) (by decide)
      obtain ⟨q4, p4, l4⟩ := hcs 4 (Nat.zero_le _) (by decide)
      obtain ⟨q5, p5, l5⟩ := hcs 5 (Nat.zero_le _) (by decide)
      obtain ⟨q6, p6, l6⟩ := hcs 6 (Nat.zero_le _) (by decide)
      obtain ⟨q7, p7, l7⟩ := hcs 7 (Nat.zero_le _) (by decide)
      obtain rfl : cs = #[tp q0, tp q1, tp q2, tp q3, tp q4, tp q5, tp q6, tp q7] := by
        apply Array.ext_getElem?
        intro i
        rcases i with _ | _ | _ | _ | _ | _ | _ | _ | i
        · exact p0
        · exact p1
        · exact p2
        · exact p3
        · exact p4
        · exact p5
        · exact p6
        · exact p7
        · rw [Array.getElem?_eq_none (by rw [hcz]; omega), Array.getElem?_eq_none (by show 8 ≤ _; omega)]
      have hEnd := Lib.hid (And.intro (show PathOK pre 0 _ from ⟨hcz, hcs⟩) hsk)
      have k0 : wr.cell? ⟨P, 0, none⟩ = some (tp q0) := cell_of_row wr P 0 _ _ (0, 0) hsk.path
      have k1 : wr.cell? ⟨P, 1, none⟩ = some (tp q1) := cell_of_row wr P 1 _ _ (0, 0) hsk.path
      have k2 : wr.cell? ⟨P, 2, none⟩ = some (tp q2) := cell_of_row wr P 2 _ _ (0, 0) hsk.path
      have k3 : wr.cell? ⟨P, 3, none⟩ = some (tp q3) := cell_of_row wr P 3 _ _ (0, 0) hsk.path
      have k4 : wr.cell? ⟨P, 4, none⟩ = some (tp q4) := cell_of_row wr P 4 _ _ (0, 0) hsk.path
      have k5 : wr.cell? ⟨P, 5, none⟩ = some (tp q5) := cell_of_row wr P 5 _ _ (0, 0) hsk.path
      have k6 : wr.cell? ⟨P, 6, none⟩ = some (tp q6) := cell_of_row wr P 6 _ _ (0, 0) hsk.path
      have k7 : wr.cell? ⟨P, 7, none⟩ = some (tp q7) := cell_of_row wr P 7 _ _ (0, 0) hsk.path
      have hEE : wr.heap[E]? = _ := (hsk.below.block E hez).trans HWE.out
      have x0 : wr.cell? ⟨E, 0, none⟩ = some (.pointer none) := cell_of_row wr E 0 _ _ (0, 0) hEE
      have x1 : wr.cell? ⟨E, 1, none⟩ = some (.pointer none) := cell_of_row wr E 1 _ _ (0, 0) hEE
      have x2 : wr.cell? ⟨E, 2, none⟩ = some (.pointer none) := cell_of_row wr E 2 _ _ (0, 0) hEE
      have x3 : wr.cell? ⟨E, 3, none⟩ = some (.pointer none) := cell_of_row wr E 3 _ _ (0, 0) hEE
      have x4 : wr.cell? ⟨E, 4, none⟩ = some (.pointer none) := cell_of_row wr E 4 _ _ (0, 0) hEE
      have x5 : wr.cell? ⟨E, 5, none⟩ = some (.pointer none) := cell_of_row wr E 5 _ _ (0, 0) hEE
      have x6 : wr.cell? ⟨E, 6, none⟩ = some (.pointer none) := cell_of_row wr E 6 _ _ (0, 0) hEE
      have x7 : wr.cell? ⟨E, 7, none⟩ = some (.pointer none) := cell_of_row wr E 7 _ _ (0, 0) hEE
      have f0 : wr.frozen? ⟨E, 0, none⟩ = false := by simp [World.frozen?, hEE]
      have f1 : wr.frozen? ⟨E, 1, none⟩ = false := by simp [World.frozen?, hEE]
      have f2 : wr.frozen? ⟨E, 2, none⟩ = false := by simp [World.frozen?, hEE]
      have f3 : wr.frozen? ⟨E, 3, none⟩ = false := by simp [World.frozen?, hEE]
      have f4 : wr.frozen? ⟨E, 4, none⟩ = false := by simp [World.frozen?, hEE]
      have f5 : wr.frozen? ⟨E, 5, none⟩ = false := by simp [World.frozen?, hEE]
      have f6 : wr.frozen? ⟨E, 6, none⟩ = false := by simp [World.frozen?, hEE]
      have f7 : wr.frozen? ⟨E, 7, none⟩ = false := by simp [World.frozen?, hEE]
      clear hEE
      clear hcz hcs l0 l1 l2 l3 l4 l5 l6 l7 p0 p1 p2 p3 p4 p5 p6 p7 hsk hAB hkn hk8
      go_wp2
      rw [Exit.noGoto_ret]
      obtain ⟨hEF, hBF⟩ := eight_set (q0 := q0) (q1 := q1) (q2 := q2) (q3 := q3) (q4 := q4) (q5 := q5) (q6 := q6) (q7 := q7) ((hEnd.out.2.below.block E hez).trans HWE.out) rfl (HWB.out.trans (hEnd.out.2.below.mono (Nat.le_of_lt hgz))) HgE.out
      clear k0 k1 k2 k3 k4 k5 k6 k7 x0 x1 x2 x3 x4 x5 x6 x7 f0 f1 f2 f3 f4 f5 f6 f7
      revert hEF hBF
      generalize (((((((wr.setCell ⟨E, 0, none⟩ (tp q0)).setCell ⟨E, 1, none⟩ (tp q1)).setCell ⟨E, 2, none⟩ (tp q2)).setCell ⟨E, 3, none⟩ (tp q3)).setCell ⟨E, 4, none⟩ (tp q4)).setCell ⟨E, 5, none⟩ (tp q5)).setCell ⟨E, 6, none⟩ (tp q6)).setCell ⟨E, 7, none⟩ (tp q7) = WF
      intro hEF hBF
      have z0 : WF.cell? ⟨E, 0, none⟩ = some (tp q0) := cell_of_row WF E 0 _ _ (0, 0) hEF
      have z1 : WF.cell? ⟨E, 1, none⟩ = some (tp q1) := cell_of_row WF E 1 _ _ (0, 0) hEF
      have z2 : WF.cell? ⟨E, 2, none⟩ = some (tp q2) := cell_of_row WF E 2 _ _ (0, 0) hEF
      have z3 : WF.cell? ⟨E, 3, none⟩ = some (tp q3) := cell_of_row WF E 3 _ _ (0, 0) hEF
      have z4 : WF.cell? ⟨E, 4, none⟩ = some (tp q4) := cell_of_row WF E 4 _ _ (0, 0) hEF
      have z5 : WF.cell? ⟨E, 5, none⟩ = some (tp q5) := cell_of_row WF E 5 _ _ (0, 0) hEF
      have z6 : WF.cell? ⟨E, 6, none⟩ = some (tp q6) := cell_of_row WF E 6 _ _ (0, 0) hEF
      have z7 : WF.cell? ⟨E, 7, none⟩ = some (tp q7) := cell_of_row WF E 7 _ _ (0, 0) hEF
      exact bodyPost_ret (v := .agg #[tp q0, tp q1, tp q2, tp q3, tp q4, tp q5, tp q6, tp q7]) (by simp [results, Tryz.results116, go_sem, z0, z1, z2, z3, z4, z5, z6, z7]) rfl ⟨_, rfl, hEnd.out.1, by rw [HG.out]; exact hBF⟩
    · have e1 : (((lv + 1 : Nat) : Int) - 1) = (lv : Int) := by omega
      rw [e1]
      have i0 : (0 : Int) ≤ (lv : Int) := by omega
      have i1 : (lv : Int) < 8 := by omega
      have HRI : Hid (SeekI W P pre lv B.length (tp n.b) wr) := ⟨A, n, B, cs, hAB, rfl, by omega, rfl, hok, hsk⟩
      clear e1 hok hsk hAB hkn
      go_wp2
      go_loopg [6] B.length (fun k p wr => SeekI W P pre lv k p wr)
      case atStart => exact HRI.out
      case round =>
        clear HRI
        obtain ⟨A, n, B, cs, hAB, hBk, hln, rfl, hok, hsk⟩ := hrel
        obtain ⟨v0, k0⟩ := hsk.spot (k := lv) (by rw [hok.1]; omega)
        have f0 := hsk.thaw lv
        have hsk2 := hsk.set lv (tp n.b)
        have hnW : ∀ j, j < 8 → (wr.setCell ⟨P, lv, none⟩ (tp n.b)).cell? ⟨n.b, 4 + j, none⟩ = some (bp (lnk n.h (B ++ Q) j)) := fun j hj => by
          have h1 : Skip W (A ++ n :: (B ++ Q)) := by have := HSW.out; rw [hAB] at this; simpa using this
          exact hsk2.cell (h1.lt (n := n) (by simp)) (h1.tower hj)
        have k1 := hnW lv (by omega)
        have km := hsk2.cell hgz m0
        have km1 := hsk2.cell hgz m1
        have km2 := hsk2.cell hgz m2
        rcases tall_or lv B with ⟨B1, x, B2, rfl, hB1, hx⟩ | hB
        · have hlk : lnk n.h (B1 ++ x :: B2 ++ Q) lv = some x.b := by
            unfold lnk
            rw [if_pos hln, List.append_assoc, List.cons_append]
            exact nxt_at hB1 hx
          rw [hlk] at k1
          have hxm : x ∈ A0 := by
            have h2 : head hd :: A0 = A ++ n :: (B1 ++ x :: B2) := HPre.out.trans hAB
            cases A with
            | nil =>
              rw [List.nil_append] at h2
              injection h2 with _ h2
              rw [h2]; simp
            | cons a A =>
              rw [List.cons_append] at h2
              injection h2 with _ h2
              rw [h2]; simp
          have hlt := HLT.out x hxm
          have k2 : (wr.setCell ⟨P, lv, none⟩ (tp n.b)).cell? ⟨n.b, 4 + lv, none⟩ = some (.pointer (some ⟨x.b, 0, none⟩)) := k1
          have hxW : Skip W (head hd :: A0 ++ Q) := by rw [HPre.out]; exact HSW.out
          have hxs := List.append_of_mem (show x ∈ head hd :: A0 ++ Q by simp [hxm])
          obtain ⟨X1, X2, hX⟩ := hxs
          rw [hX] at hxW
          obtain ⟨y0, y1, y2, _⟩ := hxW.entry
          have hxb := hxW.lt (n := x) (by simp)
          have KC : Hid (∀ W', Below (wr.setCell ⟨P, lv, none⟩ (tp n.b)).heap.size (wr.setCell ⟨P, lv, none⟩ (tp n.b)) W' → (W'.cell? ⟨x.b, 0, none⟩ = some (.string x.e.m.k) ∧ W'.cell? ⟨x.b, 1, none⟩ = some (.int .u64 (x.e.m.s : Int)) ∧ W'.cell? ⟨x.b, 2, none⟩ = some (.bool x.e.m.g)) ∧ W'.cell? ⟨g, 0, none⟩ = some (.string m.k) ∧ W'.cell? ⟨g, 1, none⟩ = some (.int .u64 (m.s : Int)) ∧ W'.cell? ⟨g, 2, none⟩ = some (.bool m.g)) :=
            fun W' hb => ⟨⟨(hsk2.next hb).cell hxb y0, (hsk2.next hb).cell hxb y1, (hsk2.next hb).cell hxb y2⟩, (hsk2.next hb).cell hgz m0, (hsk2.next hb).cell hgz m1, (hsk2.next hb).cell hgz m2⟩
          have HK2 := Lib.hid hsk2
          clear hxW hX y0 y1 y2 hlk km km1 km2 hnW k1 hsk2
          have HC : Hid (∀ W', Calls Tryz.prog 170 #[.agg #[.string x.e.m.k, .int .u64 (x.e.m.s : Int), .bool x.e.m.g], .agg #[.string m.k, .int .u64 (m.s : Int), .bool m.g]] W' fun e w' => e = .returned (.int .i64 (cmpM x.e.m m)) ∧ Below W'.heap.size W' w') := fun W' => cmp_any x.e.m m W'
          obtain ⟨z, hz⟩ : ∃ z, cmpM x.e.m m = z := ⟨_, rfl⟩
          rw [hz] at hlt HC
          have hz0 : ¬ (0 : Int) ≤ z := by omega
          clear hz hlt
          go_wp2
          generalize wr.setCell ⟨P, lv, none⟩ (tp n.b) = w2 at *
          have hd0 : Below w2.heap.size w2 w2.drew := (Below.refl _ _).drew
          go_region_held3 (fun W' => (W'.cell? ⟨x.b, 0, none⟩ = some (.string x.e.m.k) ∧ W'.cell? ⟨x.b, 1, none⟩ = some (.int .u64 (x.e.m.s : Int)) ∧ W'.cell? ⟨x.b, 2, none⟩ = some (.bool x.e.m.g)) ∧ W'.cell? ⟨g, 0, none⟩ = some (.string m.k) ∧ W'.cell? ⟨g, 1, none⟩ = some (.int .u64 (m.s : Int)) ∧ W'.cell? ⟨g, 2, none⟩ = some (.bool m.g)) (first | exact KC.out _ hd0 | exact KC.out _ hb3)
            (first
              | (go_at_call 170; refine (HC.out _).mono ?_; rintro e w3 ⟨rfl, hb3'⟩; have hb3 := hd0.trans hb3')
              | fail)
          go_wp2
          go_roundg B2.length
          case measure => rw [← hBk]; simp; omega
          case rel =>
            refine ⟨A ++ n :: B1, x, B2, _, by rw [hAB]; simp, rfl, hx, rfl, ?_, HK2.out.next hb3⟩
            exact hok.touch _
        · have hok3 := hok.set ⟨A, n, B, hAB, rfl, hln, hB⟩
          have hlk : lnk n.h (B ++ Q) lv = nxt lv Q := by
            unfold lnk
            rw [if_pos hln, nxt_pass hB]
          rw [hlk] at k1
          cases hq : nxt lv Q with
          | none =>
            rw [hq] at k1
            have k2 : (wr.setCell ⟨P, lv, none⟩ (tp n.b)).cell? ⟨n.b, 4 + lv, none⟩ = some (.pointer none) := k1
            have HK2 := Lib.hid hsk2
            clear hlk km km1 km2 hnW k1 hsk2
            clear hq
            go_wp2
            generalize wr.setCell ⟨P, lv, none⟩ (tp n.b) = w2 at *
            go_quiet (fail)
            go_wp2
            go_roundg lv
            case measure => omega
            case rel => exact ⟨A, n, B, _, hAB, by omega, by omega, rfl, by go_num, hok3, HK2.out.next (below_drewN (Below.refl _ _) _)⟩
          | some b =>
            obtain ⟨x, hxQ, hxb⟩ := nxt_mem hq
            subst hxb
            rw [hq] at k1
            have hge := HGE.out x hxQ
            have k2 : (wr.setCell ⟨P, lv, none⟩ (tp n.b)).cell? ⟨n.b, 4 + lv, none⟩ = some (.pointer (some ⟨x.b, 0, none⟩)) := k1
            have hxW := HSW.out
            have hxs := List.append_of_mem (show x ∈ pre ++ Q by simp [hxQ])
            obtain ⟨X1, X2, hX⟩ := hxs
            rw [hX] at hxW
            obtain ⟨y0, y1, y2, _⟩ := hxW.entry
            have hxb := hxW.lt (n := x) (by simp)
            have KC : Hid (∀ W', Below (wr.setCell ⟨P, lv, none⟩ (tp n.b)).heap.size (wr.setCell ⟨P, lv, none⟩ (tp n.b)) W' → (W'.cell? ⟨x.b, 0, none⟩ = some (.string x.e.m.k) ∧ W'.cell? ⟨x.b, 1, none⟩ = some (.int .u64 (x.e.m.s : Int)) ∧ W'.cell? ⟨x.b, 2, none⟩ = some (.bool x.e.m.g)) ∧ W'.cell? ⟨g, 0, none⟩ = some (.string m.k) ∧ W'.cell? ⟨g, 1, none⟩ = some (.int .u64 (m.s : Int)) ∧ W'.cell? ⟨g, 2, none⟩ = some (.bool m.g)) :=
              fun W' hb => ⟨⟨(hsk2.next hb).cell hxb y0, (hsk2.next hb).cell hxb y1, (hsk2.next hb).cell hxb y2⟩, (hsk2.next hb).cell hgz m0, (hsk2.next hb).cell hgz m1, (hsk2.next hb).cell hgz m2⟩
            have HK2 := Lib.hid hsk2
            clear hxW hX y0 y1 y2 hlk km km1 km2 hnW k1 hsk2 hq
            have HC : Hid (∀ W', Calls Tryz.prog 170 #[.agg #[.string x.e.m.k, .int .u64 (x.e.m.s : Int), .bool x.e.m.g], .agg #[.string m.k, .int .u64 (m.s : Int), .bool m.g]] W' fun e w' => e = .returned (.int .i64 (cmpM x.e.m m)) ∧ Below W'.heap.size W' w') := fun W' => cmp_any x.e.m m W'
            obtain ⟨z, hz⟩ : ∃ z, cmpM x.e.m m = z := ⟨_, rfl⟩
            rw [hz] at hge HC
            have hz0 : (0 : Int) ≤ z := by omega
            clear hz hge
            go_wp2
            generalize wr.setCell ⟨P, lv, none⟩ (tp n.b) = w2 at *
            have hd0 : Below w2.heap.size w2 w2.drew := (Below.refl _ _).drew
            go_region_held3 (fun W' => (W'.cell? ⟨x.b, 0, none⟩ = some (.string x.e.m.k) ∧ W'.cell? ⟨x.b, 1, none⟩ = some (.int .u64 (x.e.m.s : Int)) ∧ W'.cell? ⟨x.b, 2, none⟩ = some (.bool x.e.m.g)) ∧ W'.cell? ⟨g, 0, none⟩ = some (.string m.k) ∧ W'.cell? ⟨g, 1, none⟩ = some (.int .u64 (m.s : Int)) ∧ W'.cell? ⟨g, 2, none⟩ = some (.bool m.g)) (first | exact KC.out _ hd0 | exact KC.out _ hb3)
              (first
                | (go_at_call 170; refine (HC.out _).mono ?_; rintro e w3 ⟨rfl, hb3'⟩; have hb3 := hd0.trans hb3')
                | fail)
            go_wp2
            go_roundg lv
            case measure => omega
            case rel => exact ⟨A, n, B, _, hAB, by omega, by omega, rfl, by go_num, hok3, HK2.out.next hb3⟩
end Go.Proofs.YtopcnlophmplgaaGreatDoor
