/-
  slices.Chunk of entries, by sixteens: its iterator, for every loop body that keeps what it reads.
  Package sorted: the index's bytes (encoded).
  Package sorted: a file's bytes (joined).
  Package sorted: areAscending; Put.
-/
import Derived.Test.YtghfhojpnbpjoaaSrAC
import Derived.Test.YtghfhojpnbpjoaaRangeR
import Derived.OwnWalkIn
import Derived.TacticsInMore
import Derived.LoopNIn
import Derived.LoopIn
import Derived.LoopTactic
import Derived.Deep.RegionWith
import Derived.Shelf.RegionOpen
import Derived.Test.YtghfhojpnbpjoaaBmX
import Derived.Test.YtghfhojpnbpjoaaRcC
import Derived.Deep.Cut
import Derived.Deep.RegionHeld3
namespace Go.Proofs.Ytghfhojpnbpjoaa
open Go.RowKit
set_option linter.unusedVariables false
set_option maxRecDepth 100000

theorem grownS {w W : World} (h : Below w.heap.size w W) : w.grownBy W none := ⟨h.os, h.tape, h.output, h.size, fun i hi _ => h.block i hi⟩
/-- what a round keeps: the blocks of a set -/
def KpG (G : Nat → Prop) (W W' : World) : Prop := W.heap.size ≤ W'.heap.size ∧ ∀ i, G i → i < W.heap.size → W'.heap[i]? = W.heap[i]?
theorem KpG.trans {G : Nat → Prop} {A B C : World} (h : KpG G A B) (k : KpG G B C) : KpG G A C :=
  ⟨Nat.le_trans h.1 k.1, fun i hi hl => (k.2 i hi (Nat.lt_of_lt_of_le hl h.1)).trans (h.2 i hi hl)⟩
theorem KpG.below {G : Nat → Prop} {W W' : World} (h : Below W.heap.size W W') : KpG G W W' := ⟨h.size, fun i _ hl => h.block i hl⟩
theorem kpG_b {G : Nat → Prop} {w : World} (hG : ∀ i, G i → i < w.heap.size) (W : World) (l : Nat) (o o' : Obj) (hl : w.heap.size ≤ l) (h : W.heap[l]? = some o) (_ : o.isCells = false) (_ : o.isWalk = false) : KpG G W (W.putObj l o') := by
  refine ⟨by simp, fun i hi hlt => ?_⟩
  exact World.putObj_heap_other (by have := hG i hi; omega)
theorem KpG.cell {G : Nat → Prop} {W W' : World} (h : KpG G W W') {p : Addr} {v : Value} (hp : G p.block) (hc : W.cell? p = some v) : W'.cell? p = some v := by
  have hlt := World.block_lt_of_cell? W _ hc
  rw [← hc]
  unfold World.cell?
  rw [h.2 _ hp hlt]

theorem run_cut3E (w : World) (A : Option Addr) (n c l h m : Nat) (h1 : l ≤ h) (h2 : h ≤ m) (h3 : m ≤ c) :
    (Instr.slice 22 (.slice A n c) (some (.int .i64 (l : Int))) (some (.int .i64 (h : Int))) (some (.int .i64 (m : Int)))).run Try.prog w = .ok (.slice (cutE A m l) (h - l) (m - l)) w := by
  obtain ⟨i0, hi, hz0, hz1, hz2⟩ := info_parts entry_info
  unfold Instr.slice cutE
  simp [run_underlying Try.underlying22, Instr.sliceBounds, Instr.sliceBound, asIntOf, sizeOf, typeInfo, hi, hz1, h1, h2, h3]
theorem run_minS (a b : Nat) (w : World) : (Builtin.min_ #[3, 3] 3 #[.int .i64 (a : Int), .int .i64 (b : Int)]).run Try.prog w = .ok (.int .i64 ((min a b : Nat) : Int)) w := by
  simp only [Builtin.min_, List.foldlM_cons, List.foldlM_nil, Builtin.min2, Sem.run_bind, Sem.run_pure, Result.andThen_ok]
  by_cases h : (b : Int) < (a : Int)
  · rw [if_pos h, Nat.min_eq_right (by omega)]
  · rw [if_neg h, Nat.min_eq_left (by omega)]

theorem chunk_any (n c : Nat) (A : Option Addr) (w : World) :
    Calls Try.prog 43 #[.slice A n c, .int .i64 16] w fun e w' => e = .returned (.func (.func 72) #[] #[.pointer (some ⟨w.heap.size, 0, none⟩), .pointer (some ⟨w.heap.size + 1, 0, none⟩)]) ∧ w' = (w.alloc (.cells #[.slice A n c] 22)).alloc (.cells #[.int .i64 16] 3) := by
  have hmf : ∀ (fn : Fn) (first cap : Array Value) (w : World), (Instr.makeFunc fn first cap).run Try.prog w = .ok (.func fn first cap) w := fun _ _ _ _ => rfl
  go_enter Try.func43, Try.ntmps43
  go_wp2
  go_ret
  exact ⟨rfl, rfl⟩
/-- how long the chunk is -/
def chN (n k : Nat) : Nat := min 16 (n - 16 * k)
/-- the chunk, as it is handed on -/
def chV (A : Option Addr) (n k : Nat) : Value := .slice (cutE A (16 * k + chN n k) (16 * k)) (chN n k) (chN n k)
/-- what holds between two rounds -/
def ChR (n c Bs Bn : Nat) (A : Option Addr) (J : List Nat → World → Prop) (v : Value) (wr : World) : Prop :=
  ∃ (pre : List Nat), v = .int .i64 ((16 * pre.length : Nat) : Int) ∧ J pre wr ∧ 16 * pre.length ≤ n + 15 ∧ wr.cell? ⟨Bs, 0, none⟩ = some (.slice A n c) ∧ wr.cell? ⟨Bn, 0, none⟩ = some (.int .i64 16)

set_option maxHeartbeats 4000000 in
theorem chunk1_any (m l Bs Bn n c : Nat) (A : Option Addr) (G : Nat → Prop) (hGs : G Bs) (hGn : G Bn) (hnc : n ≤ c) (hcc : c ≤ 9223372036854775807) (hn : n ≤ 1000000)
    (J : List Nat → World → Prop) (W : World) (hJ : AbidesFrom W.heap.size J)
    (hY : ∀ pre x W1, J pre W1 → (x = pre.length ∧ 16 * x < n) → YieldAt Fence.wide m Try.prog l #[chV A n x] W1 fun e W' => (e = .returned (.bool true) ∧ J (pre ++ [x]) W' ∧ KpG G W1 W') ∨ (e = .returned (.bool false) ∧ False))
    (hs : W.cell? ⟨Bs, 0, none⟩ = some (.slice A n c)) (hb : W.cell? ⟨Bn, 0, none⟩ = some (.int .i64 16)) (h0 : J [] W) :
    Calls Try.prog 72 (#[.func (.yield l) #[] #[]] ++ #[.pointer (some ⟨Bs, 0, none⟩), .pointer (some ⟨Bn, 0, none⟩)]) W fun e W' => (∃ v, e = .returned v) ∧ ∃ xs : List Nat, xs.length = (n + 15) / 16 ∧ J xs W' := by
  have HJ := Lib.hid hJ; have HY := Lib.hid hY; have H0 := Lib.hid h0
  clear hJ hY h0
  simp only [List.append_toArray, List.cons_append, List.nil_append]
  go_enter Try.func72, Try.ntmps72
  have HS := Lib.hid hs; have HB := Lib.hid hb
  clear hs hb
  go_wp2_with fail
  go_loopw [4] (fun v wr => ChR n c Bs Bn A J v wr) (fun v _ => n + 16 - (intOf v).toNat)
  case atStart => exact ⟨[], rfl, H0.out, by simp, HS.out, HB.out⟩
  case round =>
    clear H0 HS HB
    obtain ⟨pre, rfl, hj, hpl, hs, hb⟩ := hrel
    obtain ⟨k, hk⟩ : ∃ k, pre.length = k := ⟨_, rfl⟩
    obtain ⟨p, hp⟩ : ∃ p, 16 * k = p := ⟨_, rfl⟩
    rw [hk] at hpl ⊢
    rw [hp] at hpl ⊢
    by_cases hlt : p < n
    · have HYk := Lib.hid (fun W1 (hj : J pre W1) => HY.out pre k W1 hj ⟨hk.symm, by omega⟩)
      obtain ⟨q, hq⟩ : ∃ q, chN n k = q := ⟨_, rfl⟩
      have hqd : q = min 16 (n - p) := by rw [← hq, chN, hp]
      have hcv : chV A n k = .slice (cutE A (p + q) p) q q := by unfold chV; rw [hq, hp]
      rw [hcv] at HYk
      have hq1 : 1 ≤ q := by omega
      have hq16 : q ≤ 16 := by omega
      have hqn : p + q ≤ n := by omega
      have hcut := fun W => run_cutE W A n c p (by omega)
      have hmin : ∀ W, (Builtin.min_ #[3, 3] 3 #[.int .i64 16, .int .i64 ((n - p : Nat) : Int)]).run Try.prog W = .ok (.int .i64 (q : Int)) W := fun W => by
        have := run_minS 16 (n - p) W
        rw [← hqd] at this
        exact this
      have hsl : ∀ W, (Instr.slice 22 (.slice A n c) (some (.int .i64 (p : Int))) (some (.int .i64 ((p : Int) + (q : Int)))) (some (.int .i64 ((p : Int) + (q : Int))))).run Try.prog W = .ok (.slice (cutE A (p + q) p) q q) W := fun W => by
        have := run_cut3E W A n c p (p + q) (p + q) (by omega) (Nat.le_refl _) (by omega)
        rw [show p + q - p = q from by omega] at this
        push_cast at this
        exact this
      have hlti : (p : Int) < (n : Int) := by omega
      have HM := Lib.hid (show pre.length = k ∧ 16 * k = p ∧ q = min 16 (n - p) from ⟨hk, hp, hqd⟩)
      have HDr : Hid (wr.drew.cell? ⟨Bs, 0, none⟩ = some (.slice A n c) ∧ wr.drew.cell? ⟨Bn, 0, none⟩ = some (.int .i64 16)) := ⟨hs, hb⟩
      clear hqd hk hq hcv hp
      go_wp2_with fail
      go_region_held3 (fun W => W.cell? ⟨Bs, 0, none⟩ = some (.slice A n c) ∧ W.cell? ⟨Bn, 0, none⟩ = some (.int .i64 16)) (exact HDr.out) (fail)
      refine at_worldS (P := fun W5 => Below wr.heap.size wr W5) (below_drew (Below.refl _ _)) ?_
      intro W5 hb5
      have hj5 : J pre W5 := HJ.out _ _ _ none hj (grownS hb5) (fun r e => by cases e)
      have hs5 : W5.cell? ⟨Bs, 0, none⟩ = some (.slice A n c) := (hb5.cell (p := ⟨Bs, 0, none⟩) (World.block_lt_of_cell? wr _ hs)).trans hs
      have hn5 : W5.cell? ⟨Bn, 0, none⟩ = some (.int .i64 16) := (hb5.cell (p := ⟨Bn, 0, none⟩) (World.block_lt_of_cell? wr _ hb)).trans hb
      obtain ⟨fn, tmps, assign, body, hy, hR⟩ := HYk.out W5 hj5
      have hy : (Instr.yield l #[.slice (cutE A (p + q) p) q q]).run Try.prog W5 = .ok (.round l fn tmps assign body) W5 := hy
      have HRd := Lib.hid hR
      have HS5 := Lib.hid hs5; have HN5 := Lib.hid hn5
      clear hR hj5 hs hb hj hb5 hs5 hn5 HDr hmin hcut
      have hs5 := HS5.out
      have hn5 := HN5.out
      go_upto_region 4 with fail
      refine (wpIn_wide (n := m + 1)).1 ?_
      gi_wp2_with fail
      refine HRd.out.mono ?_
      rintro e W6 (⟨rfl, hJ6, hk6⟩ | ⟨_, hf⟩)
      · have hs6 := hk6.cell (p := ⟨Bs, 0, none⟩) hGs HS5.out
        have hn6 := hk6.cell (p := ⟨Bn, 0, none⟩) hGn HN5.out
        have HFin : Hid (ChR n c Bs Bn A J (.int .i64 ((p : Int) + 16)) W6) := ⟨pre ++ [k], by rw [List.length_append, HM.out.1, List.length_singleton, show 16 * (k + 1) = p + 16 from by have := HM.out.2.1; omega]; push_cast; rfl, hJ6, by rw [List.length_append, HM.out.1, List.length_singleton]; have := HM.out.2.1; omega, hs6, hn6⟩
        clear hJ6 hk6 hs6 hy hs5 hn5 hsl HS5 HN5
        gi_wp2_with fail
        go_wp2
        go_roundw
        case rel => exact HFin.out
        case measure => simp [intOf]; omega
      · exact hf.elim
    · have hnl : ¬ ((p : Int) < (n : Int)) := by omega
      have HFin : Hid (∃ xs : List Nat, xs.length = (n + 15) / 16 ∧ J xs wr) := ⟨pre, by rw [hk]; omega, hj⟩
      clear hj
      go_wp2
      go_end0
      exact ⟨⟨_, rfl⟩, HFin.out⟩

/-! fileOf -/
theorem el_chunk {w : World} {B n c : Nat} {A : Option Addr} {S : List En} (h : EL w B A n c S) (k : Nat) (hk : 16 * k < n) : EL w B (cutE A (16 * k + chN n k) (16 * k)) (chN n k) (chN n k) (blkAt S k) := by
  have hl := h.lies.elen
  have hc := h.cc
  have hnc := h.nc
  have e : chN n k = min 16 (n - 16 * k) := rfl
  have h1 : Lies w B 4 A (16 * k + chN n k) ((ecs S).take ((16 * k + chN n k) * 4)) := h.lies.takeE (by omega)
  have h2 := h1.cutE (m := 16 * k) (c := 16 * k + chN n k) (by omega) (Nat.le_refl _)
  refine ⟨?_, h.B, Nat.le_refl _, by omega, fun x hx => h.sz x (blkAt_mem hx)⟩
  rw [ecs_take, ecs_drop, show 16 * k + chN n k - 16 * k = chN n k from by omega] at h2
  have e2 : (S.take (16 * k + chN n k)).drop (16 * k) = blkAt S k := by
    unfold blkAt
    rw [List.drop_take, show 16 * k + chN n k - 16 * k = chN n k from by omega, e]
    by_cases hle : n - 16 * k ≤ 16
    · rw [Nat.min_eq_right hle, List.take_of_length_le (by rw [List.length_drop]; omega), List.take_of_length_le (by rw [List.length_drop]; omega)]
    · rw [Nat.min_eq_left (by omega)]
  rwa [e2] at h2
theorem FAt.other {w w' : World} {b g N : Nat} {bl : List UInt8} {rs : List (Nat × Mk)} {ks : List ByteArray} {vr vb vk : Value} {row : Option Nat} (h : FAt w b g bl rs ks N vr vb vk) (hg : w.grownBy w' row) (hr : ∀ r, row = some r → ∃ o : Obj, w.heap[r]? = some o ∧ o.isCells = false) : FAt w' b g bl rs ks N vr vb vk := by
  have hne : ∀ {i : Nat} {cs : Array Value} {t : TypeId} {f : Nat × Nat}, w.heap[i]? = some (.cells cs t f) → ¬ row = some i := fun hi e => by
    obtain ⟨o, ho, hc⟩ := hr _ e
    rw [hi] at ho
    injection ho with ho
    subst ho
    cases hc
  have ho : ∀ {e k n : Nat} {v : Value} {xs : List Value}, w.ownsRow b e k v n xs → w'.ownsRow b e k v n xs := fun h1 => (Wrote.grown hg).row h1 fun i hi => by
    obtain ⟨_, cur, q⟩ := own_blk h1 hi
    exact hne q
  exact ⟨(hg.block g h.fl.lt (fun e => hne h.fl e.symm)).trans h.fl, ho h.rw, ho h.bk, ho h.ky, Nat.le_trans h.sz hg.size, h.lt⟩
/-- what stands in a file's block behind k chunks -/
def FoR (w W : World) (g : Nat) (S : List En) (k : Nat) : Prop :=
  ∃ vr vb vk, FAt W (g + 4) g (blkTo S k) (rowsTo S k) (keysF (S.take (16 * k))) S.length vr vb vk ∧ Below g w W ∧ W.heap[g + 1]? = some (.cells #[.pointer (some ⟨g, 0, none⟩)] 57 (0, 0))

section
attribute [local go_sem] Oper.semAt_some
set_option maxHeartbeats 4000000 in
theorem fileOf_any (B n c : Nat) (A : Option Addr) (S : List En) (w : World) (hL : EL w B A n c S) (hok : okF S = true) (hq : SQ S) :
    Calls Try.prog 23 #[.slice A n c] w fun e w' => e = .returned (.pointer (some ⟨w.heap.size, 0, none⟩)) ∧ ∃ vr vb vk, FAt w' (w.heap.size + 4) w.heap.size (blkB S) (rowsTo S (nB S)) (keysF S) S.length vr vb vk ∧ Below w.heap.size w w' := by
  obtain ⟨ha, hn4⟩ := (okF_iff S).1 hok
  have hln := hL.lies.elen
  have hnc := hL.nc
  have hcc := hL.cc
  unfold maxLen at hcc
  have HL := Lib.hid hL
  refine (callsIn_wide (n := 6)).1 ?_
  refine callsIn_of_wp_marks Try.func23 rfl trivial ?_ rfl
  simp only [Try.ntmps23, List.size_toArray, List.length_cons, List.length_nil, Nat.reduceAdd, Nat.reduceSub, Array.replicate_succ, Array.replicate_zero, List.push_toArray, List.append_toArray, List.nil_append, List.cons_append]
  refine wpIn_wide.2 ?_
  clear hL
  go_wp2_with fail
  refine (chunk_any n c A _).mono ?_
  rintro e w' ⟨rfl, rfl⟩
  obtain ⟨g, hg⟩ : ∃ g, w.heap.size = g := ⟨_, rfl⟩
  have hgs := hg
  have s1 : (w.alloc (.cells #[.slice none 0 0, .slice none 0 0, .slice none 0 0, .int .i64 (n : Int)] 87)).heap.size = g + 1 := by simp [hg]
  have f1 : FlIs (w.alloc (.cells #[.slice none 0 0, .slice none 0 0, .slice none 0 0, .int .i64 (n : Int)] 87)) g #[.slice none 0 0, .slice none 0 0, .slice none 0 0, .int .i64 (n : Int)] := by rw [← hg]; exact heap_alloc_new w _
  have b1 : Below g w (w.alloc (.cells #[.slice none 0 0, .slice none 0 0, .slice none 0 0, .int .i64 (n : Int)] 87)) := by rw [← hg]; exact (Below.refl _ _).alloc (Nat.le_refl _) _
  rw [hg]
  obtain ⟨W1, hW1⟩ : ∃ W1, w.alloc (.cells #[.slice none 0 0, .slice none 0 0, .slice none 0 0, .int .i64 (n : Int)] 87) = W1 := ⟨_, rfl⟩
  rw [hW1] at s1 f1 b1 ⊢
  have x1 : (W1.alloc (.cells #[.pointer (some ⟨g, 0, none⟩)] 57)).heap[g + 1]? = some (.cells #[.pointer (some ⟨g, 0, none⟩)] 57 (0, 0)) := by rw [← s1]; exact heap_alloc_new W1 _
  have s2 : (W1.alloc (.cells #[.pointer (some ⟨g, 0, none⟩)] 57)).heap.size = g + 2 := by simp [s1]
  have f2 := f1.alloc (.cells #[.pointer (some ⟨g, 0, none⟩)] 57)
  have b2 := b1.alloc (by omega) (.cells #[.pointer (some ⟨g, 0, none⟩)] 57)
  obtain ⟨W2, hW2⟩ : ∃ W2, W1.alloc (.cells #[.pointer (some ⟨g, 0, none⟩)] 57) = W2 := ⟨_, rfl⟩
  rw [hW2] at x1 s2 f2 b2 ⊢
  have y1 : (W2.alloc (.cells #[.slice A n c] 22)).heap[g + 2]? = some (.cells #[.slice A n c] 22 (0, 0)) := by rw [← s2]; exact heap_alloc_new W2 _
  have s3 : (W2.alloc (.cells #[.slice A n c] 22)).heap.size = g + 3 := by simp [s2]
  have x2 : (W2.alloc (.cells #[.slice A n c] 22)).heap[g + 1]? = _ := (Below.heap_alloc _ _ _ (by omega)).trans x1
  have f3 := f2.alloc (.cells #[.slice A n c] 22)
  have b3 := b2.alloc (by omega) (.cells #[.slice A n c] 22)
  rw [s2]
  obtain ⟨W3, hW3⟩ : ∃ W3, W2.alloc (.cells #[.slice A n c] 22) = W3 := ⟨_, rfl⟩
  rw [hW3] at y1 s3 x2 f3 b3 ⊢
  have z1 : (W3.alloc (.cells #[.int .i64 16] 3)).heap[g + 3]? = some (.cells #[.int .i64 16] 3 (0, 0)) := by rw [← s3]; exact heap_alloc_new W3 _
  have s4 : (W3.alloc (.cells #[.int .i64 16] 3)).heap.size = g + 4 := by simp [s3]
  have x3 : (W3.alloc (.cells #[.int .i64 16] 3)).heap[g + 1]? = _ := (Below.heap_alloc _ _ _ (by omega)).trans x2
  have y2 : (W3.alloc (.cells #[.int .i64 16] 3)).heap[g + 2]? = _ := (Below.heap_alloc _ _ _ (by omega)).trans y1
  have f4 := f3.alloc (.cells #[.int .i64 16] 3)
  have b4 := b3.alloc (by omega) (.cells #[.int .i64 16] 3)
  obtain ⟨W0, hW0⟩ : ∃ W0, W3.alloc (.cells #[.int .i64 16] 3) = W0 := ⟨_, rfl⟩
  rw [hW0] at z1 s4 x3 y2 f4 b4 ⊢
  clear hW0 hW1 hW2 hW3 x1 x2 y1 s1 s2 s3 f1 f2 f3 b1 b2 b3
  have R0 : FoR w W0 g S 0 := ⟨_, _, _, ⟨by rw [hln]; exact f4, World.ownsRow_nil _ _ _ _, World.ownsRow_nil _ _ _ _, World.ownsRow_nil _ _ _ _, by omega, by omega⟩, b4, x3⟩
  have HR0 := Lib.hid R0; have HY2 := Lib.hid y2; have HZ1 := Lib.hid z1
  clear R0 y2 z1 x3 f4 b4
  go_wp2_with fail
  refine (wpIn_wide (n := 6)).1 ?_
  refine range_next (m := 5) (α := Nat) (gf := 72) (lb := #[.pointer (some ⟨g + 2, 0, none⟩), .pointer (some ⟨g + 2 + 1, 0, none⟩)]) (encs := fun k => #[chV A n k]) (Kp := KpG (fun i => i = g + 2 ∨ i = g + 3))
    (G := fun pre x => x = pre.length ∧ 16 * x < n) (S := fun xs => xs.length = (n + 15) / 16)
    rfl (enters_of Try.func72 (by kernel_rfl) rfl) (fun _ => rfl) (fun h k => KpG.trans h k) (kpG_b (fun i hi => by rcases hi with rfl | rfl <;> omega))
    (fun l J W hW hJ hY h0 => chunk1_any 5 l (g + 2) (g + 2 + 1) n c A _ (.inl rfl) (.inr rfl) hnc (by omega) (by omega) J W hJ hY ((hW.cell (p := ⟨g + 2, 0, none⟩) (by show g + 2 < _; omega)).trans (cell_of_row _ _ 0 _ _ (0, 0) HY2.out)) ((hW.cell (p := ⟨g + 2 + 1, 0, none⟩) (by show g + 2 + 1 < _; omega)).trans (cell_of_row _ _ 0 _ _ (0, 0) HZ1.out)) h0)
    (fun pre W => FoR w W g S pre.length)
    (fun pre X Y row hI hg2 hr => by
      obtain ⟨vr, vb, vk, h1, h2, h3⟩ := hI
      have hne : ∀ r, row = some r → g + 4 ≤ r := fun r e => by have := (hr r e).1; omega
      exact ⟨vr, vb, vk, h1.other hg2 (fun r e => (hr r e).2), h2.grown hg2 (Nat.le_trans (by have := h1.lt; omega) h1.sz) (fun r e => by have := hne r e; omega), (hg2.block _ (Array.getElem?_eq_some_iff.1 h3).1 (fun e => by have := hne _ e.symm; omega)).trans h3⟩)
    HR0.out
    (fun x a' W => a' = { tmps := #[.slice A n c, undef, .pointer none, .pointer (some ⟨g + 1, 0, none⟩), chV A n x, .slice A n c, .int .i64 (n : Int), .agg #[.slice none 0 0, .slice none 0 0, .slice none 0 0, .int .i64 (n : Int)], .pointer (some ⟨g, 0, none⟩), .slice A n c, .func (.func 72) #[] #[.pointer (some ⟨g + 2, 0, none⟩), .pointer (some ⟨g + 2 + 1, 0, none⟩)], chV A n x, undef, undef, undef, undef], defers := [] })
    (fun x a' _ X Y row hI hg2 hr => hI)
    ?assign ?body ?done
  case assign =>
    rintro l pre x W K hI hK
    gi_wp2
    exact hK _ _ (KeepsFrom.refl _ _) (KpG.below (Below.refl _ _)) hI rfl
  case body =>
    rintro l pre x a' W ⟨vr, vb, vk, hF, hlow, hx1⟩ rfl ⟨rfl, hlt⟩
    have hc1 := cell_of_row _ _ 0 _ _ (0, 0) hx1
    have hEL := El_low (HL.out) (show B ≤ g by have := HL.out.B; omega) hlow (by have := HL.out.B; have := hF.sz; omega)
    have hkb : pre.length < nB S := by unfold nB; omega
    obtain ⟨k, hk⟩ : ∃ k, pre.length = k := ⟨_, rfl⟩
    have hkl : (pre ++ [k]).length = k + 1 := by simp [hk]
    rw [hk] at hF hlt hkb ⊢
    have hbl := blkTo_len ha k
    have hnb := nB_le hn4
    have hA := Lib.hid (add_any (g + 4) g B (chN n k) (chN n k) S.length (cutE A (16 * k + chN n k) (16 * k)) (blkAt S k) _ _ _ vr vb vk W hF (el_chunk hEL k hlt) (by have := HL.out.B; omega) (okB_blk ha hkb) (fun e he => hq e (blkAt_mem he)) (by omega) (by rw [rowsTo_len]; omega) (by have := keysF_len (S.take (16 * k)); rw [List.length_take] at this; omega))
    have HLow := Lib.hid hlow; have HX1 := Lib.hid hx1; have HKl := Lib.hid hkl
    have hsz := hF.sz
    clear hF hEL hlow hx1 hk hkl
    unfold chV
    gi_wp2_with fail
    refine ⟨trivial, (CallsIn.inRound l (callsIn_wide.2 hA.out)).mono ?_⟩
    rintro e W4 ⟨rfl, vr', vb', vk', hF', hw⟩
    have h1 : KeepsFrom W0.heap.size W W4 := ⟨hw.size, fun i o hi ho hoc => (hw.block i (Array.getElem?_eq_some_iff.1 ho).1 (by
      rintro (e | ⟨_, cs, t, e⟩)
      · omega
      · rw [ho] at e; injection e with e; subst e; cases hoc)).trans ho⟩
    have h2 : KpG (fun i => i = g + 2 ∨ i = g + 3) W W4 := ⟨hw.size, fun i hi hlt => hw.block i hlt (by
      rintro (e | ⟨e, _⟩) <;> rcases hi with h | h <;> omega)⟩
    have h3 : FoR w W4 g S (pre ++ [k]).length := by
      rw [HKl.out]
      refine ⟨vr', vb', vk', ?_, HLow.out.trans (hw.low (by omega) (by omega)), (hw.block _ (Array.getElem?_eq_some_iff.1 HX1.out).1 (by rintro (e | ⟨e, _⟩) <;> omega)).trans HX1.out⟩
      rw [blkTo_succ, rowsTo_succ, take_blk, show keysF (S.take (16 * k) ++ blkAt S k) = keysG (keysF (S.take (16 * k))) (blkAt S k) from keysG_app _ _ _]
      exact hF'
    have HH := Lib.hid (show _ ∧ _ ∧ _ from ⟨h1, h2, h3⟩)
    clear h1 h2 h3 hF' hw hA
    gi_wp2
    exact HH.out
  case done =>
    rintro D xs W hD hS ⟨vr, vb, vk, hF, hlow, hx1⟩ hK
    have hc1 := cell_of_row _ _ 0 _ _ (0, 0) hx1
    have hg := grownBy_putObj' W D (.deferred none)
    have hDg : g + 4 ≤ D := by omega
    have hF2 : FAt (W.putObj D (.deferred none)) (g + 4) g (blkB S) (rowsTo S (nB S)) (keysF S) S.length vr vb vk := by
      have h := hF.other hg (fun r e => by injection e with e; subst e; exact ⟨_, hK, rfl⟩)
      rw [hS, ← hln, show (S.length + 15) / 16 = nB S from rfl, take_all] at h
      exact h
    have hlow2 : Below g w (W.putObj D (.deferred none)) := hlow.grown hg (by have := hF.sz; omega) (fun r e => by injection e with e; omega)
    have HF := Lib.hid hF2; have HK := Lib.hid hK; have HLow := Lib.hid hlow2
    clear hF2 hK hF hlow hlow2 hx1 hg
    go_wp2
    refine ⟨by simp, .inl ⟨_, _, rfl, run_takeDeferred HK.out, ?_⟩⟩
    exact ⟨_, results_tmp rfl _ _ _, by rw [hgs]; rfl, _, _, _, by rw [hgs]; exact HF.out, by rw [hgs]; exact HLow.out⟩
end
end Go.Proofs.Ytghfhojpnbpjoaa

namespace Go.Proofs.Ytghfhojpnbpjoaa
open Go.RowKit
set_option linter.unusedVariables false
set_option maxRecDepth 100000

theorem Lies.srow {w : World} {B n i : Nat} {A : Option Addr} {l : List (Nat × Mk)} (h : Lies w B 4 A n (l.flatMap rowCs)) (hi : i < n) :
    ∃ b o r, A = some ⟨b, o, none⟩ ∧ b < B ∧ l[i]? = some r ∧ w.cell? ⟨b, o + i * 4, none⟩ = some (.int .i64 (r.1 : Int)) ∧ w.cell? ⟨b, o + i * 4 + 1, none⟩ = some (.string r.2.k) ∧ w.cell? ⟨b, o + i * 4 + 2, none⟩ = some (.int .u64 (r.2.s : Int)) ∧ w.cell? ⟨b, o + i * 4 + 3, none⟩ = some (.bool r.2.g) := by
  obtain ⟨b, o, e, hb, hc⟩ := h.elem (by decide) hi
  have hl : i < l.length := by have := h.len; rw [flat_len rowCs 4 (fun _ => rfl)] at this; omega
  refine ⟨b, o, l[i], e, hb, List.getElem?_eq_getElem hl, ?_, ?_, ?_, ?_⟩
  · rw [show o + i * 4 = o + (i * 4 + 0) from rfl, hc 0 (by decide)]; exact flat_get rowCs 4 (fun _ => rfl) l i 0 _ (List.getElem?_eq_getElem hl) (by decide)
  · rw [Nat.add_assoc, hc 1 (by decide)]; exact flat_get rowCs 4 (fun _ => rfl) l i 1 _ (List.getElem?_eq_getElem hl) (by decide)
  · rw [Nat.add_assoc, hc 2 (by decide)]; exact flat_get rowCs 4 (fun _ => rfl) l i 2 _ (List.getElem?_eq_getElem hl) (by decide)
  · rw [Nat.add_assoc, hc 3 (by decide)]; exact flat_get rowCs 4 (fun _ => rfl) l i 3 _ (List.getElem?_eq_getElem hl) (by decide)

/-- the bytes of the first rows -/
def idxTo (rs : List (Nat × Mk)) (k : Nat) : List UInt8 := Vi.enc rs.length ++ (rs.take k).flatMap rowX
theorem idxTo_succ {rs : List (Nat × Mk)} {k : Nat} {r : Nat × Mk} (h : rs[k]? = some r) : idxTo rs (k + 1) = (idxTo rs k ++ Vi.enc r.1) ++ encM r.2 := by
  unfold idxTo; rw [List.take_add_one, h]; simp [rowX]
theorem idxTo_all (rs : List (Nat × Mk)) : idxTo rs rs.length = idxOf rs := by unfold idxTo idxOf; rw [List.take_length]
theorem idxTo_len {rs : List (Nat × Mk)} (h : ∀ r ∈ rs, szR r) (k : Nat) (hk : k ≤ rs.length) : (idxTo rs k).length ≤ 63 * k + 10 := by
  have h1 := flat_rows (rs := rs.take k) (fun r hr => h r (List.mem_of_mem_take hr))
  have h2 := Vi.enc_len rs.length
  rw [List.length_take, Nat.min_eq_left hk] at h1
  unfold idxTo
  rw [List.length_append]; omega
def SIdxR (w : World) (rs : List (Nat × Mk)) (i v : Value) (wr : World) : Prop :=
  ∃ k, k ≤ rs.length ∧ i = .int .i64 (k : Int) ∧ wr.ownsRow w.heap.size 5 1 v (idxTo rs k).length ((idxTo rs k).map bv) ∧ Below w.heap.size w wr

set_option maxHeartbeats 4000000 in
theorem encoded_any (g base : Nat) (vr vb vk vn : Value) (rs : List (Nat × Mk)) (w : World) (hF : FlIs w g #[vr, vb, vk, vn]) (hr : w.ownsRow base 128 4 vr rs.length (rs.flatMap rowCs))
    (hs : ∀ r ∈ rs, szR r) (hq : ∀ r ∈ rs, r.2.s < 18446744073709551616) (hn : rs.length ≤ 100000) :
    Calls Try.prog 46 #[.pointer (some ⟨g, 0, none⟩)] w fun e w' => Got w (idxOf rs).length (idxOf rs) e w' := by
  obtain ⟨i0, hi, hz0, hz1, hz2⟩ := info_parts byte_info
  obtain ⟨A, c, rfl, _⟩ := own_shape hr
  obtain ⟨n, hnl⟩ : ∃ n, rs.length = n := ⟨_, rfl⟩
  have hc0 : w.cell? ⟨g, 0, none⟩ = some (.slice A n c) := by rw [hF.cell 0, ← hnl]; rfl
  have hw1 : IntKind.u64.wrap (n : Int) = (n : Int) := by rw [IntKind.wrap_u64]; omega
  have HL := Lib.hid (Lies.of_own hr)
  have HP := Lib.hid (put_any none 0 0 n [] w (Lies.none_ _ _ _ _) (by omega) (by omega))
  have HS := Lib.hid hs; have HQ := Lib.hid hq; have HNl := Lib.hid hnl
  have hgl := hF.lt
  rw [hnl] at HL hn
  clear hF hr hs hq hnl
  go_enter Try.func46, Try.ntmps46
  go_wp2_with fail
  refine HP.out.mono ?_
  rintro e w1 ⟨v1, rfl, ho1, hb1⟩
  have hc1 : w1.cell? ⟨g, 0, none⟩ = some (.slice A n c) := (hb1.cell (p := ⟨g, 0, none⟩) hgl).trans hc0
  have e0 : idxTo rs 0 = [] ++ Vi.enc n := by unfold idxTo; rw [HNl.out]; simp
  have hR : SIdxR w rs (.int .i64 0) v1 w1 := ⟨0, Nat.zero_le _, rfl, by rw [e0, List.length_append]; exact ho1, hb1⟩
  have HR := Lib.hid hR
  clear ho1 hb1 hc0 HP hR e0
  go_wp2_with fail
  go_loopw [18, 3] (fun i v wr => SIdxR w rs i v wr) (fun i _ _ => n - (intOf i).toNat)
  case atStart => exact HR.out
  case round =>
    clear HR hc1
    obtain ⟨k, hk, rfl, ho, hb⟩ := hrel
    rw [HNl.out] at hk
    by_cases hlt : k < n
    · have hLr := HL.out.keep (w' := wr) (fun p hp => hb.cell hp)
      obtain ⟨ab, ao, r, rfl, hab, hr, k0, k1, k2, k3⟩ := hLr.srow hlt
      have hrm := List.mem_of_getElem? hr
      obtain ⟨hs1, hs2⟩ := HS.out r hrm
      have hs3 := HQ.out r hrm
      have hi0 : (0 : Int) ≤ (k : Int) := by omega
      have hi1 : (k : Int) < (n : Int) := by omega
      have hit : ((k : Int)).toNat = k := by simp
      have hil := idxTo_len HS.out k (by rw [HNl.out]; exact hk)
      have HNx := Lib.hid (idxTo_succ hr)
      have ht : wr.alloc (.cells #[.int .i64 (r.1 : Int), .string r.2.k, .int .u64 (r.2.s : Int), .bool r.2.g] 128) = wr.alloc (.cells #[.int .i64 (r.1 : Int), .string r.2.k, .int .u64 (r.2.s : Int), .bool r.2.g] 128) := rfl
      have e7 : (wr.alloc (.cells #[.int .i64 (r.1 : Int), .string r.2.k, .int .u64 (r.2.s : Int), .bool r.2.g] 128)).heap[wr.heap.size]? = some (.cells #[.int .i64 (r.1 : Int), .string r.2.k, .int .u64 (r.2.s : Int), .bool r.2.g] 128 (0, 0)) := heap_alloc_new wr _
      have b7 := (Below.refl wr.heap.size wr).alloc (Nat.le_refl _) (.cells #[.int .i64 (r.1 : Int), .string r.2.k, .int .u64 (r.2.s : Int), .bool r.2.g] 128)
      have z7 : (wr.alloc (.cells #[.int .i64 (r.1 : Int), .string r.2.k, .int .u64 (r.2.s : Int), .bool r.2.g] 128)).heap.size = wr.heap.size + 1 := by simp
      obtain ⟨W7, hW7⟩ : ∃ W7, wr.alloc (.cells #[.int .i64 (r.1 : Int), .string r.2.k, .int .u64 (r.2.s : Int), .bool r.2.g] 128) = W7 := ⟨_, rfl⟩
      rw [hW7] at e7 b7 z7
      clear ht
      have q0 : W7.cell? ⟨wr.heap.size, 0, none⟩ = some (.int .i64 (r.1 : Int)) := cell_of_row _ _ 0 _ _ (0, 0) e7
      have hwr : IntKind.u64.wrap (r.1 : Int) = (r.1 : Int) := by rw [IntKind.wrap_u64]; omega
      have HO7 := Lib.hid (own_below ho b7); have HB7 := Lib.hid (hb.trans (b7.mono hb.size))
      obtain ⟨A3, c3', rfl, _⟩ := own_shape ho
      have HE7 := Lib.hid e7; have HZ7 := Lib.hid z7
      have HPr := Lib.hid (put_ans r.1 W7 (by omega))
      clear ho hb e7 b7 z7 hLr
      go_wp2_with fail
      refine HPr.out.mono ?_
      rintro e w2 ⟨A2, n2, c2, rfl, hn2, hl2, hb2⟩
      have hel := Vi.enc_len r.1
      have ho2 := own_below HO7.out hb2
      have hB2 := HB7.out.trans (hb2.mono HB7.out.size)
      have e2 : w2.heap[wr.heap.size]? = some (.cells #[.int .i64 (r.1 : Int), .string r.2.k, .int .u64 (r.2.s : Int), .bool r.2.g] 128 (0, 0)) := (hb2.block _ (by have := HZ7.out; omega)).trans HE7.out
      have HO2 := Lib.hid ho2; have HB2 := Lib.hid hB2; have HL2 := Lib.hid hl2; have HE2 := Lib.hid e2; have HN2 := Lib.hid hn2
      obtain ⟨X, hX⟩ : ∃ X, idxTo rs k = X := ⟨_, rfl⟩
      rw [hX] at HO2 HNx hil ⊢
      clear ho2 hB2 hl2 e2 hb2 hn2 HPr HE7 HO7 HB7 HZ7 q0 hW7 k0 k1 k2 k3 hX
      go_wp2_with (at_builtin; refine wpList_app _ rfl (.tmp 22) (.tmp 26) 25 rfl w.heap.size 5 i0 _ 1 1 Try.underlying25 hi hz0 hz1 hz2 rfl (by decide) _ _ _ rfl HO2.out w2.heap.size A2 n2 _ _ rfl HL2.out (bv_one _) (by have := HN2.out; unfold maxLen; omega) (by have := HN2.out; omega) HB2.out.size ?_)
      intro v3 w3 ho3 hg3 _
      have hb3 := Lib.hid (HB2.out.grown hg3 HB2.out.size (fun j hj => (HO2.out.lt j hj).1))
      have ho3' : w3.ownsRow w.heap.size 5 1 v3 (X.length + n2) ((X ++ Vi.enc r.1).map bv) := by rw [List.map_append]; exact ho3
      have e3 : w3.heap[wr.heap.size]? = some (.cells #[.int .i64 (r.1 : Int), .string r.2.k, .int .u64 (r.2.s : Int), .bool r.2.g] 128 (0, 0)) := (hg3.block _ (Array.getElem?_eq_some_iff.1 HE2.out).1 (fun q => by
        obtain ⟨_, cur, q2⟩ := own_blk HO2.out q.symm
        have := HE2.out
        rw [q2] at this
        injection this with this
        injection this with _ this
        exact absurd this (by decide))).trans HE2.out
      have q1 : w3.cell? ⟨wr.heap.size, 1, none⟩ = some (.string r.2.k) := cell_of_row _ _ 1 _ _ (0, 0) e3
      have q2 : w3.cell? ⟨wr.heap.size, 2, none⟩ = some (.int .u64 (r.2.s : Int)) := cell_of_row _ _ 2 _ _ (0, 0) e3
      have q3 : w3.cell? ⟨wr.heap.size, 3, none⟩ = some (.bool r.2.g) := cell_of_row _ _ 3 _ _ (0, 0) e3
      have HM := Lib.hid (encMark_any r.2 w3 (by omega) hs3)
      unfold Mk.v at HM
      have HO3 := Lib.hid ho3'
      obtain ⟨A5, c5, rfl, _⟩ := own_shape ho3
      clear ho3 ho3' hg3 e3 HO2 HB2 HL2 HE2
      go_wp2_with fail
      refine HM.out.mono ?_
      rintro e w4 ⟨A4, c4, rfl, _, _, ho4, hb4⟩
      have hml : (encM r.2).length ≤ 63 := by
        have h1 := Vi.enc_len r.2.k.size
        have h2 := Vi.enc_len r.2.s
        unfold encM
        simp only [List.length_append, slen, List.length_singleton]; omega
      have hxl : (X ++ Vi.enc r.1).length ≤ 63 * k + 20 := by rw [List.length_append]; omega
      have HNx2 : Hid ((X ++ Vi.enc r.1 ++ encM r.2).length = X.length + n2 + (encM r.2).length) := by unfold Hid; rw [List.length_append, List.length_append, ← HN2.out]
      have hn2b : n2 ≤ 10 := by rw [HN2.out]; exact hel
      have HO4 := Lib.hid (own_below HO3.out hb4); have HB4 := Lib.hid (hb3.out.trans (hb4.mono hb3.out.size)); have HL4 := Lib.hid (Lies.of_own ho4)
      clear ho4 hb4 HM q1 q2 q3 HO3 hb3
      go_wp2_with (at_builtin; refine wpList_app _ rfl (.tmp 28) (.tmp 31) 25 rfl w.heap.size 5 i0 _ 1 1 Try.underlying25 hi hz0 hz1 hz2 rfl (by decide) _ _ _ rfl HO4.out w4.heap.size A4 _ _ _ rfl HL4.out (bv_one _) (by unfold maxLen; omega) (by omega) HB4.out.size ?_)
      intro v6 w6 ho6 hg6 _
      have HFin : Hid (SIdxR w rs (.int .i64 ((k + 1 : Nat) : Int)) v6 w6) := ⟨k + 1, by rw [HNl.out]; omega, rfl, by rw [HNx.out, HNx2.out, List.map_append, List.map_append, List.append_assoc]; exact ho6, HB4.out.grown hg6 HB4.out.size (fun j hj => (HO4.out.lt j hj).1)⟩
      clear ho6 hg6 HO4 HB4 HL4
      go_wp2
      go_roundw
      case rel => exact HFin.out
      case measure => simp [intOf]; omega
    · have hnl : ¬ ((k : Int) < (n : Int)) := by omega
      obtain ⟨A3, c3', rfl, _⟩ := own_shape ho
      have HG : Hid (Got w (idxOf rs).length (idxOf rs) (.returned (.slice A3 (idxTo rs k).length c3')) wr) := by
        have e : k = rs.length := by rw [HNl.out]; omega
        rw [e, idxTo_all] at ho ⊢
        exact got_of ho hb
      clear ho hb
      go_wp2
      go_ret
      exact HG.out
end Go.Proofs.Ytghfhojpnbpjoaa

namespace Go.Proofs.Ytghfhojpnbpjoaa
open Go.RowKit
set_option linter.unusedVariables false
set_option maxRecDepth 100000

theorem concatL (rs : List Rcd) (w : World) (h : LyAll w w.heap.size rs) (hs : (cat rs).length ≤ 1099511627776) (hn : rs.length ≤ 1000) :
    Calls Try.prog 47 #[.slice (some ⟨w.heap.size, 0, none⟩) rs.length rs.length] (w.alloc (.cells (rs.map Rcd.v).toArray 25)) fun e w' =>
      ∃ v, e = .returned v ∧ w'.ownsRow w.heap.size 5 1 v (cat rs).length ((cat rs).map bv) ∧ Below w.heap.size w w' := by
  have hb : Below w.heap.size w (w.alloc (.cells (rs.map Rcd.v).toArray 25)) := (Below.refl _ _).alloc (Nat.le_refl _) _
  have hz : (w.alloc (.cells (rs.map Rcd.v).toArray 25)).heap.size = w.heap.size + 1 := by simp
  have hl := lits_lie (w := w) rfl (rs.map Rcd.v) 25
  rw [List.length_map] at hl
  exact (concat_any (some ⟨w.heap.size, 0, none⟩) rs.length rs.length rs _ (by rw [hz]; exact hl) (fun r hr => ((h r hr).below hb).more hb.size) hs hn).mono fun e w' ⟨v, he, ho, hb2⟩ => ⟨v, he, own_base ho hb.size, hb.trans (hb2.mono hb.size)⟩

theorem join6 {w W : World} {L : List UInt8} {A0 A1 A2 A3 A4 A5 : Option Addr} {n0 n1 n2 n3 n4 n5 c0 c1 c2 c3 c4 c5 : Nat} {l0 l1 l2 l3 l4 l5 : List UInt8} (hb : Below w.heap.size w W)
    (h0 : Lies W W.heap.size 1 A0 n0 (l0.map bv)) (h1 : Lies W W.heap.size 1 A1 n1 (l1.map bv)) (h2 : Lies W W.heap.size 1 A2 n2 (l2.map bv)) (h3 : Lies W W.heap.size 1 A3 n3 (l3.map bv)) (h4 : Lies W W.heap.size 1 A4 n4 (l4.map bv)) (h5 : Lies W W.heap.size 1 A5 n5 (l5.map bv))
    (hL : L = l0 ++ (l1 ++ (l2 ++ (l3 ++ (l4 ++ l5))))) (hs : L.length ≤ 1400000) :
    Calls Try.prog 47 #[.slice (some ⟨W.heap.size, 0, none⟩) 6 6] (W.alloc (.cells #[.slice A0 n0 c0, .slice A1 n1 c1, .slice A2 n2 c2, .slice A3 n3 c3, .slice A4 n4 c4, .slice A5 n5 c5] 25)) fun e w' => Got w L.length L e w' := by
  have hc : cat [⟨A0, n0, c0, l0⟩, ⟨A1, n1, c1, l1⟩, ⟨A2, n2, c2, l2⟩, ⟨A3, n3, c3, l3⟩, ⟨A4, n4, c4, l4⟩, ⟨A5, n5, c5, l5⟩] = L := by rw [hL]; simp [cat]
  have h := concatL [⟨A0, n0, c0, l0⟩, ⟨A1, n1, c1, l1⟩, ⟨A2, n2, c2, l2⟩, ⟨A3, n3, c3, l3⟩, ⟨A4, n4, c4, l4⟩, ⟨A5, n5, c5, l5⟩] W (by
    intro r hr
    simp only [List.mem_cons, List.not_mem_nil, or_false] at hr
    rcases hr with rfl | rfl | rfl | rfl | rfl | rfl
    · exact h0
    · exact h1
    · exact h2
    · exact h3
    · exact h4
    · exact h5) (by rw [hc]; omega) (by show 6 ≤ 1000; omega)
  rw [hc] at h
  exact h.mono fun e w' ⟨v, he, ho, hb2⟩ => by rw [he]; exact got_of (own_base ho hb.size) (hb.trans (hb2.mono hb.size))

/-- the worlds behind one another -/
theorem got_lies2 {w W : World} {A : Option Addr} {n c base : Nat} {l : List UInt8} (h : w.ownsRow base 5 1 (.slice A n c) n (l.map bv)) (hb : Below w.heap.size w W) : Lies W W.heap.size 1 A n (l.map bv) := ((Lies.of_own h).below hb).more hb.size

set_option maxHeartbeats 4000000 in
theorem joined_any (b g : Nat) (S : List En) (vr vb vk : Value) (w : World) (hok : okF S = true) (hq : SQ S) (hF : FAt w b g (blkB S) (rowsTo S (nB S)) (keysF S) S.length vr vb vk) :
    Calls Try.prog 24 #[.pointer (some ⟨g, 0, none⟩)] w fun e w' => Got w (filB S).length (filB S) e w' := by
  obtain ⟨ha, hn4⟩ := (okF_iff S).1 hok
  have hil := idxB_len hok
  have hfl := filt_le hn4
  have hnb := nB_le hn4
  have hbl : (blkB S).length ≤ 1400000 := by have := filB_len S; have := filB_le hok; omega
  have hkl := keysF_len S
  obtain ⟨Ab, cb, rfl, _⟩ := own_shape hF.bk
  obtain ⟨Ak, ck, rfl, _⟩ := own_shape hF.ky
  obtain ⟨R, hR⟩ : ∃ R, (blkB S).length = R := ⟨_, rfl⟩
  obtain ⟨K, hK⟩ : ∃ K, (keysF S).length = K := ⟨_, rfl⟩
  obtain ⟨i1, hi1⟩ : ∃ i1, (idxB S).length = i1 := ⟨_, rfl⟩
  obtain ⟨x1, hx1⟩ : ∃ x1, (Blm.filt (keyB S)).length = x1 := ⟨_, rfl⟩
  obtain ⟨N, hN⟩ : ∃ N, S.length = N := ⟨_, rfl⟩
  obtain ⟨q, hqq⟩ : ∃ q, R + (i1 + 8) = q := ⟨_, rfl⟩
  have hfil : filB S = blkB S ++ (fr (idxB S) ++ (fr (Blm.filt (keyB S)) ++ (four R ++ (four q ++ four N)))) := by
    unfold filB tailF
    rw [fr_len, hi1, hR, hqq, hN]
  have hfle := filB_le hok
  have HE0 : ∀ W, Below w.heap.size w W → Calls Try.prog 46 #[.pointer (some ⟨g, 0, none⟩)] W fun e w' => Got W (idxB S).length (idxB S) e w' := fun W hb => encoded_any g b vr (.slice Ab R cb) (.slice Ak K ck) (.int .i64 (N : Int)) (rowsTo S (nB S)) W (by have := (hF.below hb).fl; rw [hR, hK, hN] at this; exact this) (hF.below hb).rw (rowsTo_sz hok (Nat.le_refl _)) (fun r hr => by
    obtain ⟨j, _, rfl⟩ := List.mem_map.1 hr
    show (lastM (blkAt S j)).s < _
    unfold lastM
    cases e : (blkAt S j).getLast? with
    | none => show 0 < _; omega
    | some x => exact hq x (blkAt_mem (List.mem_of_getLast? e))) (by rw [rowsTo_len]; omega)
  rw [hi1] at HE0
  have HE := Lib.hid HE0
  clear HE0
  have HBl := Lib.hid (fun W (hb : Below w.heap.size w W) => blPut_any Ak K ck W.heap.size (keysF S) W (by have := Lies.of_own (hF.below hb).ky; rw [hK] at this; exact this) (Nat.le_refl _) (fun s hs => by have := keysF_size ha hs; omega) (by omega))
  have hx2 : Blm.size K + 1 = x1 := by rw [← hx1, Blm.filt_len]; unfold keyB; rw [List.length_map, hK]
  rw [hx2] at HBl
  have HFr := Lib.hid (fun A n c r W (h : Lies W W.heap.size 1 A n (r.map bv)) (hn : n ≤ 65536) => framed_any A n c r W h hn)
  have H4a := Lib.hid (fun W => sfour_any R W (by omega))
  have H4b := Lib.hid (fun W => sfour_any q W (by omega))
  have H4c := Lib.hid (fun W => sfour_any N W (by omega))
  have HC : Hid (∀ W, Below w.heap.size w W → W.cell? ⟨g, 1, none⟩ = some (.slice Ab R cb) ∧ W.cell? ⟨g, 2, none⟩ = some (.slice Ak K ck) ∧ W.cell? ⟨g, 3, none⟩ = some (.int .i64 (N : Int))) := fun W hb => by
    have h := (hF.below hb).fl
    rw [hR, hK, hN] at h
    exact ⟨h.cell 1, h.cell 2, h.cell 3⟩
  have HBk : Hid (∀ W, Below w.heap.size w W → Lies W W.heap.size 1 Ab R ((blkB S).map bv)) := fun W hb => by
    have h := Lies.of_own (hF.below hb).bk
    rw [hR] at h
    exact h
  have HM := Lib.hid (show i1 ≤ 16138 ∧ x1 ≤ 5200 ∧ R ≤ 1400000 ∧ (filB S).length ≤ 1400000 from ⟨by omega, by omega, by omega, hfle⟩)
  have HFil := Lib.hid hfil
  have hqi : (R : Int) + ((i1 : Int) + 8) = (q : Int) := by omega
  have hq31 : q ≤ 3000000 := by omega
  have hR31 : R ≤ 1400000 := by omega
  have HD : Hid (Below w.heap.size w w.drew) := below_drew (Below.refl _ _)
  rw [hR, hK, hN] at hF
  have hN4 : N ≤ 4096 := by omega
  clear hF hok hq ha hn4 hil hfl hnb hbl hkl hR hK hi1 hx1 hN hqq hfil hfle hx2
  go_enter Try.func24, Try.ntmps24
  go_wp2_with fail
  go_region_held3 (fun W => W.cell? ⟨g, 1, none⟩ = some (.slice Ab R cb) ∧ W.cell? ⟨g, 2, none⟩ = some (.slice Ak K ck) ∧ W.cell? ⟨g, 3, none⟩ = some (.int .i64 (N : Int)))
    (first | exact HC.out _ HD.out | exact HC.out _ B1 | exact HC.out _ B2 | exact HC.out _ B3 | exact HC.out _ B4 | fail)
    (first
    | (go_at_call 46; refine (HE.out _ HD.out).mono ?_; rintro e w1 ⟨A1, c1, rfl, _, _, ho1, hb1⟩; have B1 := HD.out.trans (hb1.mono HD.out.size))
    | (go_at_call 15; refine (HBl.out _ B2).mono ?_; rintro e w3 ⟨A3, c3, rfl, _, _, ho3, hb3⟩; have B3 := B2.trans (hb3.mono B2.size))
    | (go_at_call 45; refine (HFr.out _ _ _ _ _ (Lies.of_own ho3) (by have := HM.out; omega)).mono ?_; rintro e w4 ⟨A4, c4, rfl, _, _, ho4, hb4⟩; have B4 := B3.trans (hb4.mono B3.size))
    | (go_at_call 45; refine (HFr.out _ _ _ _ _ (Lies.of_own ho1) (by have := HM.out; omega)).mono ?_; rintro e w2 ⟨A2, c2, rfl, _, _, ho2, hb2⟩; have B2 := B1.trans (hb2.mono B1.size))
    | fail)
  have L2 := Lib.hid (fun W (hb : Below w4.heap.size w4 W) => got_lies2 ho2 (((hb3.mono (Nat.le_refl _)).trans (hb4.mono hb3.size)).trans (hb.mono (by have := hb3.size; have := hb4.size; omega))))
  have L4 := Lib.hid (fun W (hb : Below w4.heap.size w4 W) => got_lies2 ho4 hb)
  have HB4 := Lib.hid B4
  obtain ⟨q1, q2, q3⟩ := HC.out _ B4
  clear ho1 ho2 ho3 ho4 hb1 hb2 hb3 hb4 B1 B2 B3 B4 HE HBl HFr HD
  go_wp2_with fail
  have E0 : Below w4.heap.size w4 w4.drew := below_drew (Below.refl _ _)
  have HOn : Hid (∀ W, Below w4.heap.size w4 W → Below w.heap.size w W) := fun W h => HB4.out.trans (h.mono HB4.out.size)
  go_region_held3 (fun W => W.cell? ⟨g, 1, none⟩ = some (.slice Ab R cb) ∧ W.cell? ⟨g, 2, none⟩ = some (.slice Ak K ck) ∧ W.cell? ⟨g, 3, none⟩ = some (.int .i64 (N : Int)))
    (first | exact HC.out _ (HOn.out _ E0) | exact HC.out _ (HOn.out _ E1) | exact HC.out _ (HOn.out _ E2) | exact HC.out _ (HOn.out _ E3) | exact HC.out _ ((HOn.out _ E3).alloc (HOn.out _ E3).size _) | exact HC.out _ hb8 | fail)
    (first
    | (go_at_call 48; (with_reducible refine Calls.mono (H4a.out _) ?_); rintro e w5 ⟨A5, c5, rfl, _, _, ho5, hb5⟩; have E1 := E0.trans (hb5.mono E0.size))
    | (go_at_call 48; (with_reducible refine Calls.mono (H4b.out _) ?_); rintro e w6 ⟨A6, c6, rfl, _, _, ho6, hb6⟩; have E2 := E1.trans (hb6.mono E1.size))
    | (go_at_call 48; (with_reducible refine Calls.mono (H4c.out _) ?_); rintro e w7 ⟨A7, c7, rfl, _, _, ho7, hb7⟩; have E3 := E2.trans (hb7.mono E2.size))
    | (go_at_call 47; refine (join6 (HOn.out _ E3) (HBk.out _ (HOn.out _ E3)) (L2.out _ E3) (L4.out _ E3) (got_lies2 ho5 (hb6.trans (hb7.mono hb6.size))) (got_lies2 ho6 hb7) (Lies.of_own ho7) HFil.out HM.out.2.2.2).mono ?_; rintro e w8 ⟨A8, c8, rfl, h81, h82, ho8, hb8⟩)
    | fail)
  have HG := Lib.hid (got_of ho8 hb8)
  clear ho8 hb8 ho5 ho6 ho7 hb5 hb6 hb7 E0 E1 E2 E3
  go_wp2
  go_ret
  exact HG.out
end Go.Proofs.Ytghfhojpnbpjoaa

namespace Go.Proofs.Ytghfhojpnbpjoaa
open Go.RowKit
set_option linter.unusedVariables false
set_option maxRecDepth 100000

abbrev SB0 (h : Nat) (x : En) (w : World) : Prop :=
  w.cell? ⟨h, 0, none⟩ = some (.string x.m.k) ∧ w.cell? ⟨h, 1, none⟩ = some (.int .u64 (x.m.s : Int)) ∧ w.cell? ⟨h, 2, none⟩ = some (.bool x.m.g) ∧ w.cell? ⟨h, 3, none⟩ = some (.string x.x)
abbrev SB1 (h b o : Nat) (x : En) (m : Mk) (w : World) : Prop :=
  w.cell? ⟨h, 0, none⟩ = some (.string x.m.k) ∧ w.cell? ⟨h, 1, none⟩ = some (.int .u64 (x.m.s : Int)) ∧ w.cell? ⟨h, 2, none⟩ = some (.bool x.m.g) ∧ w.cell? ⟨h, 3, none⟩ = some (.string x.x) ∧
  w.cell? ⟨b, o, none⟩ = some (.string m.k) ∧ w.cell? ⟨b, o + 1, none⟩ = some (.int .u64 (m.s : Int)) ∧ w.cell? ⟨b, o + 2, none⟩ = some (.bool m.g)
theorem SB0.below {h : Nat} {x : En} {w w' : World} (H : SB0 h x w) (hb : Below w.heap.size w w') : SB0 h x w' := by
  have up : ∀ {p v}, w.cell? p = some v → w'.cell? p = some v := fun {p v} h => (hb.cell (World.block_lt_of_cell? w _ h)).trans h
  exact ⟨up H.1, up H.2.1, up H.2.2.1, up H.2.2.2⟩
theorem SB1.below {h b o : Nat} {x : En} {m : Mk} {w w' : World} (H : SB1 h b o x m w) (hb : Below w.heap.size w w') : SB1 h b o x m w' := by
  have up : ∀ {p v}, w.cell? p = some v → w'.cell? p = some v := fun {p v} h => (hb.cell (World.block_lt_of_cell? w _ h)).trans h
  exact ⟨up H.1, up H.2.1, up H.2.2.1, up H.2.2.2.1, up H.2.2.2.2.1, up H.2.2.2.2.2.1, up H.2.2.2.2.2.2⟩
def AscR (w : World) (S : List En) (i : Value) (wr : World) : Prop := ∃ k, k ≤ S.length ∧ i = .int .i64 (k : Int) ∧ (∀ j, j < k → goodAt S j = true) ∧ Below w.heap.size w wr

set_option maxHeartbeats 4000000 in
theorem asc_any (B n c : Nat) (A : Option Addr) (S : List En) (w : World) (hL : EL w B A n c S) :
    Calls Try.prog 22 #[.slice A n c] w fun e w' => e = .returned (.bool (okA S)) ∧ Below w.heap.size w w' := by
  have hln := hL.lies.elen
  have hmx := hL.cc
  have hnc := hL.nc
  unfold maxLen at hmx
  have HL := Lib.hid hL; have HLn := Lib.hid hln
  clear hL hln
  go_enter Try.func22, Try.ntmps22
  go_wp2_with fail
  go_loopw [7] (fun i wr => AscR w S i wr) (fun i _ => n - (intOf i).toNat)
  case atStart => exact ⟨0, Nat.zero_le _, rfl, fun j hj => by omega, Below.refl _ _⟩
  case round =>
    obtain ⟨k, hk, rfl, hz, hb⟩ := hrel
    rw [HLn.out] at hk
    have HZ := Lib.hid hz; have HB := Lib.hid hb
    clear hz hb
    by_cases hlt : k < n
    · have hELr : EL wr B A n c S := HL.out.below HB.out
      obtain ⟨b, o, x, rfl, hbB, hu, c0, c1, c2, c3⟩ := hELr.lies.entry hlt
      have hxs := hELr.sz x (List.mem_of_getElem? hu)
      have hi0 : (0 : Int) ≤ (k : Int) := by omega
      have hi1 : (k : Int) < (n : Int) := by omega
      have hit : ((k : Int)).toNat = k := by simp
      have HEx := Lib.hid (goodAt_some hu)
      obtain ⟨d0, d1, d2, d3, hB7, hz7⟩ := enW_facts wr x
      have HNo : Hid (goodAt S k = false → okA S = false) := fun q => by
        cases h : okA S with
        | false => rfl
        | true => have := (okA_good S (by rw [HLn.out]; omega)).1 h k (by rw [HLn.out]; exact hlt); rw [q] at this; cases this
      have HYes : Hid (goodAt S k = true → ∀ j, j < k + 1 → goodAt S j = true) := fun q j hj => by
        by_cases hj2 : j < k
        · exact HZ.out j hj2
        · obtain rfl : j = k := by omega
          exact q
      obtain ⟨h7, hh7⟩ : ∃ h7, wr.heap.size = h7 := ⟨_, rfl⟩
      have hPrev : ∀ (hk0 : k ≠ 0), ∃ (y : En), S[k - 1]? = some y ∧ wr.cell? ⟨b, o + (k - 1) * 4, none⟩ = some (.string y.m.k) ∧ wr.cell? ⟨b, o + (k - 1) * 4 + 1, none⟩ = some (.int .u64 (y.m.s : Int)) ∧ wr.cell? ⟨b, o + (k - 1) * 4 + 2, none⟩ = some (.bool y.m.g) := fun hk0 => by
        obtain ⟨b', o', y, hA, _, hy, e0, e1, e2, _⟩ := hELr.lies.entry (i := k - 1) (by omega)
        injection hA with hA
        injection hA with hA1 hA2
        subst hA1 hA2
        exact ⟨y, hy, e0, e1, e2⟩
      have HPrev := Lib.hid hPrev
      have hbw : b < wr.heap.size := Nat.lt_of_lt_of_le hbB hELr.B
      obtain ⟨W7, hW7⟩ : ∃ W7, enW wr x = W7 := ⟨_, rfl⟩
      rw [hW7] at d0 d1 d2 d3 hB7 hz7
      have hE7 : wr.alloc (.cells #[.string x.m.k, .int .u64 (x.m.s : Int), .bool x.m.g, .string x.x] 40) = W7 := hW7
      have HB7 := Lib.hid (HB.out.trans (hB7.mono HB.out.size))
      have HPr7 : Hid (∀ (hk0 : k ≠ 0), ∃ (y : En), S[k - 1]? = some y ∧ W7.cell? ⟨b, o + (k - 1) * 4, none⟩ = some (.string y.m.k) ∧ W7.cell? ⟨b, o + (k - 1) * 4 + 1, none⟩ = some (.int .u64 (y.m.s : Int)) ∧ W7.cell? ⟨b, o + (k - 1) * 4 + 2, none⟩ = some (.bool y.m.g)) := fun hk0 => by
        obtain ⟨y, hy, e0, e1, e2⟩ := HPrev.out hk0
        exact ⟨y, hy, (hB7.cell hbw).trans e0, (hB7.cell hbw).trans e1, (hB7.cell hbw).trans e2⟩
      have HV := Lib.hid (svalid_any x W7.drew hxs.1 hxs.2)
      have hd1 : Below W7.heap.size W7 W7.drew := below_drew (Below.refl _ _)
      have HD := Lib.hid (HB7.out.trans (hd1.mono HB7.out.size))
      have HS0 : Hid (SB0 h7 x W7.drew) := by rw [← hh7]; exact SB0.below ⟨d0, d1, d2, d3⟩ hd1
      unfold En.v at HV
      clear hW7 hu hELr hPrev HPrev hxs hd1 d0 d1 d2 d3 hB7 hz7 hbw
      go_wp2_with fail
      clear hE7 c0 c1 c2 c3 hh7
      have Sd := HS0.out
      by_cases hf : fineE x = false
      · rw [hf] at HV
        have HR : Hid (okA S = false) := HNo.out (by rw [HEx.out, hf]; rfl)
        clear HEx hf
        refine wp_region_held_drew (S := (fun w' => SB0 h7 x w')) (by kernel_rfl) Sd (fun hHeld => ?_)
        refine wpAnyH_take (i := 0) (oi := _) (v := ?v0) rfl (by kernel_rfl) (by kernel_rfl) (by kernel_rfl) (fun _ _ _ h => h) (Or.inl ⟨by rfl, ?y0⟩) (by assumption) ?r0
        case y0 => (intro w' hSw; (try dsimp only at hSw); go_simp <;> with_reducible rfl)
        try simp only [Act.put, List.setIfInBounds_toArray, List.set_cons_zero, List.set_cons_succ, List.getElem_toArray, List.getElem_cons_zero]
        refine wpAnyH_ready (rs := [1]) (by kernel_rfl) (by simp) ?_
        refine AllReadyH.cons (o := _) rfl (fun K hK => ?_) AllReadyH.nil
        go_simp
        go_at_call 41
        refine HV.out.mono ?_
        rintro e w1 ⟨rfl, hv1⟩
        have S1 := SB0.below Sd hv1
        refine hK.out _ _ S1 (fun hHeld => ?_)
        clear hK K
        try simp only [Act.put, List.setIfInBounds_toArray, List.set_cons_zero, List.set_cons_succ, List.getElem_toArray, List.getElem_cons_zero, List.getElem_cons_succ]
        refine wpAnyH_take (i := 2) (oi := _) (v := ?v1) rfl (by kernel_rfl) (by kernel_rfl) (by kernel_rfl) (fun _ _ _ h => h) (Or.inl ⟨by rfl, ?y1⟩) (by assumption) ?r1
        case y1 => (intro w' hSw; (try dsimp only at hSw); go_simp <;> with_reducible rfl)
        try simp only [Act.put, List.setIfInBounds_toArray, List.set_cons_zero, List.set_cons_succ, List.getElem_toArray, List.getElem_cons_zero, List.getElem_cons_succ]
        refine wpAnyH_take (i := 3) (oi := _) (v := ?v2) rfl (by kernel_rfl) (by kernel_rfl) (by kernel_rfl) (fun _ _ _ h => h) (Or.inl ⟨by rfl, ?y2⟩) (by assumption) ?r2
        case y2 => (intro w' hSw; (try dsimp only at hSw); go_simp <;> with_reducible rfl)
        try simp only [Act.put, List.setIfInBounds_toArray, List.set_cons_zero, List.set_cons_succ, List.getElem_toArray, List.getElem_cons_zero, List.getElem_cons_succ]
        refine wpAnyH_take (i := 4) (oi := _) (v := undef) rfl (by kernel_rfl) (by kernel_rfl) (by kernel_rfl) (fun _ _ _ h => h) (Or.inr ⟨by rfl, rfl⟩) (by assumption) ?_
        try simp only [Act.put, List.setIfInBounds_toArray, List.set_cons_zero, List.set_cons_succ, List.getElem_toArray, List.getElem_cons_zero, List.getElem_cons_succ]
        refine wpAnyH_take (i := 5) (oi := _) (v := undef) rfl (by kernel_rfl) (by kernel_rfl) (by kernel_rfl) (fun _ _ _ h => h) (Or.inr ⟨by rfl, rfl⟩) (by assumption) ?_
        try simp only [Act.put, List.setIfInBounds_toArray, List.set_cons_zero, List.set_cons_succ, List.getElem_toArray, List.getElem_cons_zero, List.getElem_cons_succ]
        refine wpAnyH_take (i := 6) (oi := _) (v := undef) rfl (by kernel_rfl) (by kernel_rfl) (by kernel_rfl) (fun _ _ _ h => h) (Or.inr ⟨by rfl, rfl⟩) (by assumption) ?_
        try simp only [Act.put, List.setIfInBounds_toArray, List.set_cons_zero, List.set_cons_succ, List.getElem_toArray, List.getElem_cons_zero, List.getElem_cons_succ]
        refine wpAnyH_take (i := 7) (oi := _) (v := undef) rfl (by kernel_rfl) (by kernel_rfl) (by kernel_rfl) (fun _ _ _ h => h) (Or.inr ⟨by rfl, rfl⟩) (by assumption) ?_
        try simp only [Act.put, List.setIfInBounds_toArray, List.set_cons_zero, List.set_cons_succ, List.getElem_toArray, List.getElem_cons_zero, List.getElem_cons_succ]
        refine wpAnyH_take (i := 8) (oi := _) (v := undef) rfl (by kernel_rfl) (by kernel_rfl) (by kernel_rfl) (fun _ _ _ h => h) (Or.inr ⟨by rfl, rfl⟩) (by assumption) ?_
        try simp only [Act.put, List.setIfInBounds_toArray, List.set_cons_zero, List.set_cons_succ, List.getElem_toArray, List.getElem_cons_zero, List.getElem_cons_succ]
        refine wpAnyH_take (i := 9) (oi := _) (v := undef) rfl (by kernel_rfl) (by kernel_rfl) (by kernel_rfl) (fun _ _ _ h => h) (Or.inr ⟨by rfl, rfl⟩) (by assumption) ?_
        try simp only [Act.put, List.setIfInBounds_toArray, List.set_cons_zero, List.set_cons_succ, List.getElem_toArray, List.getElem_cons_zero, List.getElem_cons_succ]
        refine wpAnyH_take (i := 10) (oi := _) (v := undef) rfl (by kernel_rfl) (by kernel_rfl) (by kernel_rfl) (fun _ _ _ h => h) (Or.inr ⟨by rfl, rfl⟩) (by assumption) ?_
        try simp only [Act.put, List.setIfInBounds_toArray, List.set_cons_zero, List.set_cons_succ, List.getElem_toArray, List.getElem_cons_zero, List.getElem_cons_succ]
        refine wpAnyH_take (i := 11) (oi := _) (v := undef) rfl (by kernel_rfl) (by kernel_rfl) (by kernel_rfl) (fun _ _ _ h => h) (Or.inr ⟨by rfl, rfl⟩) (by assumption) ?_
        try simp only [Act.put, List.setIfInBounds_toArray, List.set_cons_zero, List.set_cons_succ, List.getElem_toArray, List.getElem_cons_zero, List.getElem_cons_succ]
        refine wpAnyH_take (i := 12) (oi := _) (v := undef) rfl (by kernel_rfl) (by kernel_rfl) (by kernel_rfl) (fun _ _ _ h => h) (Or.inr ⟨by rfl, rfl⟩) (by assumption) ?_
        try simp only [Act.put, List.setIfInBounds_toArray, List.set_cons_zero, List.set_cons_succ, List.getElem_toArray, List.getElem_cons_zero, List.getElem_cons_succ]
        refine wpAnyH_take (i := 13) (oi := _) (v := undef) rfl (by kernel_rfl) (by kernel_rfl) (by kernel_rfl) (fun _ _ _ h => h) (Or.inr ⟨by rfl, rfl⟩) (by assumption) ?_
        try simp only [Act.put, List.setIfInBounds_toArray, List.set_cons_zero, List.set_cons_succ, List.getElem_toArray, List.getElem_cons_zero, List.getElem_cons_succ]
        refine wpAnyH_take (i := 14) (oi := _) (v := undef) rfl (by kernel_rfl) (by kernel_rfl) (by kernel_rfl) (fun _ _ _ h => h) (Or.inr ⟨by rfl, rfl⟩) (by assumption) ?_
        try simp only [Act.put, List.setIfInBounds_toArray, List.set_cons_zero, List.set_cons_succ, List.getElem_toArray, List.getElem_cons_zero, List.getElem_cons_succ]
        refine wpAnyH_take (i := 15) (oi := _) (v := undef) rfl (by kernel_rfl) (by kernel_rfl) (by kernel_rfl) (fun _ _ _ h => h) (Or.inr ⟨by rfl, rfl⟩) (by assumption) ?_
        try simp only [Act.put, List.setIfInBounds_toArray, List.set_cons_zero, List.set_cons_succ, List.getElem_toArray, List.getElem_cons_zero, List.getElem_cons_succ]
        refine wpAnyH_take (i := 16) (oi := _) (v := undef) rfl (by kernel_rfl) (by kernel_rfl) (by kernel_rfl) (fun _ _ _ h => h) (Or.inr ⟨by rfl, rfl⟩) (by assumption) ?_
        try simp only [Act.put, List.setIfInBounds_toArray, List.set_cons_zero, List.set_cons_succ, List.getElem_toArray, List.getElem_cons_zero, List.getElem_cons_succ]
        refine wpAnyH_take (i := 17) (oi := _) (v := undef) rfl (by kernel_rfl) (by kernel_rfl) (by kernel_rfl) (fun _ _ _ h => h) (Or.inr ⟨by rfl, rfl⟩) (by assumption) ?_
        try simp only [Act.put, List.setIfInBounds_toArray, List.set_cons_zero, List.set_cons_succ, List.getElem_toArray, List.getElem_cons_zero, List.getElem_cons_succ]
        refine wpAnyH_take (i := 18) (oi := _) (v := ?v17) rfl (by kernel_rfl) (by kernel_rfl) (by kernel_rfl) (fun _ _ _ h => h) (Or.inl ⟨by rfl, ?y17⟩) (by assumption) ?r17
        case y17 => (intro w' hSw; (try dsimp only at hSw); go_simp <;> with_reducible rfl)
        try simp only [Act.put, List.setIfInBounds_toArray, List.set_cons_zero, List.set_cons_succ, List.getElem_toArray, List.getElem_cons_zero, List.getElem_cons_succ]
        refine wpAnyH_done (by kernel_rfl) ?_ _
        have R := Lib.hid (HD.out.trans (hv1.mono HD.out.size))
        clear S1 Sd hv1
        go_wp2
        go_ret
        exact ⟨by rw [HR.out]; rfl, R.out⟩
      · have hf : fineE x = true := by simpa using hf
        rw [hf] at HV
        by_cases hk0 : k = 0
        · subst hk0
          have HR : Hid (∀ j, j < 1 → goodAt S j = true) := HYes.out (by rw [HEx.out, hf]; rfl)
          clear HEx hf HYes HNo
          refine wp_region_held_drew (S := (fun w' => SB0 h7 x w')) (by kernel_rfl) Sd (fun hHeld => ?_)
          refine wpAnyH_take (i := 0) (oi := _) (v := ?v18) rfl (by kernel_rfl) (by kernel_rfl) (by kernel_rfl) (fun _ _ _ h => h) (Or.inl ⟨by rfl, ?y18⟩) (by assumption) ?r18
          case y18 => (intro w' hSw; (try dsimp only at hSw); go_simp <;> with_reducible rfl)
          try simp only [Act.put, List.setIfInBounds_toArray, List.set_cons_zero, List.set_cons_succ, List.getElem_toArray, List.getElem_cons_zero]
          refine wpAnyH_ready (rs := [1]) (by kernel_rfl) (by simp) ?_
          refine AllReadyH.cons (o := _) rfl (fun K hK => ?_) AllReadyH.nil
          go_simp
          go_at_call 41
          refine HV.out.mono ?_
          rintro e w1 ⟨rfl, hv1⟩
          have S1 := SB0.below Sd hv1
          refine hK.out _ _ S1 (fun hHeld => ?_)
          clear hK K
          try simp only [Act.put, List.setIfInBounds_toArray, List.set_cons_zero, List.set_cons_succ, List.getElem_toArray, List.getElem_cons_zero, List.getElem_cons_succ]
          refine wpAnyH_take (i := 2) (oi := _) (v := ?v19) rfl (by kernel_rfl) (by kernel_rfl) (by kernel_rfl) (fun _ _ _ h => h) (Or.inl ⟨by rfl, ?y19⟩) (by assumption) ?r19
          case y19 => (intro w' hSw; (try dsimp only at hSw); go_simp <;> with_reducible rfl)
          try simp only [Act.put, List.setIfInBounds_toArray, List.set_cons_zero, List.set_cons_succ, List.getElem_toArray, List.getElem_cons_zero, List.getElem_cons_succ]
          refine wpAnyH_take (i := 3) (oi := _) (v := ?v20) rfl (by kernel_rfl) (by kernel_rfl) (by kernel_rfl) (fun _ _ _ h => h) (Or.inl ⟨by rfl, ?y20⟩) (by assumption) ?r20
          case y20 => (intro w' hSw; (try dsimp only at hSw); go_simp <;> with_reducible rfl)
          try simp only [Act.put, List.setIfInBounds_toArray, List.set_cons_zero, List.set_cons_succ, List.getElem_toArray, List.getElem_cons_zero, List.getElem_cons_succ]
          refine wpAnyH_take (i := 4) (oi := _) (v := ?v21) rfl (by kernel_rfl) (by kernel_rfl) (by kernel_rfl) (fun _ _ _ h => h) (Or.inl ⟨by rfl, ?y21⟩) (by assumption) ?r21
          case y21 => (intro w' hSw; (try dsimp only at hSw); go_simp <;> with_reducible rfl)
          try simp only [Act.put, List.setIfInBounds_toArray, List.set_cons_zero, List.set_cons_succ, List.getElem_toArray, List.getElem_cons_zero, List.getElem_cons_succ]
          refine wpAnyH_take (i := 5) (oi := _) (v := ?v22) rfl (by kernel_rfl) (by kernel_rfl) (by kernel_rfl) (fun _ _ _ h => h) (Or.inl ⟨by rfl, ?y22⟩) (by assumption) ?r22
          case y22 => (intro w' hSw; (try dsimp only at hSw); go_simp <;> with_reducible rfl)
          try simp only [Act.put, List.setIfInBounds_toArray, List.set_cons_zero, List.set_cons_succ, List.getElem_toArray, List.getElem_cons_zero, List.getElem_cons_succ]
          refine wpAnyH_take (i := 6) (oi := _) (v := ?v23) rfl (by kernel_rfl) (by kernel_rfl) (by kernel_rfl) (fun _ _ _ h => h) (Or.inl ⟨by rfl, ?y23⟩) (by assumption) ?r23
          case y23 => (intro w' hSw; (try dsimp only at hSw); go_simp <;> with_reducible rfl)
          try simp only [Act.put, List.setIfInBounds_toArray, List.set_cons_zero, List.set_cons_succ, List.getElem_toArray, List.getElem_cons_zero, List.getElem_cons_succ]
          refine wpAnyH_take (i := 7) (oi := _) (v := undef) rfl (by kernel_rfl) (by kernel_rfl) (by kernel_rfl) (fun _ _ _ h => h) (Or.inr ⟨by rfl, rfl⟩) (by assumption) ?_
          try simp only [Act.put, List.setIfInBounds_toArray, List.set_cons_zero, List.set_cons_succ, List.getElem_toArray, List.getElem_cons_zero, List.getElem_cons_succ]
          refine wpAnyH_take (i := 8) (oi := _) (v := undef) rfl (by kernel_rfl) (by kernel_rfl) (by kernel_rfl) (fun _ _ _ h => h) (Or.inr ⟨by rfl, rfl⟩) (by assumption) ?_
          try simp only [Act.put, List.setIfInBounds_toArray, List.set_cons_zero, List.set_cons_succ, List.getElem_toArray, List.getElem_cons_zero, List.getElem_cons_succ]
          refine wpAnyH_take (i := 9) (oi := _) (v := undef) rfl (by kernel_rfl) (by kernel_rfl) (by kernel_rfl) (fun _ _ _ h => h) (Or.inr ⟨by rfl, rfl⟩) (by assumption) ?_
          try simp only [Act.put, List.setIfInBounds_toArray, List.set_cons_zero, List.set_cons_succ, List.getElem_toArray, List.getElem_cons_zero, List.getElem_cons_succ]
          refine wpAnyH_take (i := 10) (oi := _) (v := undef) rfl (by kernel_rfl) (by kernel_rfl) (by kernel_rfl) (fun _ _ _ h => h) (Or.inr ⟨by rfl, rfl⟩) (by assumption) ?_
          try simp only [Act.put, List.setIfInBounds_toArray, List.set_cons_zero, List.set_cons_succ, List.getElem_toArray, List.getElem_cons_zero, List.getElem_cons_succ]
          refine wpAnyH_take (i := 11) (oi := _) (v := undef) rfl (by kernel_rfl) (by kernel_rfl) (by kernel_rfl) (fun _ _ _ h => h) (Or.inr ⟨by rfl, rfl⟩) (by assumption) ?_
          try simp only [Act.put, List.setIfInBounds_toArray, List.set_cons_zero, List.set_cons_succ, List.getElem_toArray, List.getElem_cons_zero, List.getElem_cons_succ]
          refine wpAnyH_take (i := 12) (oi := _) (v := undef) rfl (by kernel_rfl) (by kernel_rfl) (by kernel_rfl) (fun _ _ _ h => h) (Or.inr ⟨by rfl, rfl⟩) (by assumption) ?_
          try simp only [Act.put, List.setIfInBounds_toArray, List.set_cons_zero, List.set_cons_succ, List.getElem_toArray, List.getElem_cons_zero, List.getElem_cons_succ]
          refine wpAnyH_take (i := 13) (oi := _) (v := undef) rfl (by kernel_rfl) (by kernel_rfl) (by kernel_rfl) (fun _ _ _ h => h) (Or.inr ⟨by rfl, rfl⟩) (by assumption) ?_
          try simp only [Act.put, List.setIfInBounds_toArray, List.set_cons_zero, List.set_cons_succ, List.getElem_toArray, List.getElem_cons_zero, List.getElem_cons_succ]
          refine wpAnyH_take (i := 14) (oi := _) (v := undef) rfl (by kernel_rfl) (by kernel_rfl) (by kernel_rfl) (fun _ _ _ h => h) (Or.inr ⟨by rfl, rfl⟩) (by assumption) ?_
          try simp only [Act.put, List.setIfInBounds_toArray, List.set_cons_zero, List.set_cons_succ, List.getElem_toArray, List.getElem_cons_zero, List.getElem_cons_succ]
          refine wpAnyH_take (i := 15) (oi := _) (v := undef) rfl (by kernel_rfl) (by kernel_rfl) (by kernel_rfl) (fun _ _ _ h => h) (Or.inr ⟨by rfl, rfl⟩) (by assumption) ?_
          try simp only [Act.put, List.setIfInBounds_toArray, List.set_cons_zero, List.set_cons_succ, List.getElem_toArray, List.getElem_cons_zero, List.getElem_cons_succ]
          refine wpAnyH_take (i := 16) (oi := _) (v := undef) rfl (by kernel_rfl) (by kernel_rfl) (by kernel_rfl) (fun _ _ _ h => h) (Or.inr ⟨by rfl, rfl⟩) (by assumption) ?_
          try simp only [Act.put, List.setIfInBounds_toArray, List.set_cons_zero, List.set_cons_succ, List.getElem_toArray, List.getElem_cons_zero, List.getElem_cons_succ]
          refine wpAnyH_take (i := 17) (oi := _) (v := ?v34) rfl (by kernel_rfl) (by kernel_rfl) (by kernel_rfl) (fun _ _ _ h => h) (Or.inl ⟨by rfl, ?y34⟩) (by assumption) ?r34
          case y34 => (intro w' hSw; (try dsimp only at hSw); go_simp <;> with_reducible rfl)
          try simp only [Act.put, List.setIfInBounds_toArray, List.set_cons_zero, List.set_cons_succ, List.getElem_toArray, List.getElem_cons_zero, List.getElem_cons_succ]
          refine wpAnyH_take (i := 18) (oi := _) (v := ?v35) rfl (by kernel_rfl) (by kernel_rfl) (by kernel_rfl) (fun _ _ _ h => h) (Or.inl ⟨by rfl, ?y35⟩) (by assumption) ?r35
          case y35 => (intro w' hSw; (try dsimp only at hSw); go_simp <;> with_reducible rfl)
          try simp only [Act.put, List.setIfInBounds_toArray, List.set_cons_zero, List.set_cons_succ, List.getElem_toArray, List.getElem_cons_zero, List.getElem_cons_succ]
          refine wpAnyH_done (by kernel_rfl) ?_ _
          have HFin : Hid (AscR w S (.int .i64 1) w1) := ⟨1, by rw [HLn.out]; omega, rfl, HR.out, HD.out.trans (hv1.mono HD.out.size)⟩
          clear S1 Sd hv1
          go_wp2
          go_roundw
          case rel => exact HFin.out
          case measure => simp [intOf]; omega
        · obtain ⟨y, hy, e0, e1, e2⟩ := HPr7.out hk0
          obtain ⟨j, rfl⟩ : ∃ j, k = j + 1 := ⟨k - 1, by omega⟩
          rw [Nat.add_sub_cancel] at hy e0 e1 e2
          have HR : Hid (goodAt S (j + 1) = decide (cmpM y.m x.m < 0)) := by unfold Hid; rw [HEx.out, hf]; simp [hy]
          have Sd : SB1 h7 b (o + j * 4) x y.m W7.drew := ⟨Sd.1, Sd.2.1, Sd.2.2.1, Sd.2.2.2, e0, e1, e2⟩
          have HC : Hid (∀ W', Calls Try.prog 42 #[y.m.v, x.m.v] W' fun e w' => e = .returned (.int .i64 (cmpM y.m x.m)) ∧ Below W'.heap.size W' w') := fun W' => cmp_any y.m x.m W'
          unfold Mk.v at HC
          have hwr : IntKind.i64.wrap (((j + 1 : Nat) : Int) - 1) = (j : Int) := by rw [IntWalk.i64_in] <;> omega
          have hk0 : (((j + 1 : Nat) : Int)) > 0 := by omega
          have hj0 : (0 : Int) ≤ (j : Int) := by omega
          have hjn : (j : Int) < (n : Int) := by omega
          have hjt : (j : Int).toNat = j := by simp
          obtain ⟨q, hq⟩ : ∃ q : Int, ((j + 1 : Nat) : Int) = q := ⟨_, rfl⟩
          have HQ := Lib.hid hq
          rw [hq] at hwr hk0 hi0 hi1 ⊢
          obtain ⟨z, hzz⟩ : ∃ z, cmpM y.m x.m = z := ⟨_, rfl⟩
          rw [hzz] at HC HR
          clear HEx hf hy hq hzz e0 e1 e2 hit
          refine wp_region_held_drew (S := (fun w' => SB1 h7 b (o + j * 4) x y.m w')) (by kernel_rfl) Sd (fun hHeld => ?_)
          refine wpAnyH_take (i := 0) (oi := _) (v := ?v36) rfl (by kernel_rfl) (by kernel_rfl) (by kernel_rfl) (fun _ _ _ h => h) (Or.inl ⟨by rfl, ?y36⟩) (by assumption) ?r36
          case y36 => (intro w' hSw; (try dsimp only at hSw); go_simp <;> with_reducible rfl)
          try simp only [Act.put, List.setIfInBounds_toArray, List.set_cons_zero, List.set_cons_succ, List.getElem_toArray, List.getElem_cons_zero]
          refine wpAnyH_ready (rs := [1]) (by kernel_rfl) (by simp) ?_
          refine AllReadyH.cons (o := _) rfl (fun K hK => ?_) AllReadyH.nil
          go_simp
          go_at_call 41
          refine HV.out.mono ?_
          rintro e w1 ⟨rfl, hv1⟩
          have S1 := SB1.below Sd hv1
          refine hK.out _ _ S1 (fun hHeld => ?_)
          clear hK K
          try simp only [Act.put, List.setIfInBounds_toArray, List.set_cons_zero, List.set_cons_succ, List.getElem_toArray, List.getElem_cons_zero, List.getElem_cons_succ]
          refine wpAnyH_take (i := 2) (oi := _) (v := ?v37) rfl (by kernel_rfl) (by kernel_rfl) (by kernel_rfl) (fun _ _ _ h => h) (Or.inl ⟨by rfl, ?y37⟩) (by assumption) ?r37
          case y37 => (intro w' hSw; (try dsimp only at hSw); go_simp <;> with_reducible rfl)
          try simp only [Act.put, List.setIfInBounds_toArray, List.set_cons_zero, List.set_cons_succ, List.getElem_toArray, List.getElem_cons_zero, List.getElem_cons_succ]
          refine wpAnyH_take (i := 3) (oi := _) (v := ?v38) rfl (by kernel_rfl) (by kernel_rfl) (by kernel_rfl) (fun _ _ _ h => h) (Or.inl ⟨by rfl, ?y38⟩) (by assumption) ?r38
          case y38 => (intro w' hSw; (try dsimp only at hSw); go_simp <;> with_reducible rfl)
          try simp only [Act.put, List.setIfInBounds_toArray, List.set_cons_zero, List.set_cons_succ, List.getElem_toArray, List.getElem_cons_zero, List.getElem_cons_succ]
          refine wpAnyH_take (i := 4) (oi := _) (v := ?v39) rfl (by kernel_rfl) (by kernel_rfl) (by kernel_rfl) (fun _ _ _ h => h) (Or.inl ⟨by rfl, ?y39⟩) (by assumption) ?r39
          case y39 => (intro w' hSw; (try dsimp only at hSw); go_simp <;> with_reducible rfl)
          try simp only [Act.put, List.setIfInBounds_toArray, List.set_cons_zero, List.set_cons_succ, List.getElem_toArray, List.getElem_cons_zero, List.getElem_cons_succ]
          refine wpAnyH_take (i := 5) (oi := _) (v := ?v40) rfl (by kernel_rfl) (by kernel_rfl) (by kernel_rfl) (fun _ _ _ h => h) (Or.inl ⟨by rfl, ?y40⟩) (by assumption) ?r40
          case y40 => (intro w' hSw; (try dsimp only at hSw); go_simp <;> with_reducible rfl)
          try simp only [Act.put, List.setIfInBounds_toArray, List.set_cons_zero, List.set_cons_succ, List.getElem_toArray, List.getElem_cons_zero, List.getElem_cons_succ]
          refine wpAnyH_take (i := 6) (oi := _) (v := ?v41) rfl (by kernel_rfl) (by kernel_rfl) (by kernel_rfl) (fun _ _ _ h => h) (Or.inl ⟨by rfl, ?y41⟩) (by assumption) ?r41
          case y41 => (intro w' hSw; (try dsimp only at hSw); go_simp <;> with_reducible rfl)
          try simp only [Act.put, List.setIfInBounds_toArray, List.set_cons_zero, List.set_cons_succ, List.getElem_toArray, List.getElem_cons_zero, List.getElem_cons_succ]
          refine wpAnyH_take (i := 7) (oi := _) (v := ?v42) rfl (by kernel_rfl) (by kernel_rfl) (by kernel_rfl) (fun _ _ _ h => h) (Or.inl ⟨by rfl, ?y42⟩) (by assumption) ?r42
          case y42 => (intro w' hSw; (try dsimp only at hSw); go_simp <;> with_reducible rfl)
          try simp only [Act.put, List.setIfInBounds_toArray, List.set_cons_zero, List.set_cons_succ, List.getElem_toArray, List.getElem_cons_zero, List.getElem_cons_succ]
          refine wpAnyH_take (i := 8) (oi := _) (v := ?v43) rfl (by kernel_rfl) (by kernel_rfl) (by kernel_rfl) (fun _ _ _ h => h) (Or.inl ⟨by rfl, ?y43⟩) (by assumption) ?r43
          case y43 => (intro w' hSw; (try dsimp only at hSw); go_simp <;> with_reducible rfl)
          try simp only [Act.put, List.setIfInBounds_toArray, List.set_cons_zero, List.set_cons_succ, List.getElem_toArray, List.getElem_cons_zero, List.getElem_cons_succ]
          refine wpAnyH_take (i := 9) (oi := _) (v := ?v44) rfl (by kernel_rfl) (by kernel_rfl) (by kernel_rfl) (fun _ _ _ h => h) (Or.inl ⟨by rfl, ?y44⟩) (by assumption) ?r44
          case y44 => (intro w' hSw; (try dsimp only at hSw); go_simp <;> with_reducible rfl)
          try simp only [Act.put, List.setIfInBounds_toArray, List.set_cons_zero, List.set_cons_succ, List.getElem_toArray, List.getElem_cons_zero, List.getElem_cons_succ]
          refine wpAnyH_take (i := 10) (oi := _) (v := ?v45) rfl (by kernel_rfl) (by kernel_rfl) (by kernel_rfl) (fun _ _ _ h => h) (Or.inl ⟨by rfl, ?y45⟩) (by assumption) ?r45
          case y45 => (intro w' hSw; (try dsimp only at hSw); go_simp <;> with_reducible rfl)
          try simp only [Act.put, List.setIfInBounds_toArray, List.set_cons_zero, List.set_cons_succ, List.getElem_toArray, List.getElem_cons_zero, List.getElem_cons_succ]
          refine wpAnyH_take (i := 11) (oi := _) (v := ?v46) rfl (by kernel_rfl) (by kernel_rfl) (by kernel_rfl) (fun _ _ _ h => h) (Or.inl ⟨by rfl, ?y46⟩) (by assumption) ?r46
          case y46 => (intro w' hSw; (try dsimp only at hSw); go_simp <;> with_reducible rfl)
          try simp only [Act.put, List.setIfInBounds_toArray, List.set_cons_zero, List.set_cons_succ, List.getElem_toArray, List.getElem_cons_zero, List.getElem_cons_succ]
          refine wpAnyH_take (i := 12) (oi := _) (v := ?v47) rfl (by kernel_rfl) (by kernel_rfl) (by kernel_rfl) (fun _ _ _ h => h) (Or.inl ⟨by rfl, ?y47⟩) (by assumption) ?r47
          case y47 => (intro w' hSw; (try dsimp only at hSw); go_simp <;> with_reducible rfl)
          try simp only [Act.put, List.setIfInBounds_toArray, List.set_cons_zero, List.set_cons_succ, List.getElem_toArray, List.getElem_cons_zero, List.getElem_cons_succ]
          refine wpAnyH_take (i := 13) (oi := _) (v := ?v48) rfl (by kernel_rfl) (by kernel_rfl) (by kernel_rfl) (fun _ _ _ h => h) (Or.inl ⟨by rfl, ?y48⟩) (by assumption) ?r48
          case y48 => (intro w' hSw; (try dsimp only at hSw); go_simp <;> with_reducible rfl)
          try simp only [Act.put, List.setIfInBounds_toArray, List.set_cons_zero, List.set_cons_succ, List.getElem_toArray, List.getElem_cons_zero, List.getElem_cons_succ]
          refine wpAnyH_take (i := 14) (oi := _) (v := ?v49) rfl (by kernel_rfl) (by kernel_rfl) (by kernel_rfl) (fun _ _ _ h => h) (Or.inl ⟨by rfl, ?y49⟩) (by assumption) ?r49
          case y49 => (intro w' hSw; (try dsimp only at hSw); go_simp <;> with_reducible rfl)
          try simp only [Act.put, List.setIfInBounds_toArray, List.set_cons_zero, List.set_cons_succ, List.getElem_toArray, List.getElem_cons_zero, List.getElem_cons_succ]
          refine wpAnyH_ready (rs := [15]) (by kernel_rfl) (by simp) ?_
          refine AllReadyH.cons (o := _) rfl (fun K hK => ?_) AllReadyH.nil
          go_simp
          go_at_call 42
          refine (HC.out _).mono ?_
          rintro e w2 ⟨rfl, hv2⟩
          have S2 := SB1.below S1 hv2
          refine hK.out _ _ S2 (fun hHeld => ?_)
          clear hK K
          try simp only [Act.put, List.setIfInBounds_toArray, List.set_cons_zero, List.set_cons_succ, List.getElem_toArray, List.getElem_cons_zero, List.getElem_cons_succ]
          refine wpAnyH_take (i := 16) (oi := _) (v := ?v50) rfl (by kernel_rfl) (by kernel_rfl) (by kernel_rfl) (fun _ _ _ h => h) (Or.inl ⟨by rfl, ?y50⟩) (by assumption) ?r50
          case y50 => (intro w' hSw; (try dsimp only at hSw); go_simp <;> with_reducible rfl)
          try simp only [Act.put, List.setIfInBounds_toArray, List.set_cons_zero, List.set_cons_succ, List.getElem_toArray, List.getElem_cons_zero, List.getElem_cons_succ]
          refine wpAnyH_take (i := 17) (oi := _) (v := ?v51) rfl (by kernel_rfl) (by kernel_rfl) (by kernel_rfl) (fun _ _ _ h => h) (Or.inl ⟨by rfl, ?y51⟩) (by assumption) ?r51
          case y51 => (intro w' hSw; (try dsimp only at hSw); go_simp <;> with_reducible rfl)
          try simp only [Act.put, List.setIfInBounds_toArray, List.set_cons_zero, List.set_cons_succ, List.getElem_toArray, List.getElem_cons_zero, List.getElem_cons_succ]
          refine wpAnyH_take (i := 18) (oi := _) (v := ?v52) rfl (by kernel_rfl) (by kernel_rfl) (by kernel_rfl) (fun _ _ _ h => h) (Or.inl ⟨by rfl, ?y52⟩) (by assumption) ?r52
          case y52 => (intro w' hSw; (try dsimp only at hSw); go_simp <;> with_reducible rfl)
          try simp only [Act.put, List.setIfInBounds_toArray, List.set_cons_zero, List.set_cons_succ, List.getElem_toArray, List.getElem_cons_zero, List.getElem_cons_succ]
          refine wpAnyH_done (by kernel_rfl) ?_ _
          have R1 := HD.out.trans (hv1.mono HD.out.size)
          have R := Lib.hid (R1.trans (hv2.mono R1.size))
          clear S1 S2 Sd hv1 hv2 R1
          by_cases hz0 : z < 0
          · have hz1 : ¬ (0 ≤ z) := by omega
            have HFin : Hid (AscR w S (.int .i64 (q + 1)) w2) := ⟨j + 1 + 1, by rw [HLn.out]; omega, by rw [← HQ.out]; rfl, HYes.out (by rw [HR.out]; exact decide_eq_true hz0), R.out⟩
            have hqj : q = (j : Int) + 1 := by have := HQ.out; omega
            have HQj := Lib.hid hqj
            clear hqj
            go_wp2
            go_roundw
            case rel => exact HFin.out
            case measure => have := HQj.out; simp [intOf]; omega
          · have hz1 : 0 ≤ z := by omega
            have HRf : Hid (okA S = false) := HNo.out (by rw [HR.out]; exact decide_eq_false hz0)
            go_wp2
            go_ret
            exact ⟨by rw [HRf.out]; rfl, R.out⟩
    · have hkn : k = n := by omega
      have hnl : ¬ ((k : Int) < (n : Int)) := by omega
      by_cases h0 : n = 0
      · have HR : Hid (okA S = false) := by
          have hl := HLn.out
          have : S = [] := List.length_eq_zero_iff.1 (by omega)
          unfold Hid; rw [this]; rfl
        have hn0 : ¬ ((n : Int) > 0) := by omega
        have HB1 := HB
        clear hkn h0
        go_wp2
        go_ret
        exact ⟨by rw [HR.out]; show Ending.returned (.bool (decide (0 < n))) = _; rw [decide_eq_false (by omega)], HB.out⟩
      · have HR : Hid (okA S = true) := (okA_good S (by rw [HLn.out]; omega)).2 (fun j hj => HZ.out j (by rw [HLn.out] at hj; omega))
        have hn0 : ((n : Int) > 0) := by omega
        clear hkn h0
        go_wp2
        go_ret
        exact ⟨by rw [HR.out]; show Ending.returned (.bool (decide (0 < n))) = _; rw [decide_eq_true (by omega)], HB.out⟩

/-- what Put answers -/
def SPut (w : World) (S : List En) (e : Ending) (w' : World) : Prop :=
  Below w.heap.size w w' ∧ (okF S = true → ∃ A c, e = .returned (.tuple #[.slice A (filB S).length c, .int .i64 0]) ∧ w'.ownsRow w.heap.size 5 1 (.slice A (filB S).length c) (filB S).length ((filB S).map bv)) ∧
    (okA S = false → e = .returned (.tuple #[.slice none 0 0, .int .i64 1])) ∧ (okA S = true → 4096 < S.length → e = .returned (.tuple #[.slice none 0 0, .int .i64 3]))
set_option maxHeartbeats 2000000 in
theorem sput_any (B n c : Nat) (A : Option Addr) (S : List En) (w : World) (hL : EL w B A n c S) (hq : SQ S) :
    Calls Try.prog 8 #[.slice A n c] w (SPut w S) := by
  have hln := hL.lies.elen
  have hmx := hL.cc
  have hnc := hL.nc
  unfold maxLen at hmx
  have HA := Lib.hid (asc_any B n c A S w hL)
  have HL := Lib.hid hL; have HLn := Lib.hid hln; have HQ := Lib.hid hq
  obtain ⟨k, hk⟩ : ∃ k, okA S = k := ⟨_, rfl⟩
  have HK := Lib.hid hk
  rw [hk] at HA
  clear hL hln hq hk
  cases k
  · go_enter Try.func8, Try.ntmps8
    go_wp2_with fail
    refine HA.out.mono ?_
    rintro e w1 ⟨rfl, hb1⟩
    have HF : Hid (SPut w S (.returned (.tuple #[.slice none 0 0, .int .i64 1])) w1) := ⟨hb1, (fun q => by have := ((okF_iff S).1 q).1; rw [HK.out] at this; cases this), fun _ => rfl, (fun q => by rw [HK.out] at q; cases q)⟩
    clear hb1 HA
    go_wp2
    go_ret2
    exact HF.out
  · by_cases h4 : n ≤ 4096
    · have hi4 : ¬ ((n : Int) > 4096) := by omega
      have HOk : Hid (okF S = true) := (okF_iff S).2 ⟨HK.out, by rw [HLn.out]; exact h4⟩
      go_enter Try.func8, Try.ntmps8
      go_wp2_with fail
      refine HA.out.mono ?_
      rintro e w1 ⟨rfl, hb1⟩
      have HFo := Lib.hid (fileOf_any B n c A S w1 (HL.out.below hb1) HOk.out HQ.out)
      have HB1 := Lib.hid hb1
      clear hb1 HA
      go_wp2_with fail
      refine HFo.out.mono ?_
      rintro e w2 ⟨rfl, vr, vb, vk, hF, hb2⟩
      have HJ := Lib.hid (joined_any _ _ S vr vb vk w2 HOk.out HQ.out hF)
      have HB2 := Lib.hid (HB1.out.trans (hb2.mono HB1.out.size))
      clear hF hb2 HFo
      go_wp2_with fail
      refine HJ.out.mono ?_
      rintro e w3 ⟨A3, c3, rfl, _, _, ho3, hb3⟩
      have HF : Hid (SPut w S (.returned (.tuple #[.slice A3 (filB S).length c3, .int .i64 0])) w3) := ⟨HB2.out.trans (hb3.mono HB2.out.size), fun _ => ⟨A3, c3, rfl, own_base ho3 HB2.out.size⟩, (fun q => by rw [HK.out] at q; cases q), fun _ q => by rw [HLn.out] at q; omega⟩
      clear ho3 hb3 HJ
      go_wp2
      go_ret2
      exact HF.out
    · have hi4 : ((n : Int) > 4096) := by omega
      go_enter Try.func8, Try.ntmps8
      go_wp2_with fail
      refine HA.out.mono ?_
      rintro e w1 ⟨rfl, hb1⟩
      have HF : Hid (SPut w S (.returned (.tuple #[.slice none 0 0, .int .i64 3])) w1) := ⟨hb1, (fun q => by have := ((okF_iff S).1 q).2; rw [HLn.out] at this; omega), (fun q => by rw [HK.out] at q; cases q), fun _ _ => rfl⟩
      clear hb1 HA
      go_wp2
      go_ret2
      exact HF.out
end Go.Proofs.Ytghfhojpnbpjoaa

