/-
  Contract of package journals' parts: an iterator over the parts of a file, for every loop body that keeps what lay there.
-/
import Derived.Test.YtopcnlophmplgaaPartC
import Derived.Test.YtopcnlophmplgaaLay
import Derived.RangeFuncNested
import Derived.RangeFuncBound
import Derived.RangeFuncCalls
import Derived.RangeFuncLeaves
import Derived.OwnWalkIn
import Derived.TacticsInMore
import Derived.LoopNIn
import Derived.LoopIn
import Derived.LoopTactic
import Derived.Deep.RegionWith
import Derived.Deep.RegionHeld3
import Derived.Deep.Cut
namespace Go.Proofs.Ytopcnlophmplgaa
open Go.RowKit
set_option linter.unusedVariables false
set_option maxRecDepth 100000

/-- a part that is handed to a loop's body: its place, its kind, where its data lie -/
structure PV where
  pos : Nat
  k : UInt8
  A : Option Addr
  n : Nat
  c : Nat
  d : List UInt8
def PV.v (x : PV) : Value := pv x.pos x.k x.A x.n x.c
def PV.p (x : PV) : Jr.Part := ⟨x.pos, x.k, x.d⟩
def PV.ok (w : World) (B : Nat) (x : PV) : Prop := Lies w B 1 x.A x.n (x.d.map bv) ∧ x.n ≤ x.c ∧ x.c ≤ 9223372036854775807 ∧ x.n ≤ 65535 ∧ x.pos ≤ 1099511627776
abbrev PX (w : World) (B : Nat) := { x : PV // x.ok w B }
def pts {w : World} {B : Nat} (xs : List (PX w B)) : List Jr.Part := xs.map fun x => x.1.p

/-- blocks that a round leaves: a part, a table -/
def keptObj : Obj → Prop
  | .cells _ t _ => t = 123 ∨ t = 117
  | _ => False
/-- what a round keeps -/
def KpJ (n₀ : Nat) (G : Nat → Prop) (W W' : World) : Prop := W.heap.size ≤ W'.heap.size ∧ ∀ i o, W.heap[i]? = some o → (i < n₀ ∨ G i ∨ keptObj o) → W'.heap[i]? = some o
theorem KpJ.refl (n₀ : Nat) (G : Nat → Prop) (W : World) : KpJ n₀ G W W := ⟨Nat.le_refl _, fun _ _ h _ => h⟩
theorem KpJ.trans {n₀ : Nat} {G : Nat → Prop} {A B C : World} (h : KpJ n₀ G A B) (k : KpJ n₀ G B C) : KpJ n₀ G A C := ⟨Nat.le_trans h.1 k.1, fun i o ho hi => k.2 i o (h.2 i o ho hi) hi⟩
/-- the law's own book-keeping -/
theorem kpJ_b {n₀ : Nat} {G : Nat → Prop} {w : World} (hn : n₀ ≤ w.heap.size) (hG : ∀ i, G i → i < w.heap.size) (W : World) (l : Nat) (o o' : Obj) (hl : w.heap.size ≤ l) (h : W.heap[l]? = some o) (ho : o.isCells = false) (_ : o.isWalk = false) : KpJ n₀ G W (W.putObj l o') := by
  have hg := grownBy_putObj' W l o'
  refine ⟨hg.size, fun i x hx hi => (hg.block i (Array.getElem?_eq_some_iff.1 hx).1 fun e => ?_).trans hx⟩
  injection e with e
  subst e
  rcases hi with hi | hi | hi
  · omega
  · have := hG _ hi; omega
  · rw [h] at hx
    injection hx with hx
    subst hx
    cases o with
    | cells a t f => cases ho
    | _ => exact hi
/-- what lay below stays -/
def Low (n₀ : Nat) (w W : World) : Prop := n₀ ≤ W.heap.size ∧ ∀ i, i < n₀ → W.heap[i]? = w.heap[i]?
theorem Low.kp {n₀ : Nat} {G : Nat → Prop} {w W W' : World} (h : Low n₀ w W) (hk : KpJ n₀ G W W') : Low n₀ w W' :=
  ⟨Nat.le_trans h.1 hk.1, fun i hi => by
    have hlt : i < W.heap.size := Nat.lt_of_lt_of_le hi h.1
    rw [hk.2 i _ (Array.getElem?_eq_getElem hlt) (.inl hi), ← h.2 i hi, Array.getElem?_eq_getElem hlt]⟩
theorem Low.below {n₀ : Nat} {w W W' : World} (h : Low n₀ w W) (hb : Below W.heap.size W W') : Low n₀ w W' :=
  ⟨Nat.le_trans h.1 hb.size, fun i hi => (hb.block i (Nat.lt_of_lt_of_le hi h.1)).trans (h.2 i hi)⟩
theorem Low.cell {n₀ : Nat} {w W : World} (h : Low n₀ w W) {p : Addr} (hp : p.block < n₀) : W.cell? p = w.cell? p := by
  unfold World.cell?; rw [h.2 _ hp]
theorem Low.lies {n₀ k n : Nat} {w W : World} {A : Option Addr} {xs : List Value} (h : Low n₀ w W) (hl : Lies w n₀ k A n xs) : Lies W n₀ k A n xs := hl.keep fun _ hp => h.cell hp
theorem Low.back {n₀ k n : Nat} {w W : World} {A : Option Addr} {xs : List Value} (h : Low n₀ w W) (hl : Lies W n₀ k A n xs) : Lies w n₀ k A n xs := hl.keep fun _ hp => (h.cell hp).symm
theorem grown_of_below {w W : World} (h : Below w.heap.size w W) : w.grownBy W none := ⟨h.os, h.tape, h.output, h.size, fun i hi _ => h.block i hi⟩

theorem parts_any (A : Option Addr) (n c : Nat) (w : World) :
    Calls Try.prog 77 #[.slice A n c] w fun e w' => e = .returned (.func (.func 88) #[] #[.pointer (some ⟨w.heap.size, 0, none⟩)]) ∧ w' = w.alloc (.cells #[.slice A n c] 33) := by
  have hmf : ∀ (fn : Fn) (first cap : Array Value) (w : World), (Instr.makeFunc fn first cap).run Try.prog w = .ok (.func fn first cap) w := fun _ _ _ _ => rfl
  go_enter Try.func77, Try.ntmps77
  go_wp2
  go_ret
  exact ⟨rfl, rfl⟩

theorem readPart_no {g B n c : Nat} {A : Option Addr} {f : List UInt8} {pos : Nat} {w : World} (hT : Tab w g 117 Crc.tab) (hB : B ≤ w.heap.size) (h : Lies w B 1 A n (f.map bv)) (hnc : n ≤ c) (hcc : c ≤ 9223372036854775807) (hn : n ≤ 1099511627776) (hp : pos ≤ 1099511627776) (hg : Jr.getP f pos = none) :
    Calls Try.prog 89 #[.pointer (some ⟨g, 0, none⟩), .slice A n c, .int .i64 (pos : Int)] w fun e w' => e = .returned (.tuple #[pv 0 0 none 0 0, .bool false]) ∧ Below w.heap.size w w' :=
  (readPart_any g B A n c f pos w hT hB h hnc hcc hn hp).mono fun e w' h => by rw [hg] at h; exact ⟨h.2, h.1⟩
theorem readPart_yes {g B n c : Nat} {A : Option Addr} {f : List UInt8} {pos : Nat} {w : World} (hT : Tab w g 117 Crc.tab) (hB : B ≤ w.heap.size) (h : Lies w B 1 A n (f.map bv)) (hnc : n ≤ c) (hcc : c ≤ 9223372036854775807) (hn : n ≤ 1099511627776) (hp : pos ≤ 1099511627776) {k : UInt8} {d : List UInt8} (hg : Jr.getP f pos = some (k, d)) :
    Calls Try.prog 89 #[.pointer (some ⟨g, 0, none⟩), .slice A n c, .int .i64 (pos : Int)] w fun e w' => ∃ A' n' c', e = .returned (.tuple #[pv pos k A' n' c', .bool true]) ∧ Below w.heap.size w w' ∧ (Lies w B 1 A' n' (d.map bv) ∧ n' ≤ c' ∧ c' ≤ 9223372036854775807 ∧ n' ≤ 65535) :=
  (readPart_any g B A n c f pos w hT hB h hnc hcc hn hp).mono fun e w' h => by
    rw [hg] at h
    obtain ⟨hb, A', n', c', he, r⟩ := h
    exact ⟨A', n', c', he, hb, r⟩

/-- a part's variable -/
abbrev zeroPart : Obj := .cells #[.int .i64 0, .int .u8 0, .slice none 0 0] 123
theorem zero_cells (w W : World) (g : Nat) (hg : w.heap.size = g) (h : Below (w.alloc zeroPart).heap.size (w.alloc zeroPart) W) : W.cell? ⟨g, 0, none⟩ = some (.int .i64 0) ∧ W.cell? ⟨g, 1, none⟩ = some (.int .u8 0) ∧ W.cell? ⟨g, 2, none⟩ = some (.slice none 0 0) ∧
    W.frozen? ⟨g, 0, none⟩ = false ∧ W.frozen? ⟨g, 1, none⟩ = false ∧ W.frozen? ⟨g, 2, none⟩ = false ∧ Hid (W.heap[g]? = some (.cells #[.int .i64 0, .int .u8 0, .slice none 0 0] 123 (0, 0))) := by
  subst hg
  have hr : W.heap[w.heap.size]? = some (.cells #[.int .i64 0, .int .u8 0, .slice none 0 0] 123 (0, 0)) := (h.block _ (by simp)).trans (heap_alloc_new w _)
  obtain ⟨a, b, c⟩ := row3 hr
  exact ⟨a, b, c, row_open hr 0, row_open hr 1, row_open hr 2, Lib.hid hr⟩
/-- the world where a walk goes on, as a letter -/
theorem at_world {Q : Exit → Act → World → Prop} {e : Exit} {a : Act} {W : World} (P : World → Prop) (hP : P W) (h : ∀ W5, P W5 → Q e a W5) : Q e a W := h W hP
/-- what holds between two rounds, in the iterator -/
def IRel {w : World} {B : Nat} (n₀ Bn g : Nat) (sv : Value) (f : List UInt8) (J : List (PX w B) → World → Prop) (v : Value) (wr : World) : Prop :=
  ∃ (pre : List (PX w B)) (pos : Nat), v = .int .i64 (pos : Int) ∧ J pre wr ∧ Jr.Path f 0 (pts pre) pos ∧ Low n₀ w wr ∧ wr.cell? ⟨Bn, 0, none⟩ = some sv ∧ Tab wr g 117 Crc.tab

set_option maxHeartbeats 4000000 in
theorem parts1_any (w : World) (n₀ m l Bn n c : Nat) (A : Option Addr) (f : List UInt8) (G : Nat → Prop) (hG : G Bn) (hL : Lies w n₀ 1 A n (f.map bv)) (hnc : n ≤ c) (hcc : c ≤ 9223372036854775807) (hn : n ≤ 1073741824)
    (J Jx : List (PX w n₀) → World → Prop) (W : World) (hJ : AbidesFrom W.heap.size J)
    (hY : ∀ pre x W1, J pre W1 → pre.length < n + 1 → YieldAt Fence.wide m Try.prog l #[x.1.v] W1 fun e W' => (e = .returned (.bool true) ∧ J (pre ++ [x]) W' ∧ KpJ n₀ G W1 W') ∨ (e = .returned (.bool false) ∧ Jx (pre ++ [x]) W'))
    (hlow : Low n₀ w W) (hBn : W.cell? ⟨Bn, 0, none⟩ = some (.slice A n c)) (h0 : J [] W) :
    Calls Try.prog 88 #[.func (.yield l) #[] #[], .pointer (some ⟨Bn, 0, none⟩)] W fun e W' => (∃ v, e = .returned v) ∧
      ((∃ xs, (∃ b, Jr.Path f 0 (pts xs) b ∧ Jr.getP f (Jr.nextP b) = none) ∧ J xs W') ∨ (∃ pre, (∃ b, Jr.Path f 0 (pts pre) b) ∧ Jx pre W')) := by
  have HL := Lib.hid hL; have HJ := Lib.hid hJ; have HY := Lib.hid hY; have HLow := Lib.hid hlow; have H0 := Lib.hid h0
  have hfl := hL.blen
  have hBlt : Bn < W.heap.size := World.block_lt_of_cell? W _ hBn
  clear hL hJ hY hlow h0
  go_enter Try.func88, Try.ntmps88
  go_wp2_with fail
  refine (table_any W).mono ?_
  rintro e w1 ⟨rfl, hb1⟩
  have hb2 := lay_below hb1 hb1.size Crc.tab
  have hj2 : J [] (lay w1 Crc.tab) := HJ.out _ _ _ none H0.out (grown_of_below hb2) (fun r e => by cases e)
  have hlow2 := HLow.out.below hb2
  have hbn2 := (hb2.cell (p := ⟨Bn, 0, none⟩) hBlt).trans hBn
  have hR : IRel n₀ Bn w1.heap.size (.slice A n c) f J (.int .i64 0) (lay w1 Crc.tab) := ⟨[], 0, rfl, hj2, .nil _, hlow2, hbn2, lay_tab w1 Crc.tab⟩
  have HR := Lib.hid hR
  clear hj2 hlow2 hbn2 hR hb2 hb1 H0 HLow hBlt hBn
  go_wp2_with (first
    | refine wpList_lay rfl rfl ?_
    | refine wpList_laid rfl _ _ rfl noughts Crc.tab rfl rfl noughts_len Crc.tab_len ?_)
  obtain ⟨g, hg⟩ : ∃ g, w1.heap.size = g := ⟨_, rfl⟩
  rw [hg] at HR ⊢
  obtain ⟨W2, hW2⟩ : ∃ W2, lay w1 Crc.tab = W2 := ⟨_, rfl⟩
  rw [hW2] at HR ⊢
  clear hW2
  go_loopw [4] (fun v wr => IRel n₀ Bn g (.slice A n c) f J v wr) (fun v _ => n - (intOf v).toNat)
  case atStart => exact HR.out
  case round =>
    clear HR
    obtain ⟨pre, pos, rfl, hj, hp, hlow, hbn, htab⟩ := hrel
    have hpos := hp.end_le
    have hnp := Jr.next_ge pos
    have HNP := Lib.hid (fun W => nextPart_any pos (by omega) W)
    obtain ⟨np, hnpe⟩ : ∃ np, Jr.nextP pos = np := ⟨_, rfl⟩
    rw [hnpe] at HNP hnp
    cases hgp : Jr.getP f np with
    | none =>
      have HRP := Lib.hid (show ∀ W : World, Below wr.heap.size wr W → Calls Try.prog 89 #[.pointer (some ⟨g, 0, none⟩), .slice A n c, .int .i64 (np : Int)] W fun e w' => e = .returned (.tuple #[pv 0 0 none 0 0, .bool false]) ∧ Below W.heap.size W w' from fun W hW =>
        readPart_no (B := n₀) (htab.below hW htab.lt) (Nat.le_trans hlow.1 hW.size) ((hlow.below hW).lies HL.out) hnc hcc (by omega) (by omega) hgp)
      have KB := Lib.hid (show ∀ W : World, Below wr.heap.size wr W → W.cell? ⟨Bn, 0, none⟩ = some (.slice A n c) from fun W hW => (hW.cell (p := ⟨Bn, 0, none⟩) (World.block_lt_of_cell? wr _ hbn)).trans hbn)
      have B0 : Below wr.heap.size wr wr.drew := below_drew (Below.refl _ _)
      have B1 : Below wr.heap.size wr (wr.drew.alloc zeroPart) := B0.alloc (by simp) _
      have HZ := Lib.hid (fun W (hW : Below (wr.drew.alloc zeroPart).heap.size (wr.drew.alloc zeroPart) W) => zero_cells wr.drew W wr.heap.size rfl hW)
      clear htab
      go_wp2_with fail
      go_region_held3 (fun W => W.cell? ⟨Bn, 0, none⟩ = some (.slice A n c)) (first | exact KB.out _ B0 | exact KB.out _ B1 | exact KB.out _ hb2 | exact KB.out _ (hb2.alloc hb2.size _) | exact KB.out _ (st3_below w2 wr.heap.size _ _ _ hb2 (Nat.le_refl _)) | fail)
       (first
        | (go_at_call 83; refine (HNP.out _).mono ?_; rintro e w1 ⟨rfl, hw⟩; obtain rfl := hw.symm)
        | (go_at_call 89; refine (HRP.out _ B0).mono ?_; rintro e w2 ⟨rfl, hb2'⟩; have hb2 := B0.trans (hb2'.mono B0.size))
        | (go_at_call 89; refine (HRP.out _ B1).mono ?_; rintro e w2 ⟨rfl, hb2'⟩; have hb2 := B1.trans (hb2'.mono B1.size); obtain ⟨z0, z1, z2, y0, y1, y2, hrz⟩ := HZ.out _ hb2')
        | fail)
      all_goals refine at_world (P := fun W5 => Below wr.heap.size wr W5) (by first | exact hb2.alloc hb2.size _ | exact st3_below w2 wr.heap.size _ _ _ hb2 (Nat.le_refl _)) ?_
      all_goals
        intro W5 hb5
        have hj5 : J pre W5 := HJ.out _ _ _ none hj (grown_of_below hb5) (fun r e => by cases e)
        go_wp2
        refine bodyPost_ret (results_none rfl _ _ _) rfl ?_
        exact ⟨⟨_, rfl⟩, .inl ⟨pre, ⟨pos, hp, by rw [hnpe]; exact hgp⟩, hj5⟩⟩
    | some kd =>
      obtain ⟨k, d⟩ := kd
      have hend := Jr.getP_end hgp
      have hd7 := (Jr.getP_of hgp).1
      have hlen : pre.length < n + 1 := by
        have := hp.len.1
        have e : (pts pre).length = pre.length := by simp [pts]
        omega
      have HRP := Lib.hid (show ∀ W : World, Below wr.heap.size wr W → Calls Try.prog 89 #[.pointer (some ⟨g, 0, none⟩), .slice A n c, .int .i64 (np : Int)] W fun e w' => ∃ A' n' c', e = .returned (.tuple #[pv np k A' n' c', .bool true]) ∧ Below W.heap.size W w' ∧ PV.ok w n₀ ⟨np, k, A', n', c', d⟩ from fun W hW =>
        (readPart_yes (B := n₀) (htab.below hW htab.lt) (Nat.le_trans hlow.1 hW.size) ((hlow.below hW).lies HL.out) hnc hcc (by omega) (by omega) hgp).mono fun e w' ⟨A', n', c', he, hb, hl, h1, h2, h3⟩ => ⟨A', n', c', he, hb, (hlow.below hW).back hl, h1, h2, h3, by show np ≤ _; omega⟩)
      have KB := Lib.hid (show ∀ W : World, Below wr.heap.size wr W → W.cell? ⟨Bn, 0, none⟩ = some (.slice A n c) from fun W hW => (hW.cell (p := ⟨Bn, 0, none⟩) (World.block_lt_of_cell? wr _ hbn)).trans hbn)
      have B0 : Below wr.heap.size wr wr.drew := below_drew (Below.refl _ _)
      have B1 : Below wr.heap.size wr (wr.drew.alloc zeroPart) := B0.alloc (by simp) _
      have HZ := Lib.hid (fun W (hW : Below (wr.drew.alloc zeroPart).heap.size (wr.drew.alloc zeroPart) W) => zero_cells wr.drew W wr.heap.size rfl hW)
      have HTab := Lib.hid htab
      clear htab
      go_wp2_with fail
      go_region_held3 (fun W => W.cell? ⟨Bn, 0, none⟩ = some (.slice A n c)) (first | exact KB.out _ B0 | exact KB.out _ B1 | exact KB.out _ hb2 | exact KB.out _ (hb2.alloc hb2.size _) | exact KB.out _ (st3_below w2 wr.heap.size _ _ _ hb2 (Nat.le_refl _)) | fail)
       (first
        | (go_at_call 83; refine (HNP.out _).mono ?_; rintro e w1 ⟨rfl, hw⟩; obtain rfl := hw.symm)
        | (go_at_call 89; refine (HRP.out _ B0).mono ?_; rintro e w2 ⟨A', n', c', rfl, hb2', hok⟩; have hb2 := B0.trans (hb2'.mono B0.size))
        | (go_at_call 89; refine (HRP.out _ B1).mono ?_; rintro e w2 ⟨A', n', c', rfl, hb2', hok⟩; have hb2 := B1.trans (hb2'.mono B1.size); obtain ⟨z0, z1, z2, y0, y1, y2, hrz⟩ := HZ.out _ hb2')
        | fail)
      all_goals (first
        | refine at_world (P := fun W5 => Below wr.heap.size wr W5 ∧ W5.heap[w2.heap.size]? = some (.cells #[.int .i64 (np : Int), bv k, .slice A' n' c'] 123 (0, 0))) ⟨hb2.alloc hb2.size _, heap_alloc_new w2 _⟩ ?_
        | refine at_world (P := fun W5 => Below wr.heap.size wr W5 ∧ W5.heap[wr.heap.size]? = some (.cells #[.int .i64 (np : Int), bv k, .slice A' n' c'] 123 (0, 0))) ⟨st3_below w2 wr.heap.size _ _ _ hb2 (Nat.le_refl _), st3_row w2 wr.heap.size _ _ _ _ _ _ _ hrz.out⟩ ?_)
      all_goals
        rintro W5 ⟨hb5, hrow⟩
        have hj5 : J pre W5 := HJ.out _ _ _ none hj (grown_of_below hb5) (fun r e => by cases e)
        obtain ⟨q0, q1, q2⟩ := row3 hrow
        obtain ⟨fn, tmps, assign, body, hy, hR⟩ := HY.out pre ⟨⟨np, k, A', n', c', d⟩, hok⟩ W5 hj5 hlen
        have hy : (Instr.yield l #[pv np k A' n' c']).run Try.prog W5 = .ok (.round l fn tmps assign body) W5 := hy
        have HRd := Lib.hid hR
        clear hR hj5 hb2' 
        have T5 := HTab.out.below hb5 HTab.out.lt
        have L5 := hlow.below hb5
        have b5 := (hb5.cell (p := ⟨Bn, 0, none⟩) (World.block_lt_of_cell? wr _ hbn)).trans hbn
        go_upto_region 2 with fail
        refine (wpIn_wide (n := m + 1)).1 ?_
        gi_wp2_with fail
        have hn' : d.length = n' := hok.1.blen
        have hpath : Jr.Path f 0 (pts (pre ++ [(⟨⟨np, k, A', n', c', d⟩, hok⟩ : PX w n₀)])) (np + 7 + n') := by
          have h1 := hp.snoc (k := k) (d := d) (by rw [hnpe]; exact hgp)
          rw [hnpe, hn'] at h1
          simpa [pts, PV.p] using h1
        have HP := Lib.hid hpath
        clear hpath hy hp
        refine HRd.out.mono ?_
        rintro e W6 (⟨rfl, hJ6, hk6⟩ | ⟨rfl, hJx6⟩)
        · obtain ⟨p0, p1, p2⟩ := row3 (hk6.2 _ _ hrow (.inr (.inr (.inl rfl))))
          have T6 : Tab W6 g 117 Crc.tab := hk6.2 _ _ T5 (.inr (.inr (.inr rfl)))
          have L6 := L5.kp hk6
          have b6 : W6.cell? ⟨Bn, 0, none⟩ = some (.slice A n c) := by
            rw [← b5]
            have hlt := World.block_lt_of_cell? W5 _ b5
            unfold World.cell?
            rw [hk6.2 _ _ (Array.getElem?_eq_getElem hlt) (.inr (.inl hG)), Array.getElem?_eq_getElem hlt]
          have HE := Lib.hid (end_any np k A' n' c' W6 (by omega) (by omega))
          have HJ6 := Lib.hid hJ6; have HT6 := Lib.hid T6; have HL6 := Lib.hid L6; have HB6 := Lib.hid b6
          clear hJ6 T6 L6 b6 T5 L5 b5 hk6 q0 q1 q2 hrow
          gi_wp2_with fail
          go_wp2_with fail
          refine HE.out.mono ?_
          rintro e W7 ⟨rfl, hb7⟩
          have hJ7 : J _ W7 := HJ.out _ _ _ none HJ6.out (grown_of_below hb7) (fun r e => by cases e)
          have hR7 : IRel n₀ Bn g (.slice A n c) f J (.int .i64 ((np + 7 + n' : Nat) : Int)) W7 := ⟨_, _, rfl, hJ7, HP.out, HL6.out.below hb7, (hb7.cell (p := ⟨Bn, 0, none⟩) (World.block_lt_of_cell? W6 _ HB6.out)).trans HB6.out, HT6.out.below hb7 HT6.out.lt⟩
          have HR7 := Lib.hid hR7
          clear hJ7 hR7 hb7 p0 p1 p2 HE
          go_wp2
          go_roundw
          case rel => exact HR7.out
          case measure => simp [intOf]; omega
        · gi_wp2_with fail
          go_wp2
          refine bodyPost_ret (results_none rfl _ _ _) rfl ?_
          exact ⟨⟨_, rfl⟩, .inr ⟨_, ⟨_, HP.out⟩, hJx6⟩⟩
end Go.Proofs.Ytopcnlophmplgaa
