/-
  Contract of package journals' written: what a record adds to a file.
-/
import Derived.Test.YtopcnlophmplgaaPartF
import Derived.Test.YtopcnlophmplgaaPartB
import Derived.Test.YtopcnlophmplgaaRcdO
import Derived.Test.YtopcnlophmplgaaRangeR
import Derived.Shelf.RegionOpen
namespace Go.Proofs.Ytopcnlophmplgaa
open Go.RowKit
set_option linter.unusedVariables false
set_option maxRecDepth 100000
attribute [local go_sem] Oper.semAt_some

/-- append, as a step that the walk does not lay open -/
def appW (ats : Array TypeId) (ty : TypeId) (args : Array Value) : Sem Value := Builtin.append_ ats ty args
theorem builtin_appW {ats : Array TypeId} {ty : TypeId} {cs : Array Bool} {args : Array Value} : builtin .append ats ty cs args = (do pure (.value (← appW ats ty args))) := rfl
attribute [local go_sem ↓ 100000] builtin_appW

theorem cut_next (m n₀ Bn Br a n c : Nat) (A : Option Addr) (r : List UInt8) (w : World) (G : Nat → Prop) (hL : Lies w n₀ 1 A n (r.map bv)) (hnc : n ≤ c) (hcc : c ≤ 9223372036854775807) (hn : a + 8 * n ≤ 1073741800) (hn₀ : n₀ ≤ w.heap.size) (hBn : w.cell? ⟨Bn, 0, none⟩ = some (.int .i64 (a : Int))) (hBr : w.cell? ⟨Br, 0, none⟩ = some (.slice A n c))
    (l : Nat) (J : List (PX w n₀) → World → Prop) (W : World) (hW : Below w.heap.size w W) (hJ : AbidesFrom W.heap.size J)
    (hY : ∀ pre x W1, J pre W1 → (∃ rest, Jr.enc true (Jr.nextP a) r = pts pre ++ x.1.p :: rest) → YieldAt Fence.wide m Try.prog l #[Value.agg #[.int .i64 (x.1.pos : Int), bv x.1.k, .slice x.1.A x.1.n x.1.c]] W1 fun e W' => (e = .returned (.bool true) ∧ J (pre ++ [x]) W' ∧ KpJ n₀ G W1 W') ∨ (e = .returned (.bool false) ∧ False)) (h0 : J [] W) :
    Calls Try.prog 82 (#[.func (.yield l) #[] #[]] ++ #[.pointer (some ⟨Bn, 0, none⟩), .pointer (some ⟨Br, 0, none⟩)]) W fun e W' => (∃ v, e = .returned v) ∧ ∃ xs : List (PX w n₀), pts xs = Jr.enc true (Jr.nextP a) r ∧ J xs W' :=
  (cut1_any w n₀ m l Bn Br a n c A r G hL hnc hcc hn J (fun _ _ => False) W hJ hY ⟨Nat.le_trans hn₀ hW.size, fun i hi => hW.block i (Nat.lt_of_lt_of_le hi hn₀)⟩ ((hW.cell (p := ⟨Bn, 0, none⟩) (World.block_lt_of_cell? w _ hBn)).trans hBn) ((hW.cell (p := ⟨Br, 0, none⟩) (World.block_lt_of_cell? w _ hBr)).trans hBr) h0).mono fun e W' ⟨hv, h⟩ => ⟨hv, by
    rcases h with h | ⟨_, _, h⟩
    · exact h
    · exact h.elim⟩

/-- what the writer's variables hold -/
structure WrAt (w W : World) (s g a : Nat) (bl : List UInt8) (vb : Value) : Prop where
  b0 : Boxed W s 3 (.int .i64 (a : Int))
  tab : Tab W g 117 Crc.tab
  b1 : Boxed W (g + 1) 33 vb
  row : W.ownsRow (g + 4) 5 1 vb bl.length (bl.map bv)
  low : Below s w W
  sz : g + 4 ≤ W.heap.size
  sg : s < g
/-- what a round of the writer writes -/
def SW (g : Nat) (vb : Value) (i : Nat) : Prop := i = g + 1 ∨ (g + 4 ≤ i ∧ vb.ownBlock = some i)
theorem own_cells2 {W : World} {base e k n g : Nat} {v : Value} {xs : List Value} (h : W.ownsRow base e k v n xs) (hg : v.ownBlock = some g) : ∃ cur, W.heap[g]? = some (.cells cur e (0, 0)) := by
  rcases h.2 with ⟨rfl, _⟩ | ⟨g', cap, cur, rfl, _, hh, _⟩
  · cases hg
  · have : g' = g := by simpa [Value.ownBlock] using hg
    subst this
    exact ⟨cur, hh⟩
theorem WrAt.wrote {w W W' : World} {s g a : Nat} {bl : List UInt8} {vb : Value} {S : Nat → Prop} (h : WrAt w W s g a bl vb) (hw : Wrote S W W') (hs : ∀ i o, S i → W.heap[i]? = some o → o.isCells = false) (hs2 : ∀ i, S i → s ≤ i) : WrAt w W' s g a bl vb := by
  have hb : ∀ {i : Nat} {cs : Array Value} {t : TypeId}, W.heap[i]? = some (.cells cs t (0, 0)) → W'.heap[i]? = some (.cells cs t (0, 0)) := fun hx => (hw.block _ (Array.getElem?_eq_some_iff.1 hx).1 fun hS => by have := hs _ _ hS hx; cases this).trans hx
  refine ⟨hb h.b0, hb h.tab, hb h.b1, hw.row h.row fun i hi hS => ?_, h.low.trans (hw.below hs2 (by have := h.sz; have := h.sg; omega)), Nat.le_trans h.sz hw.size, h.sg⟩
  obtain ⟨cur, hh⟩ := own_cells2 h.row hi
  have := hs _ _ hS hh
  cases this
theorem WrAt.on {w W W' : World} {s g a : Nat} {bl : List UInt8} {vb : Value} (h : WrAt w W s g a bl vb) (hb : Below W.heap.size W W') : WrAt w W' s g a bl vb := h.wrote (S := fun _ => False) (Wrote.of_below hb) (fun _ _ h => h.elim) (fun _ h => h.elim)
theorem WrAt.round {w W W' : World} {s g a : Nat} {bl : List UInt8} {vb : Value} (h : WrAt w W s g a bl vb) (hw : Wrote (SW g vb) W W') : KeepsFrom (g + 4) W W' ∧ KpJ s (fun _ => False) W W' ∧ Below s W W' := by
  have hk : ∀ i, SW g vb i → ∃ cur e, W.heap[i]? = some (.cells cur e (0, 0)) ∧ e ≠ 123 ∧ e ≠ 117 := by
    intro i hi
    rcases hi with e | ⟨_, e⟩
    · subst e; exact ⟨_, _, h.b1, by decide, by decide⟩
    · obtain ⟨cur, hh⟩ := own_cells2 h.row e; exact ⟨_, _, hh, by decide, by decide⟩
  have hsg := h.sg
  refine ⟨⟨hw.size, fun k o hkk ho hoc => (hw.block k (Array.getElem?_eq_some_iff.1 ho).1 fun hS => ?_).trans ho⟩, ⟨hw.size, fun i o ho hi => (hw.block i (Array.getElem?_eq_some_iff.1 ho).1 fun hS => ?_).trans ho⟩, hw.below (fun i hi => ?_) (by have := h.sz; omega)⟩
  · obtain ⟨cur, t, hh, _⟩ := hk k hS
    rw [ho] at hh
    injection hh with hh
    subst hh
    cases hoc
  · obtain ⟨cur, t, hh, h1, h2⟩ := hk i hS
    rw [ho] at hh
    injection hh with hh
    subst hh
    rcases hi with hi | hi | hi
    · rcases hS with e | ⟨e, _⟩ <;> omega
    · exact hi
    · rcases hi with hi | hi
      · exact h1 hi
      · exact h2 hi
  · rcases hi with e | ⟨e, _⟩ <;> omega
/-- more is put behind -/
theorem WrAt.app {w W : World} {s g a : Nat} {bl : List UInt8} {Ab : Option Addr} {nb cb : Nat} (h : WrAt w W s g a bl (.slice Ab nb cb)) (hnb : bl.length = nb) {B n1 c1 : Nat} {A1 : Option Addr} {d : List UInt8} (hd : Lies W B 1 A1 n1 (d.map bv)) (hlen : nb + n1 ≤ 1099511627776) :
    ∃ A2 c2 W2, (appW #[33, 33] 33 #[.slice Ab nb cb, .slice A1 n1 c1]).run Try.prog W = .ok (.slice A2 (nb + n1) c2) W2 ∧
      (W2.cell? ⟨g + 1, 0, none⟩ = some (.slice Ab nb cb) ∧ W2.frozen? ⟨g + 1, 0, none⟩ = false) ∧
      Hid (WrAt w (W2.setCell ⟨g + 1, 0, none⟩ (.slice A2 (nb + n1) c2)) s g a (bl ++ d) (.slice A2 (nb + n1) c2) ∧ Wrote (SW g (.slice Ab nb cb)) W (W2.setCell ⟨g + 1, 0, none⟩ (.slice A2 (nb + n1) c2)) ∧ (bl ++ d).length = nb + n1) := by
  subst hnb
  have hsz := h.sz
  obtain ⟨i0, hi, hz0, hz1, hz2⟩ := info_parts byte_info
  obtain ⟨v1, W2, hrun, hown, hg, hblk⟩ := run_app (P := Try.prog) W (g + 4) 33 33 5 i0 _ 1 1 Try.underlying33 hi hz0 hz1 hz2 rfl (by decide) (.slice Ab bl.length cb) bl.length (bl.map bv) h.row B A1 n1 c1 (d.map bv) hd (bv_one _) (by unfold maxLen; omega) (by omega) (by omega)
  obtain ⟨A2, c2, rfl, _, _, _⟩ := own_shape hown
  have hdn := hd.blen
  have hw1 : Wrote (fun i => g + 4 ≤ i ∧ (Value.slice Ab bl.length cb).ownBlock = some i) W W2 := (Wrote.grown hg).mono (fun i _ hs => ⟨(h.row.lt i hs).1, hs⟩)
  have hno : ∀ i, i < g + 4 → i < W.heap.size → W2.heap[i]? = W.heap[i]? := fun i hi hlt => hw1.block i hlt (fun hh => by omega)
  have k1 : Boxed W2 (g + 1) 33 (.slice Ab bl.length cb) := (hno _ (by omega) (by omega)).trans h.b1
  have hw2 : Wrote (SW g (.slice Ab bl.length cb)) W (W2.setCell ⟨g + 1, 0, none⟩ (.slice A2 (bl.length + n1) c2)) := (hw1.mono fun i _ hi => .inr hi).set (p := ⟨g + 1, 0, none⟩) (.inl rfl) _
  have hrow2 : W2.ownsRow (g + 4) 5 1 (.slice A2 (bl.length + n1) c2) (bl ++ d).length ((bl ++ d).map bv) := by rw [List.length_append, hdn, List.map_append]; exact hown
  have hsg := h.sg
  have f2 : ∀ i, i ≠ g + 1 → (W2.setCell ⟨g + 1, 0, none⟩ (.slice A2 (bl.length + n1) c2)).heap[i]? = W2.heap[i]? := fun i hi => Below.heap_setCell W2 _ _ i hi
  refine ⟨A2, c2, W2, hrun, ⟨k1.cell, k1.frozen⟩, Lib.hid ⟨⟨(f2 s (by omega)).trans ((hno s (by omega) (by omega)).trans h.b0), (f2 g (by omega)).trans ((hno g (by omega) (by omega)).trans h.tab), k1.set _, ?_, ?_, Nat.le_trans h.sz hw2.size, h.sg⟩, hw2, by rw [List.length_append, hdn]⟩⟩
  · exact ((Wrote.refl (fun i => i = g + 1) W2).set (p := ⟨g + 1, 0, none⟩) rfl _).row hrow2 (fun i hi hS => by have := (hrow2.lt i hi).1; omega)
  · exact h.low.trans (h.round hw2).2.2
theorem kpJ_alloc2 (n₀ : Nat) (G : Nat → Prop) (W : World) (o : Obj) : KpJ n₀ G W (W.alloc o) := ⟨by simp, fun i x hx _ => (Below.heap_alloc W o i (Array.getElem?_eq_some_iff.1 hx).1).trans hx⟩
theorem keeps_below (B n₀ : Nat) (G : Nat → Prop) {W W' : World} (hb : Below W.heap.size W W') : KeepsFrom B W W' ∧ KpJ n₀ G W W' :=
  ⟨⟨hb.size, fun k o _ ho _ => (hb.block k (Array.getElem?_eq_some_iff.1 ho).1).trans ho⟩, ⟨hb.size, fun i o ho _ => (hb.block i (Array.getElem?_eq_some_iff.1 ho).1).trans ho⟩⟩
/-- 'make([]byte, z)' in a round -/
theorem wpListIn_makeZ {F : Fence} {n : Nat} (w : World) {ops : Array Oper} {rest : List Oper} {o : Oper} {a : Act} {Q : Exit → Act → World → Prop} (hg : o.guard = none) (l c : Operand) (hop : o.op = Op.makeSlice 33 l c)
    (L : Int) (z : Nat) (hl : a.eval l = .int .i64 L) (hc : a.eval c = .int .i64 L) (hL : L = (z : Int)) (b : z ≤ 1099511627776)
    (hK : ∀ w', Lies w' (w.heap.size + 1) 1 (some ⟨w.heap.size, 0, none⟩) z ((List.replicate z (0 : UInt8)).map bv) → Below w.heap.size w w' → wpListIn F n Try.prog ops Q rest (a.put o.dst (.slice (some ⟨w.heap.size, 0, none⟩) z z)) w') :
    wpListIn F n Try.prog ops Q (o :: rest) a w := by
  obtain ⟨i0, hi, hz0, hz1, hz2⟩ := info_parts byte_info
  refine wpListIn_plain hg fun K hK' => ?_
  obtain ⟨w', hrun, r1, r2⟩ := run_make_full (P := Try.prog) (w := w) w.heap.size 33 5 i0 _ 1 Try.underlying33 hi hz0 hz1 .i64 .i64 z (by rw [hz2]; omega) (by unfold maxLen; omega) (Nat.le_refl _)
  subst hL
  have e : (madeCells (Value.int .u8 0).cells (z * 1)).toList = (List.replicate z (0 : UInt8)).map bv := by
    rw [Nat.mul_one]
    refine (toList_madeCells_one (.int .u8 0) z).trans ?_
    rw [List.map_replicate]; rfl
  rw [e] at r1
  have hb : Below w.heap.size w w' := (Below.refl _ _).grown r2 (Nat.le_refl _) (fun k e => by cases e)
  have hL : Lies w' (w.heap.size + 1) 1 (some ⟨w.heap.size, 0, none⟩) z ((List.replicate z (0 : UInt8)).map bv) := by
    have h1 := Lies.of_own r1
    refine ⟨h1.1, fun j hj => ?_⟩
    obtain ⟨ad, u, e1, _, e2, e3⟩ := h1.2 j hj
    injection e1 with e1
    subst e1
    exact ⟨_, u, rfl, Nat.lt_succ_self _, e2, e3⟩
  unfold Oper.wpIn
  refine ⟨?_, ?_⟩
  · simp [Oper.about, hop]
  · rw [Oper.semAt_plain F _ _ (by rw [hop]; intro c hc'; cases hc')]
    simp [execOp, hop, hl, hc, hrun, Result.andThen]
    exact hK' _ _ (hK w' hL hb)

set_option maxHeartbeats 4000000 in
theorem written_any (a n c : Nat) (A : Option Addr) (r : List UInt8) (w : World) (h : Lies w w.heap.size 1 A n (r.map bv)) (hnc : n ≤ c) (hcc : c ≤ 9223372036854775807) (hn : a + 8 * n ≤ 1073741800) :
    Calls Try.prog 38 #[.int .i64 (a : Int), .slice A n c] w fun e w' => ∃ v, e = .returned v ∧ w'.ownsRow w.heap.size 5 1 v (Jr.wr a r).length ((Jr.wr a r).map bv) ∧ Below w.heap.size w w' := by
  have HL := Lib.hid h
  have hrl := h.blen
  clear h
  refine (callsIn_wide (n := 6)).1 ?_
  refine callsIn_of_wp_marks Try.func38 rfl trivial ?_ rfl
  simp only [Try.ntmps38, List.size_toArray, List.length_cons, List.length_nil, Nat.reduceAdd, Nat.reduceSub, Array.replicate_succ, Array.replicate_zero, List.push_toArray, List.append_toArray, List.nil_append, List.cons_append]
  refine wpIn_wide.2 ?_
  have b0 := Boxed.new w 3 (.int .i64 (a : Int))
  have hb0 := (Below.refl w.heap.size w).alloc (Nat.le_refl _) (.cells #[.int .i64 (a : Int)] 3)
  have HB0 := Lib.hid b0; have HBB0 := Lib.hid hb0
  clear b0 hb0
  go_wp2_with fail
  refine (table_any _).mono ?_
  rintro e w1 ⟨rfl, hb1⟩
  have hlow1 := Lib.hid (HBB0.out.trans (hb1.mono HBB0.out.size))
  have hbox1 := Lib.hid ((hb1.block _ HB0.out.lt).trans HB0.out : Boxed w1 w.heap.size 3 (.int .i64 (a : Int)))
  have hgs : w.heap.size < w1.heap.size := Boxed.lt hbox1.out
  obtain ⟨g, hg⟩ : ∃ g, w1.heap.size = g := ⟨_, rfl⟩
  have hls := lay_size w1 Crc.tab
  have ht2 := lay_tab w1 Crc.tab
  have hlow2 := lay_below hlow1.out hlow1.out.size Crc.tab
  have hbx2 : Boxed (lay w1 Crc.tab) w.heap.size 3 (.int .i64 (a : Int)) := Boxed.alloc hbox1.out _
  rw [hg] at hls ht2 hgs
  have hbx3 := hbx2.alloc (.cells #[.slice none 0 0] 33)
  have hc3 := hbx3.cell
  have hB3 : Boxed ((lay w1 Crc.tab).alloc (.cells #[.slice none 0 0] 33)) (g + 1) 33 (.slice none 0 0) := by
    have := Boxed.new (lay w1 Crc.tab) 33 (.slice none 0 0); rw [hls] at this; exact this
  have hT3 := ht2.alloc (.cells #[.slice none 0 0] 33)
  have hlow3 := hlow2.alloc (by omega) (.cells #[.slice none 0 0] 33)
  have hs3 : ((lay w1 Crc.tab).alloc (.cells #[.slice none 0 0] 33)).heap.size = g + 1 + 1 := by simp [hls]
  have HB3 := Lib.hid hB3; have HT3 := Lib.hid hT3; have HLow3 := Lib.hid hlow3; have HBx3 := Lib.hid hbx3
  clear hB3 hT3 hlow3 hbx3 hbx2 hlow2 ht2 hlow1 hbox1
  go_wp2_with (first
    | refine wpList_lay rfl rfl ?_
    | refine wpList_laid rfl _ _ rfl noughts Crc.tab rfl rfl noughts_len Crc.tab_len ?_)
  generalize (lay w1 Crc.tab).alloc (.cells #[.slice none 0 0] 33) = W3 at *
  refine (cut_any a n c A W3).mono ?_
  rintro e w' ⟨rfl, rfl⟩
  rw [hs3]
  have b0 := (HBx3.out.alloc (.cells #[.int .i64 (a : Int)] 3)).alloc (.cells #[.slice A n c] 33)
  have b1 := (HB3.out.alloc (.cells #[.int .i64 (a : Int)] 3)).alloc (.cells #[.slice A n c] 33)
  have tb := (HT3.out.alloc (.cells #[.int .i64 (a : Int)] 3)).alloc (.cells #[.slice A n c] 33)
  have b2 := (Boxed.new W3 3 (.int .i64 (a : Int))).alloc (.cells #[.slice A n c] 33)
  have b3 := Boxed.new (W3.alloc (.cells #[.int .i64 (a : Int)] 3)) 33 (.slice A n c)
  have hlow := (HLow3.out.alloc (by omega) (.cells #[.int .i64 (a : Int)] 3)).alloc (by simp; omega) (.cells #[.slice A n c] 33)
  have hsz : ((W3.alloc (.cells #[.int .i64 (a : Int)] 3)).alloc (.cells #[.slice A n c] 33)).heap.size = g + 4 := by simp [hs3]
  simp only [World.size_alloc, hs3] at b2 b3
  generalize (W3.alloc (.cells #[.int .i64 (a : Int)] 3)).alloc (.cells #[.slice A n c] 33) = W0 at *
  have R0 : WrAt w W0 w.heap.size g a [] (.slice none 0 0) := ⟨b0, tb, b1, World.ownsRow_nil _ _ _ _, hlow, by omega, hgs⟩
  have HR0 := Lib.hid R0
  have HE0 : Hid (Jr.wrTo a [] = []) := Lib.hid rfl
  clear hc3 hls HB3 HT3 HLow3 HBx3 b0 b1 tb R0
  go_wp2_with fail
  refine (wpIn_wide (n := 6)).1 ?_
  refine range_next (m := 5) (α := PX W0 w.heap.size) (gf := 82) (lb := #[.pointer (some ⟨g + 1 + 1, 0, none⟩), .pointer (some ⟨g + 1 + 1 + 1, 0, none⟩)]) (encs := fun x => #[Value.agg #[.int .i64 (x.1.pos : Int), bv x.1.k, .slice x.1.A x.1.n x.1.c]]) (Kp := KpJ w.heap.size (fun _ => False))
    (G := fun pre x => ∃ rest, Jr.enc true (Jr.nextP a) r = pts pre ++ x.1.p :: rest) (S := fun xs => pts xs = Jr.enc true (Jr.nextP a) r)
    rfl (enters_of Try.func82 (by kernel_rfl) rfl) (fun _ => rfl) (fun h k => KpJ.trans h k) (kpJ_b (by omega) (fun i hi => hi.elim))
    (fun l J W hW hJ hY h0 => cut_next 5 w.heap.size (g + 1 + 1) (g + 1 + 1 + 1) a n c A r W0 (fun _ => False) (HL.out.below hlow) hnc hcc hn (by omega) b2.cell b3.cell l J W hW hJ hY h0)
    (fun pre W => ∃ vb, WrAt w W w.heap.size g a (Jr.wrTo a (pts pre)) vb)
    (fun pre X Y row hI hg2 hr => by
      obtain ⟨vb, h1⟩ := hI
      rw [hsz] at hr
      exact ⟨vb, h1.wrote (Wrote.grown hg2) (fun i o hi ho => by
        obtain ⟨_, o', ho', hc⟩ := hr i hi
        rw [ho] at ho'
        injection ho' with ho'
        subst ho'
        exact hc) (fun i hi => by have := (hr i hi).1; omega)⟩)
    ⟨_, HR0.out⟩
    (fun x a' W => ∃ Bx, g + 3 < Bx ∧ W.heap[Bx]? = some (.cells #[.int .i64 (x.1.pos : Int), bv x.1.k, .slice x.1.A x.1.n x.1.c] 123 (0, 0)) ∧
      a' = { tmps := #[.int .i64 (a : Int), .slice A n c, .pointer (some ⟨w.heap.size, 0, none⟩), undef, .slice none 0 0, .pointer (some ⟨g, 0, none⟩), .pointer (some ⟨g + 1, 0, none⟩), .pointer (some ⟨Bx, 0, none⟩), undef, .agg (arr Crc.tab), .int .i64 (a : Int), .slice A n c, .func (.func 82) #[] #[.pointer (some ⟨g + 1 + 1, 0, none⟩), .pointer (some ⟨g + 1 + 1 + 1, 0, none⟩)], pv x.1.pos x.1.k x.1.A x.1.n x.1.c, undef, undef, undef, undef, undef, undef, undef, undef, undef, undef, undef, undef, undef, undef, undef, undef], defers := [] })
    (fun x a' _ X Y row hI hg2 hr => by
      obtain ⟨Bx, h1, h2, h3⟩ := hI
      refine ⟨Bx, h1, (hg2.block Bx (Array.getElem?_eq_some_iff.1 h2).1 (fun e => ?_)).trans h2, h3⟩
      obtain ⟨_, o, ho, hc⟩ := hr Bx e.symm
      rw [h2] at ho
      injection ho with ho
      subst ho
      cases hc)
    ?assign ?body ?done
  case assign =>
    rintro l pre x W K ⟨vb, hR⟩ hK
    gi_wp2
    exact hK _ _ ((KeepsOthers.alloc _ _).from _) (kpJ_alloc2 _ _ _ _) ⟨vb, hR.on ((Below.refl _ _).alloc (Nat.le_refl _) _)⟩ ⟨W.heap.size, by have := hR.sz; omega, heap_alloc_new W _, rfl⟩
  case body =>
    have hmx : Try.prog.follows .mixedOrders = true := by kernel_rfl
    rintro l pre x a' W ⟨vb, hR⟩ ⟨Bx, hBx, hrow, rfl⟩ ⟨rest, hall⟩
    have hok := x.2
    obtain ⟨h1, h2, h3, h4⟩ := Jr.wrTo_next a r (pts pre) rest x.1.p hall
    have hpts : pts (pre ++ [x]) = pts pre ++ [x.1.p] := by simp [pts]
    obtain ⟨pos, k, A1, n1, c1, d, hx⟩ : ∃ pos k A1 n1 c1 d, x.1 = ⟨pos, k, A1, n1, c1, d⟩ := ⟨_, _, _, _, _, _, rfl⟩
    have hxp : x.1.p = ⟨pos, k, d⟩ := by rw [hx]; rfl
    rw [hxp] at h1 h2 h3 hpts
    rw [hx] at hok hrow ⊢
    obtain ⟨hd, hnc1, hcc1, hn1, hpos⟩ := hok
    dsimp only at hd hnc1 hcc1 hn1 hpos hrow h1 h2 h3
    have hdn := hd.blen
    have hdW : Lies W w.heap.size 1 A1 n1 (d.map bv) := hd.keep (fun p hp => (hR.low.cell hp).trans (hlow.cell hp).symm)
    obtain ⟨bl, hbl⟩ : ∃ bl, Jr.wrTo a (pts pre) = bl := ⟨_, rfl⟩
    rw [hbl] at hR h1 h2 h3 h4
    obtain ⟨nb, hnb⟩ : ∃ nb, bl.length = nb := ⟨_, rfl⟩
    rw [hnb] at h1 h2 h3 h4
    obtain ⟨z, hz⟩ : ∃ z, pos - a - nb = z := ⟨_, rfl⟩
    rw [hz] at h2 h3
    have hzi : (pos : Int) - (a : Int) - (nb : Int) = (z : Int) := by omega
    obtain ⟨Ab, cb, rfl, _⟩ := own_shape hR.row
    rw [hnb] at hR
    have hnr : ¬ SW g (.slice Ab nb cb) Bx := by
      rintro (e | ⟨_, e⟩)
      · omega
      · obtain ⟨cur, hh⟩ := own_cells2 hR.row e
        rw [hrow] at hh
        injection hh with hh
        injection hh with _ hh
        exact absurd hh (by decide)
    obtain ⟨x0, x1, x2⟩ := row3 hrow
    have c0 := hR.b0.cell; have c1' := hR.b1.cell
    have HR := Lib.hid hR; have HD := Lib.hid hdW; have H2 := Lib.hid h2; have HPts := Lib.hid hpts; have HRow := Lib.hid hrow
    clear h2 hpts hrow hR hdW hd hall hz
    gi_wp2_with ((gi_at_make; refine wpListIn_makeZ _ rfl (.tmp 20) (.tmp 20) rfl (z : Int) z rfl rfl rfl (by omega) ?_; intro w2 hl2 hb2; obtain ⟨A2, c2, W2, run2, ⟨g2, f2⟩, HP2⟩ := (HR.out.on hb2).app hnb (c1 := z) hl2 (by omega); have q2 := (HR.out.on hb2).b1.cell))
    obtain ⟨W3, hW3⟩ : ∃ W3, W2.setCell ⟨g + 1, 0, none⟩ (.slice A2 (nb + z) c2) = W3 := ⟨_, rfl⟩
    rw [hW3] at HP2 ⊢
    have hR3 := HP2.out.1
    have hw3 : Wrote (SW g (.slice Ab nb cb)) W W3 := (Wrote.of_below hb2).trans (HP2.out.2.1.mono fun i _ hi => hi)
    have hrow3 : W3.heap[Bx]? = some (.cells #[.int .i64 (pos : Int), bv k, .slice A1 n1 c1] 123 (0, 0)) := (hw3.block Bx (Array.getElem?_eq_some_iff.1 HRow.out).1 hnr).trans HRow.out
    obtain ⟨y0, y1, y2⟩ := row3 hrow3
    have hL3 : Lies W3 W3.heap.size 1 A1 n1 (d.map bv) := (HD.out.keep (fun p hp => (hR3.low.cell hp).trans (HR.out.low.cell hp).symm)).more hR3.low.size
    have HE := Lib.hid (encoded_any pos k A1 n1 c1 d g W3.drew hL3.drew hR3.tab hn1)
    have e1 := hR3.b1.cell
    have HW3 := Lib.hid hw3
    clear hb2 hl2 run2 g2 f2 q2 hrow3 hw3 hL3
    gi_wp2_with fail
    gi_region_with_o (first
      | (refine ⟨trivial, ?_⟩; gi_at_call 68; refine (CallsIn.inRound l (callsIn_wide.2 HE.out)).mono ?_; rintro e W5 ⟨v5, rfl, hown5, hb5⟩; obtain ⟨A5, c5, rfl, _⟩ := own_shape hown5; have hR5 := hR3.on ((below_drew (Below.refl _ _)).trans hb5); obtain ⟨A6, c6, W6, run6, ⟨g6, f6⟩, HP6⟩ := hR5.app HP2.out.2.2 (c1 := c5) (Lies.of_own hown5) (by omega); have q5 := hR5.b1.cell)
      | fail)
    all_goals
      have hk1 := Lib.hid (HR.out.round HW3.out)
      have hk2 := Lib.hid (keeps_below (W := W3) (W' := W5) (g + 4) w.heap.size (fun _ => False) ((below_drew (Below.refl W3.heap.size W3)).trans hb5))
      have hk3 := Lib.hid (hR5.round HP6.out.2.1)
      have hfin : bl ++ List.replicate z 0 ++ Jr.partB k d = Jr.wrTo a (pts (pre ++ [x])) := by rw [HPts.out, H2.out]
      have hW9 := Lib.hid HP6.out.1
      rw [hfin] at hW9
      clear hb5 hown5 run6 g6 f6 q5 e1 y0 y1 y2 hR3 hR5
      gi_wp2
      exact ⟨by rw [hsz]; exact hk1.out.1.trans (hk2.out.1.trans hk3.out.1), hk1.out.2.1.trans (hk2.out.2.trans hk3.out.2.1), _, hW9.out⟩
  case done =>
    rintro D xs W hD hS ⟨vb, hR⟩ hK
    rw [hS, Jr.wrTo_all] at hR
    obtain ⟨Ab, cb, rfl, _⟩ := own_shape hR.row
    have c1' := hR.b1.cell
    have hsg := hR.sg
    have hg := grownBy_putObj' W D (.deferred none)
    have hDg : g + 4 ≤ D := by rw [hsz] at hD; exact hD
    have hfin : WrAt w (W.putObj D (.deferred none)) w.heap.size g a (Jr.wr a r) (.slice Ab (Jr.wr a r).length cb) := hR.wrote (Wrote.grown hg) (fun i o hi ho => by
      injection hi with hi
      subst hi
      rw [hK] at ho
      injection ho with ho
      subst ho
      rfl) (fun i hi => by injection hi with hi; omega)
    have HF := Lib.hid hfin; have HK := Lib.hid hK
    clear hfin hR hK
    go_wp2
    refine ⟨by simp, .inl ⟨_, _, rfl, run_takeDeferred HK.out, ?_⟩⟩
    exact ⟨_, results_tmp rfl _ _ _, _, rfl, own_base HF.out.row (by omega), HF.out.low⟩
end Go.Proofs.Ytopcnlophmplgaa
