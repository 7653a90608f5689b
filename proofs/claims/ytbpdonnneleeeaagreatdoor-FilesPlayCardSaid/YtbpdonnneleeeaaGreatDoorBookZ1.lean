/-
  The laws' Book: what it is in memory; keepByte.
  The laws' Book: markByte, isByte, Bytes, fillByte.
  The laws' Book: growByte.
  The laws' Book: the walk of growByte.
-/
import Derived.Test.YtbpdonnneleeeaaGreatDoorMemZ
import Derived.Deep.RegionLaw
import Derived.Deep.RegionHeld3
import Derived.ArgAppend
namespace Go.Proofs.YtbpdonnneleeeaaGreatDoor
open Go.RowKit
set_option linter.unusedVariables false

abbrev nilS : Value := .slice none 0 0
/-- the cells of a Book that keeps bytes alone -/
def bookCells (n : Nat) (vb : Value) : Array Value := #[.int .i64 (n : Int), vb, nilS, nilS, nilS, nilS, nilS, nilS, nilS, nilS, nilS, nilS, nilS, nilS]
def BookIs (w : World) (g n : Nat) (vb : Value) : Prop := w.heap[g]? = some (.cells (bookCells n vb) 45 (0, 0))
section
variable {w w' : World} {g n : Nat} {vb : Value}
theorem BookIs.lt (h : BookIs w g n vb) : g < w.heap.size := (Array.getElem?_eq_some_iff.1 h).1
theorem BookIs.frozen (h : BookIs w g n vb) (i : Nat) : w.frozen? ⟨g, i, none⟩ = false := by
  unfold BookIs at h
  simp [World.frozen?, h]
theorem BookIs.cell (h : BookIs w g n vb) (i : Nat) : w.cell? ⟨g, i, none⟩ = (bookCells n vb)[i]? := cell_of_row w g i _ _ (0, 0) h
theorem BookIs.num (h : BookIs w g n vb) (m : Nat) : BookIs (w.setCell ⟨g, 0, none⟩ (.int .i64 (m : Int))) g m vb := by
  unfold BookIs at h ⊢
  simp [World.setCell, Array.getElem?_modify, h, bookCells]
theorem BookIs.put (h : BookIs w g n vb) (v : Value) : BookIs (w.setCell ⟨g, 1, none⟩ v) g n v := by
  unfold BookIs at h ⊢
  simp [World.setCell, Array.getElem?_modify, h, bookCells]
theorem BookIs.alloc (h : BookIs w g n vb) (o : Obj) : BookIs (w.alloc o) g n vb := (Below.heap_alloc w o g h.lt).trans h
theorem BookIs.grown {row : Option Nat} (h : BookIs w g n vb) (hb : w.grownBy w' row) (hg : some g ≠ row) : BookIs w' g n vb := (hb.block g h.lt hg).trans h
theorem BookIs.not_own {base e k m : Nat} {x : Value} {xs : List Value} (h : BookIs w g n vb) (ho : w.ownsRow base e k x m xs) (hne : e ≠ 45) : some g ≠ x.ownBlock := by
  rcases ho.2 with ⟨rfl, _⟩ | ⟨g', cap, cur, rfl, _, hh, _⟩
  · simp [Value.ownBlock]
  · intro he
    have : g = g' := by simpa [Value.ownBlock] using he
    subst this
    unfold BookIs at h
    rw [hh] at h
    injection h with h
    injection h with _ h
    exact hne h
end
/-- what is owned stays, if another block is written -/
theorem own_setOther {w : World} {base e k n : Nat} {x : Value} {xs : List Value} (ho : w.ownsRow base e k x n xs) {p : Addr} (hp : some p.block ≠ x.ownBlock) (u : Value) : (w.setCell p u).ownsRow base e k x n xs := by
  refine ⟨ho.1, ?_⟩
  rcases ho.2 with h2 | ⟨g', cap, cur, hv, hg, hh, r⟩
  · exact .inl h2
  · refine .inr ⟨g', cap, cur, hv, hg, (Below.heap_setCell w _ u g' ?_).trans hh, r⟩
    rintro rfl
    rw [hv] at hp
    exact hp rfl

theorem held_info : (Tryz.prog.info? 128).map (fun i => (i.zero, i.size, i.bytes)) = some (some (.agg #[nilS, nilS, .int .i64 0]), 3, 56) := by kernel_rfl

theorem lits3 {w : World} {g : Nat} (hg : g = w.heap.size) (a b c : Value) (t : TypeId) : Lies (w.alloc (.cells #[a, b, c] t)) (g + 1) 3 (some ⟨g, 0, none⟩) 1 [a, b, c] := by
  subst hg
  refine ⟨rfl, fun j hj => ⟨_, [a, b, c][j], rfl, by simp, List.getElem?_eq_getElem hj, ?_⟩⟩
  rw [add_lit]
  have h : (w.alloc (.cells #[a, b, c] t)).heap[w.heap.size]? = some (.cells #[a, b, c] t (0, 0)) := heap_alloc_new w _
  rw [Nat.zero_add, cell_of_row _ w.heap.size j #[a, b, c] t (0, 0) h]
  match j, hj with
  | 0, _ => rfl
  | 1, _ => rfl
  | 2, _ => rfl
theorem three_one (A : Option Addr) (n c : Nat) (x : Int) : ∀ u ∈ [Value.slice A n c, nilS, .int .i64 x], u.oneCell' = true := by
  intro u hu
  simp at hu
  rcases hu with rfl | rfl | rfl <;> rfl

/-- only these two blocks, and what is new, has changed -/
structure Only (w w' : World) (a b : Option Nat) : Prop where
  os : w'.os = w.os
  tape : w'.tape = w.tape
  output : w'.output = w.output
  size : w.heap.size ≤ w'.heap.size
  block : ∀ k, k < w.heap.size → some k ≠ a → some k ≠ b → w'.heap[k]? = w.heap[k]?

set_option maxHeartbeats 2000000 in
theorem keepByte_any (g n k base : Nat) (vb : Value) (hs : List Value) (A : Option Addr) (nl c : Nat) (w : World) (hB : BookIs w g n vb) (hown : w.ownsRow base 128 3 vb k hs) (hbase : base ≤ w.heap.size) (hn : n ≤ 1000000) (hk : k ≤ 1000000) :
    Calls Tryz.prog 57 #[.pointer (some ⟨g, 0, none⟩), .slice A nl c] w fun e w' => e = .returned (.tuple #[]) ∧ ∃ vb', BookIs w' g (n + 1) vb' ∧
      w'.ownsRow base 128 3 vb' (k + 1) (hs ++ [.slice A nl c, nilS, .int .i64 ((n + 1 : Nat) : Int)]) ∧ Only w w' (some g) vb.ownBlock := by
  obtain ⟨i0, hi, hz0, hz1, hz2⟩ := info_parts held_info
  have hc0 : w.cell? ⟨g, 0, none⟩ = some (.int .i64 (n : Int)) := hB.cell 0
  have hc1 : w.cell? ⟨g, 1, none⟩ = some vb := hB.cell 1
  have hf0 := hB.frozen 0
  have hf1 := hB.frozen 1
  go_enter Tryz.func57, Tryz.ntmps57
  go_wp2
  have hB1 : BookIs (w.setCell ⟨g, 0, none⟩ (.int .i64 ((n : Int) + 1))) g (n + 1) vb := hB.num (n + 1)
  have hown1 := own_setOther hown (p := ⟨g, 0, none⟩) (hB.not_own hown (by decide)) (.int .i64 ((n : Int) + 1))
  have honly1 : ∀ j, j < w.heap.size → some j ≠ some g → (w.setCell ⟨g, 0, none⟩ (.int .i64 ((n : Int) + 1))).heap[j]? = w.heap[j]? := fun j _ hj => Below.heap_setCell w _ _ j (fun e => hj (by rw [e]))
  have hsz1 : (w.setCell ⟨g, 0, none⟩ (.int .i64 ((n : Int) + 1))).heap.size = w.heap.size := by simp [World.setCell]
  have hos1 : (w.setCell ⟨g, 0, none⟩ (.int .i64 ((n : Int) + 1))).os = w.os ∧ (w.setCell ⟨g, 0, none⟩ (.int .i64 ((n : Int) + 1))).tape = w.tape ∧ (w.setCell ⟨g, 0, none⟩ (.int .i64 ((n : Int) + 1))).output = w.output := ⟨rfl, rfl, rfl⟩
  obtain ⟨w1, hw1⟩ : ∃ w1, w.setCell ⟨g, 0, none⟩ (.int .i64 ((n : Int) + 1)) = w1 := ⟨_, rfl⟩
  rw [hw1] at hB1 hown1 honly1 hsz1 hos1 ⊢
  clear hw1 hc0 hc1 hf0 hf1
  have hc0 : w1.cell? ⟨g, 0, none⟩ = some (.int .i64 ((n : Int) + 1)) := hB1.cell 0
  have hc1 : w1.cell? ⟨g, 1, none⟩ = some vb := hB1.cell 1
  have hf1 := hB1.frozen 1
  have hglt : g < w1.heap.size := hB1.lt
  have hgne : w1.heap.size ≠ g := by omega
  have hgne2 : g ≠ w1.heap.size := by omega
  have H1 := Lib.hid honly1; have HS1 := Lib.hid hsz1; have HO1 := Lib.hid hos1
  clear honly1 hsz1 hos1
  go_region_law (refine step_app _ rfl (.tmp 15) (.tmp 22) 31 rfl base 128 i0 _ 3 56 Tryz.underlying31 hi hz0 hz1 hz2 rfl (by decide) vb k hs rfl (World.ownsRow.alloc (w := w1.drew) hown1 _) (w1.heap.size + 1) (some ⟨w1.heap.size, 0, none⟩) 1 1 [.slice A nl c, nilS, .int .i64 ((n : Int) + 1)] rfl (lits3 (w := w1.drew) rfl _ _ _ _) (three_one _ _ _ _) (by unfold maxLen; omega) (by omega) (by have := HS1.out; simp; omega) ?_; intro v2 w2 hown2 hg2 hat2; have hB2 := BookIs.grown (BookIs.alloc (w := w1.drew) hB1 _) hg2 (hB1.not_own hown1 (by decide)); have hc2 : w2.cell? ⟨g, 1, none⟩ = some vb := hB2.cell 1; have hf2 := hB2.frozen 1; obtain ⟨A2, c2, rfl, _⟩ := own_shape hown2)
  all_goals (
    have hfin : BookIs (w2.setCell ⟨g, 1, none⟩ (.slice A2 (k + 1) c2)) g (n + 1) (.slice A2 (k + 1) c2) := hB2.put _
    have hown3 := own_setOther hown2 (p := ⟨g, 1, none⟩) (hB2.not_own hown2 (by decide)) (.slice A2 (k + 1) c2)
    have honly : Only w (w2.setCell ⟨g, 1, none⟩ (.slice A2 (k + 1) c2)) (some g) vb.ownBlock := by
      have ho := HO1.out
      refine ⟨hg2.os.trans ho.1, hg2.tape.trans ho.2.1, hg2.output.trans ho.2.2, ?_, ?_⟩
      · have := hg2.size
        have h2 := HS1.out
        simp [World.setCell] at this ⊢
        omega
      · intro j hj h1 h2
        have hj1 : j < w1.heap.size := by rw [HS1.out]; exact hj
        rw [Below.heap_setCell _ _ _ _ (fun e => h1 (by rw [e]))]
        rw [hg2.block j (by simp; omega) h2]
        exact (Below.heap_alloc w1.drew _ j hj1).trans (H1.out j hj h1)
    have HF := Lib.hid hfin; have HO3 := Lib.hid hown3; have HON := Lib.hid honly
    clear hfin hown3 honly hown2 hg2 hat2 hB2 hc2 hf2 hown1 hB1 hc0 hc1 hf1
    go_wp2
    go_end0
    exact ⟨rfl, _, HF.out, HO3.out, HON.out⟩)
end Go.Proofs.YtbpdonnneleeeaaGreatDoor

namespace Go.Proofs.YtbpdonnneleeeaaGreatDoor
open Go.RowKit
set_option linter.unusedVariables false

/-- a list of bytes that the Book keeps: its slice, and its number -/
structure BL where
  A : Option Addr
  n : Nat
  c : Nat
  num : Nat
def BL.v (b : BL) : Value := .slice b.A b.n b.c
/-- the mark of a list -/
def mk (num : Nat) : Value := .int .u8 ((1 + num % 250 : Nat) : Int)
/-- the cells of what is kept, before it is grown -/
def held0 (ls : List BL) : List Value := ls.flatMap fun b => [b.v, nilS, .int .i64 (b.num : Int)]

theorem held0_len (ls : List BL) : (held0 ls).length = ls.length * 3 := by
  induction ls with
  | nil => rfl
  | cons b ls ih =>
    have : held0 (b :: ls) = [b.v, nilS, .int .i64 (b.num : Int)] ++ held0 ls := by simp [held0]
    rw [this, List.length_append, ih]
    simp; omega
theorem held0_at (ls : List BL) (i j : Nat) (b : BL) (h : ls[i]? = some b) (hj : j < 3) : (held0 ls)[3 * i + j]? = [b.v, nilS, .int .i64 (b.num : Int)][j]? := by
  induction ls generalizing i with
  | nil => simp at h
  | cons x ls ih =>
    have e : held0 (x :: ls) = [x.v, nilS, .int .i64 (x.num : Int)] ++ held0 ls := by simp [held0]
    rw [e]
    cases i with
    | zero =>
      simp at h
      subst h
      rw [List.getElem?_append_left (by simp; omega)]
      simp
    | succ i =>
      simp at h
      rw [List.getElem?_append_right (by simp; omega)]
      have e2 : 3 * (i + 1) + j - [x.v, nilS, Value.int .i64 (x.num : Int)].length = 3 * i + j := by simp; omega
      rw [e2]
      exact ih i h
/-- no two lists share a block -/
def Dis (ls : List BL) : Prop := ∀ (i j : Nat) (bi bj : BL), i ≠ j → ls[i]? = some bi → ls[j]? = some bj → bi.v.ownBlock = none ∨ bi.v.ownBlock ≠ bj.v.ownBlock
/-- all are owned; the first m have their marks all over -/
def Filled (w : World) (base : Nat) (ls : List BL) (m : Nat) : Prop := ∀ (i : Nat) (b : BL), ls[i]? = some b → ∃ xs, w.ownsRow base 5 1 b.v b.n xs ∧ (i < m → xs = List.replicate b.n (mk b.num))

theorem markByte_any (n : Nat) (w : World) (hn : n ≤ 1000000) : Calls Tryz.prog 119 #[.int .i64 (n : Int)] w fun e w' => e = .returned (mk n) ∧ w = w' := by
  obtain ⟨r, hr⟩ : ∃ r, n % 250 = r := ⟨_, rfl⟩
  have hm : (n : Int) % 250 = (r : Int) := by omega
  have hrl : r < 250 := by omega
  have e : mk n = .int .u8 ((1 + r : Nat) : Int) := by unfold mk; rw [hr]
  rw [e]
  clear e hr
  have hw : (1 + (r : Int)) % 256 = 1 + (r : Int) := by omega
  go_enter Tryz.func119, Tryz.ntmps119
  go_wp2
  go_ret
  exact ⟨rfl, rfl⟩
theorem isByte_any (x n : Nat) (w : World) (hn : n ≤ 1000000) (hx : x = 1 + n % 250) : Calls Tryz.prog 132 #[.int .u8 (x : Int), .int .i64 (n : Int)] w fun e w' => e = .returned (.bool true) ∧ w = w' := by
  obtain ⟨r, hr⟩ : ∃ r, n % 250 = r := ⟨_, rfl⟩
  have hm : (n : Int) % 250 = (r : Int) := by omega
  have hrl : r < 250 := by omega
  rw [hr] at hx
  subst hx
  clear hr
  have hw : (1 + (r : Int)) % 256 = 1 + (r : Int) := by omega
  go_enter Tryz.func132, Tryz.ntmps132
  go_wp2
  go_ret
  exact ⟨rfl, rfl⟩
theorem bytes_any (g n k base : Nat) (vb : Value) (hs : List Value) (A : Option Addr) (nl c : Nat) (w : World) (hB : BookIs w g n vb) (hown : w.ownsRow base 128 3 vb k hs) (hbase : base ≤ w.heap.size) (hn : n ≤ 1000000) (hk : k ≤ 1000000) :
    Calls Tryz.prog 20 #[.pointer (some ⟨g, 0, none⟩), .slice A nl c] w fun e w' => e = .returned (.tuple #[]) ∧ ∃ vb', BookIs w' g (n + 1) vb' ∧
      w'.ownsRow base 128 3 vb' (k + 1) (hs ++ [.slice A nl c, nilS, .int .i64 ((n + 1 : Nat) : Int)]) ∧ Only w w' (some g) vb.ownBlock := by
  have H := Lib.hid (keepByte_any g n k base vb hs A nl c w hB hown hbase hn hk)
  clear hB hown
  go_enter Tryz.func20, Tryz.ntmps20
  go_wp2_with fail
  refine H.out.mono ?_
  rintro e w1 ⟨rfl, hr⟩
  have HR := Lib.hid hr; clear hr
  go_wp2
  go_end0
  exact ⟨rfl, HR.out⟩

/-- rows of unlike element types are unlike blocks -/
theorem own_ne {w : World} {b1 e1 k1 n1 b2 e2 k2 n2 : Nat} {v1 v2 : Value} {x1 x2 : List Value} (h1 : w.ownsRow b1 e1 k1 v1 n1 x1) (h2 : w.ownsRow b2 e2 k2 v2 n2 x2) (hne : e1 ≠ e2) : v1.ownBlock = none ∨ v1.ownBlock ≠ v2.ownBlock := by
  rcases h1.2 with ⟨rfl, _⟩ | ⟨g1, cap1, cur1, rfl, _, hh1, _⟩
  · exact .inl rfl
  · rcases h2.2 with ⟨rfl, _⟩ | ⟨g2, cap2, cur2, rfl, _, hh2, _⟩
    · exact .inr (by simp [Value.ownBlock])
    · refine .inr fun he => ?_
      have : g1 = g2 := by simpa [Value.ownBlock] using he
      subst this
      rw [hh1] at hh2
      injection hh2 with hh2
      injection hh2 with _ hh2
      exact hne hh2

/-- what the inner loop of fillByte keeps: the first q cells are marked -/
def QRel (w0 : World) (base : Nat) (A : Option Addr) (n c : Nat) (xs : List Value) (mv : Value) (i : Value) (wr : World) : Prop :=
  ∃ q : Nat, q ≤ n ∧ i = .int .i64 (q : Int) ∧ wr.ownsRow base 5 1 (.slice A n c) n (List.replicate q mv ++ xs.drop q) ∧ w0.grownBy wr (Value.slice A n c).ownBlock
theorem mark_set (q : Nat) (mv : Value) (xs : List Value) (h : q < xs.length) : (List.replicate q mv ++ xs.drop q).set q mv = List.replicate (q + 1) mv ++ xs.drop (q + 1) := by
  rw [List.set_append_right _ _ (by simp), List.length_replicate, Nat.sub_self, List.drop_eq_getElem_cons h, List.set_cons_zero, List.replicate_succ', List.append_assoc]
  rfl

/-- what the loops of fillByte keep -/
def FRel (w : World) (base g n : Nat) (vb : Value) (ls : List BL) (i : Value) (wr : World) : Prop :=
  ∃ m : Nat, m ≤ ls.length ∧ i = .int .i64 (m : Int) ∧ BookIs wr g n vb ∧ wr.ownsRow base 128 3 vb ls.length (held0 ls) ∧ Filled wr base ls m ∧ Below base w wr

set_option maxRecDepth 100000 in
set_option maxHeartbeats 4000000 in
theorem fillByte_any (g n base : Nat) (vb : Value) (ls : List BL) (w : World) (hB : BookIs w g n vb) (hown : w.ownsRow base 128 3 vb ls.length (held0 ls)) (hF : Filled w base ls 0) (hD : Dis ls) (hbase : base ≤ w.heap.size) (hl : ls.length ≤ 1000)
    (hb : ∀ b ∈ ls, b.n ≤ 1099511627776 ∧ b.num ≤ 1000000) :
    Calls Tryz.prog 63 #[.pointer (some ⟨g, 0, none⟩)] w fun e w' => e = .returned (.tuple #[]) ∧ FRel w base g n vb ls (.int .i64 (ls.length : Int)) w' := by
  have H0 : Hid (FRel w base g n vb ls (.int .i64 0) w) := ⟨0, Nat.zero_le _, rfl, hB, hown, hF, Below.refl _ _⟩
  have HD := Lib.hid hD; have HBD := Lib.hid hb
  clear hB hown hF hD hb
  go_enter Tryz.func63, Tryz.ntmps63
  go_wp2
  go_loopw [2] (fun i wr => FRel w base g n vb ls i wr) (fun i _ => ls.length - (intOf i).toNat)
  case atStart => exact H0.out
  case round =>
    clear H0
    obtain ⟨m, hm, rfl, hB, hown, hF, hbel⟩ := hrel
    have hc1 : wr.cell? ⟨g, 1, none⟩ = some vb := hB.cell 1
    obtain ⟨Av, cv, rfl, hncv, hcmv, _⟩ := own_shape hown
    have HB := Lib.hid hB; have HOWN := Lib.hid hown; have HF := Lib.hid hF; have HBEL := Lib.hid hbel
    clear hB hown hF hbel
    by_cases hlt : m < ls.length
    · obtain ⟨⟨bA, bn, bc, bnum⟩, hbm⟩ : ∃ b, ls[m]? = some b := ⟨ls[m], List.getElem?_eq_getElem hlt⟩
      have HBM := Lib.hid hbm
      obtain ⟨gv, hgv⟩ : ∃ gv, Av = some ⟨gv, 0, none⟩ := by
        rcases HOWN.out.2 with ⟨_, h0⟩ | ⟨g', cap, cur, hv, _⟩
        · omega
        · injection hv with h1 _ _; exact ⟨g', h1⟩
      subst hgv
      have k0 : wr.cell? ⟨gv, m * 3, none⟩ = some (.slice bA bn bc) := by rw [HOWN.out.cellAt (m * 3) (by omega), Nat.mul_comm]; exact held0_at ls m 0 _ hbm (by decide)
      have k1 : wr.cell? ⟨gv, m * 3 + 1, none⟩ = some (.slice none 0 0) := by rw [HOWN.out.cellAt (m * 3 + 1) (by omega), Nat.mul_comm]; exact held0_at ls m 1 _ hbm (by decide)
      have k2 : wr.cell? ⟨gv, m * 3 + 2, none⟩ = some (.int .i64 (bnum : Int)) := by rw [HOWN.out.cellAt (m * 3 + 2) (by omega), Nat.mul_comm]; exact held0_at ls m 2 _ hbm (by decide)
      have hcmv2 : cv ≤ 9223372036854775807 := hcmv
      have hbd := HBD.out _ (List.mem_of_getElem? hbm)
      have hbn : bn ≤ 1099511627776 := hbd.1
      have hbnum : bnum ≤ 1000000 := hbd.2
      obtain ⟨xs, hxs, _⟩ := HF.out m _ hbm
      have HXS := Lib.hid hxs
      clear hbm hcmv hbd hxs
      obtain ⟨wo, rfl⟩ : ∃ wo : World, wo = wr := ⟨_, rfl⟩
      obtain ⟨y, hy⟩ : ∃ y, 1 + bnum % 250 = y := ⟨_, rfl⟩
      have hyl : y < 256 := by omega
      have hmk : mk bnum = .int .u8 (y : Int) := by unfold mk; rw [hy]
      have HMK := Lib.hid hmk
      have HM : Hid (∀ W, Calls Tryz.prog 119 #[.int .i64 (bnum : Int)] W fun e w' => e = .returned (.int .u8 (y : Int)) ∧ W = w') := fun W => by
        have := markByte_any bnum W hbnum
        rw [hmk] at this
        exact this
      clear hy hmk
      go_wp2
      have hbox : (wo.alloc (.cells #[.slice bA bn bc, .slice none 0 0, .int .i64 (bnum : Int)] 128)).heap[wo.heap.size]? = some (.cells #[.slice bA bn bc, .slice none 0 0, .int .i64 (bnum : Int)] 128 (0, 0)) := heap_alloc_new wo _
      have hxs0 := HXS.out.alloc (.cells #[.slice bA bn bc, .slice none 0 0, .int .i64 (bnum : Int)] 128)
      have hg0 : wo.grownBy (wo.alloc (.cells #[.slice bA bn bc, .slice none 0 0, .int .i64 (bnum : Int)] 128)) none := World.grownBy_alloc wo _ none
      obtain ⟨w0, hw0⟩ : ∃ w0, wo.alloc (.cells #[.slice bA bn bc, .slice none 0 0, .int .i64 (bnum : Int)] 128) = w0 := ⟨_, rfl⟩
      rw [hw0] at hbox hxs0 hg0 ⊢
      have HBOX := Lib.hid hbox; have HG0 := Lib.hid hg0
      have hgh : some wo.heap.size ≠ (Value.slice bA bn bc).ownBlock := by
        intro he
        have := (HXS.out.lt wo.heap.size he.symm).2
        omega
      have HGH := Lib.hid hgh
      have Q0 : Hid (QRel w0 base bA bn bc xs (mk bnum) (.int .i64 0) w0) := ⟨0, Nat.zero_le _, rfl, hxs0, World.grownBy.refl _ _⟩
      clear hw0 hbox hxs0 hg0 hgh k0 k1 k2
      go_loopw [4] (fun i w2 => QRel w0 base bA bn bc xs (mk bnum) i w2) (fun i _ => bn - (intOf i).toNat)
      case atStart => exact Q0.out
      case round =>
        clear Q0
        obtain ⟨q, hq, rfl, hownq, hgq⟩ := hrel
        have hboxq := (hgq.block wo.heap.size (by have := (Array.getElem?_eq_some_iff.1 HBOX.out).1; exact this) HGH.out).trans HBOX.out
        have c0 : wr.cell? ⟨wo.heap.size, 0, none⟩ = some (.slice bA bn bc) := cell_of_row wr wo.heap.size 0 _ _ (0, 0) hboxq
        have c2 : wr.cell? ⟨wo.heap.size, 2, none⟩ = some (.int .i64 (bnum : Int)) := cell_of_row wr wo.heap.size 2 _ _ (0, 0) hboxq
        have HOQ := Lib.hid hownq; have HGQ := Lib.hid hgq
        clear hboxq hownq hgq
        by_cases hqn : q < bn
        · obtain ⟨gl, hgl⟩ : ∃ gl, bA = some ⟨gl, 0, none⟩ := by
            rcases HOQ.out.2 with ⟨_, h0⟩ | ⟨g', cap, cur, hv, _⟩
            · omega
            · injection hv with h1 _ _; exact ⟨g', h1⟩
          subst hgl
          have hxl : xs.length = bn := by have := HXS.out.1; omega
          obtain ⟨uq, huq⟩ : ∃ u, wr.cell? ⟨gl, q, none⟩ = some u := by
            rw [HOQ.out.cellAt q (by omega)]
            exact ⟨_, List.getElem?_eq_getElem (by simp; omega)⟩
          have hfq := HOQ.out.frozenAt q
          have hne : wo.heap.size ≠ gl := fun e => HGH.out (by rw [e]; rfl)
          have hne2 : gl ≠ wo.heap.size := fun e => hne e.symm
          have hst := HOQ.out.stored q (mk bnum)
          rw [mark_set q (mk bnum) xs (by omega)] at hst
          have R : Hid (∀ N : Nat, QRel w0 base (some ⟨gl, 0, none⟩) bn bc xs (mk bnum) (.int .i64 ((q : Int) + 1)) ((wr.setCell ⟨gl, q, none⟩ (mk bnum)).drewN N)) := fun N =>
            ⟨q + 1, hqn, by simp, hst.1, HGQ.out.trans ⟨hst.2.os, hst.2.tape, hst.2.output, hst.2.size, hst.2.block⟩⟩
          rw [HMK.out] at R
          have i1 : (q : Int) < (bn : Int) := by omega
          have i2 : (0 : Int) ≤ (q : Int) := by omega
          have s0 : (wr.setCell ⟨gl, q, none⟩ (.int .u8 (y : Int))).cell? ⟨wo.heap.size, 0, none⟩ = some (.slice (some ⟨gl, 0, none⟩) bn bc) := (World.cell?_setCell_other wr _ _ _ (fun e => by have := congrArg Addr.block e; simp at this; omega)).trans c0
          have s2 : (wr.setCell ⟨gl, q, none⟩ (.int .u8 (y : Int))).cell? ⟨wo.heap.size, 2, none⟩ = some (.int .i64 (bnum : Int)) := (World.cell?_setCell_other wr _ _ _ (fun e => by have := congrArg Addr.block e; simp at this; omega)).trans c2
          have S02 := Lib.hid (And.intro s0 s2)
          clear hst hxl s0 s2
          go_wp2
          go_region_held3 (fun w' => w'.cell? ⟨wo.heap.size, 0, none⟩ = some (.slice (some ⟨gl, 0, none⟩) bn bc) ∧ w'.cell? ⟨wo.heap.size, 2, none⟩ = some (.int .i64 (bnum : Int))) (first | exact ⟨c0, c2⟩ | exact S02.out)
            (first | (go_at_call 119; refine (HM.out _).mono ?_; rintro e w' ⟨rfl, rfl⟩))
          go_wp2
          go_roundw
          case rel => rw [HMK.out]; exact R.out 1
          case measure => simp [intOf]; omega
        · obtain rfl : q = bn := by omega
          have hxl : xs.length = q := by have := HXS.out.1; omega
          have hfin := HOQ.out
          rw [List.drop_eq_nil_of_le (by omega), List.append_nil] at hfin
          have hrow : ∀ j, (Value.slice bA q bc).ownBlock = some j → base ≤ j ∧ j < wo.heap.size := HXS.out.lt
          have hgw : wo.grownBy wr (Value.slice bA q bc).ownBlock := by
            refine ⟨HGQ.out.os.trans HG0.out.os, HGQ.out.tape.trans HG0.out.tape, HGQ.out.output.trans HG0.out.output, Nat.le_trans HG0.out.size HGQ.out.size, fun j hj hne => ?_⟩
            rw [HGQ.out.block j (Nat.lt_of_lt_of_le hj HG0.out.size) hne]
            exact HG0.out.block j hj (by simp)
          have R : Hid (FRel w base g n (.slice (some ⟨gv, 0, none⟩) ls.length cv) ls (.int .i64 ((m : Int) + 1)) wr) := by
            have hgb : some g ≠ (Value.slice bA q bc).ownBlock := HB.out.not_own HXS.out (by decide)
            have hov : (Value.slice (some ⟨gv, 0, none⟩) ls.length cv).ownBlock = none ∨ (Value.slice (some ⟨gv, 0, none⟩) ls.length cv).ownBlock ≠ (Value.slice bA q bc).ownBlock :=
              own_ne HOWN.out HXS.out (by decide)
            refine ⟨m + 1, hlt, by simp, HB.out.grown hgw hgb, HOWN.out.kept hgw hov, ?_, HBEL.out.grown hgw (Nat.le_trans hbase HBEL.out.size) (fun j hj => (hrow j hj).1)⟩
            intro i b hi
            by_cases him : i = m
            · subst him
              rw [HBM.out] at hi
              injection hi with hi
              subst hi
              exact ⟨_, hfin, fun _ => rfl⟩
            · obtain ⟨ys, hys, hys2⟩ := HF.out i b hi
              refine ⟨ys, hys.kept hgw (HD.out i m b _ him hi HBM.out), fun h => hys2 (by omega)⟩
          clear hfin hgw hrow hxl
          go_wp2
          go_roundw
          case rel => exact R.out
          case measure => simp [intOf]; omega
    · obtain rfl : m = ls.length := by omega
      have R : Hid (FRel w base g n (.slice Av ls.length cv) ls (.int .i64 (ls.length : Int)) wr) := ⟨ls.length, Nat.le_refl _, rfl, HB.out, HOWN.out, HF.out, HBEL.out⟩
      go_wp2
      go_end0
      exact ⟨rfl, R.out⟩
end Go.Proofs.YtbpdonnneleeeaaGreatDoor

namespace Go.Proofs.YtbpdonnneleeeaaGreatDoor
open Go.RowKit
set_option linter.unusedVariables false

/-- the cells of what is kept, with what was grown -/
def heldG (gs : List (BL × Value)) : List Value := gs.flatMap fun p => [p.1.v, p.2, .int .i64 (p.1.num : Int)]
theorem heldG_len (gs : List (BL × Value)) : (heldG gs).length = gs.length * 3 := by
  induction gs with
  | nil => rfl
  | cons b gs ih =>
    have : heldG (b :: gs) = [b.1.v, b.2, .int .i64 (b.1.num : Int)] ++ heldG gs := by simp [heldG]
    rw [this, List.length_append, ih]
    simp; omega
theorem heldG_at (gs : List (BL × Value)) (i j : Nat) (p : BL × Value) (h : gs[i]? = some p) (hj : j < 3) : (heldG gs)[3 * i + j]? = [p.1.v, p.2, .int .i64 (p.1.num : Int)][j]? := by
  induction gs generalizing i with
  | nil => simp at h
  | cons x gs ih =>
    have e : heldG (x :: gs) = [x.1.v, x.2, .int .i64 (x.1.num : Int)] ++ heldG gs := by simp [heldG]
    rw [e]
    cases i with
    | zero =>
      simp at h
      subst h
      rw [List.getElem?_append_left (by simp; omega)]
      simp
    | succ i =>
      simp at h
      rw [List.getElem?_append_right (by simp; omega)]
      have e2 : 3 * (i + 1) + j - [x.1.v, x.2, Value.int .i64 (x.1.num : Int)].length = 3 * i + j := by simp; omega
      rw [e2]
      exact ih i h
theorem heldG_set (gs : List (BL × Value)) (i : Nat) (b : BL) (lv u : Value) (h : gs[i]? = some (b, lv)) : (heldG gs).set (3 * i + 1) u = heldG (gs.set i (b, u)) := by
  induction gs generalizing i with
  | nil => simp at h
  | cons x gs ih =>
    have e : ∀ (y : BL × Value) (l : List (BL × Value)), heldG (y :: l) = [y.1.v, y.2, .int .i64 (y.1.num : Int)] ++ heldG l := by intro y l; simp [heldG]
    cases i with
    | zero =>
      simp at h
      subst h
      rw [List.set_cons_zero, e, e]
      rfl
    | succ i =>
      simp at h
      rw [List.set_cons_succ, e, e, ← ih i h, List.set_append_right _ _ (by simp; omega)]
      congr 2
theorem heldG_of0 (ls : List BL) : held0 ls = heldG (ls.map fun b => (b, nilS)) := by
  induction ls with
  | nil => rfl
  | cons b ls ih =>
    have e1 : held0 (b :: ls) = [b.v, nilS, .int .i64 (b.num : Int)] ++ held0 ls := by simp [held0]
    have e2 : heldG ((b :: ls).map fun b => (b, nilS)) = [b.v, nilS, .int .i64 (b.num : Int)] ++ heldG (ls.map fun b => (b, nilS)) := by simp [heldG]
    rw [e1, e2, ih]

/-- fewer elements of an owned row -/
theorem own_take {w : World} {base e m c g k : Nat} {xs : List Value} (h : w.ownsRow base e 1 (.slice (some ⟨g, 0, none⟩) m c) m xs) (hk : k ≤ m) : w.ownsRow base e 1 (.slice (some ⟨g, 0, none⟩) k c) k (xs.take k) := by
  have hl := h.1
  refine ⟨by simp; omega, ?_⟩
  rcases h.2 with ⟨h0, _⟩ | ⟨g', cap, cur, hv, hb, hh, h1, h2, h3, h4⟩
  · cases h0
  · injection hv with e1 e2 e3
    injection e1 with e1
    injection e1 with e1
    subst e1 e3
    refine .inr ⟨g, c, cur, rfl, hb, hh, by omega, h2, h3, ?_⟩
    rw [← h4, List.take_take]
    congr 1
    omega
/-- a list's own cells are its marks -/
def Marked (w : World) (base : Nat) (b : BL) : Prop := w.ownsRow base 5 1 b.v b.n (List.replicate b.n (mk b.num))

/-- what is known of list number i when the first m are grown -/
def Grw (w : World) (base : Nat) (gs : List (BL × Value)) (m : Nat) : Prop := ∀ (i : Nat) (b : BL) (lv : Value), gs[i]? = some (b, lv) →
  Marked w base b ∧ (i < m → w.ownsRow base 5 1 lv (b.n + 40) (List.replicate (b.n + 40) (mk b.num))) ∧ (m ≤ i → lv = nilS)
/-- 'o' is a block of list i -/
def Has (gs : List (BL × Value)) (i : Nat) (o : Nat) : Prop := ∃ b lv, gs[i]? = some (b, lv) ∧ (b.v.ownBlock = some o ∨ lv.ownBlock = some o)
/-- the blocks of unlike lists are unlike -/
def DisG (w : World) (gs : List (BL × Value)) : Prop := (∀ i j o, Has gs i o → Has gs j o → i = j) ∧ ∀ i o, Has gs i o → o < w.heap.size

/-- what the inner loop of growByte keeps -/
def GQ (w0 : World) (base : Nat) (b : BL) (v i : Value) (wr : World) : Prop :=
  ∃ (q : Nat) (A : Option Addr) (c : Nat), q ≤ 40 ∧ i = .int .i64 (q : Int) ∧ v = .slice A (b.n + q) c ∧ wr.ownsRow base 5 1 v (b.n + q) (List.replicate (b.n + q) (mk b.num)) ∧ Marked wr base b ∧
    w0.grownBy wr b.v.ownBlock ∧ (A = b.A ∧ c = b.c ∨ ∀ j, v.ownBlock = some j → w0.heap.size ≤ j)

/-- one more mark, in its place -/
theorem GQ.fits {w0 wr w' : World} {base q g c : Nat} {b : BL} {o : Obj} (hq : q < 40) (hlt : ∀ j, b.v.ownBlock = some j → j < w0.heap.size)
    (hM : Marked wr base b) (hG : w0.grownBy wr b.v.ownBlock) (hF : some ⟨g, 0, none⟩ = b.A ∧ c = b.c ∨ ∀ j, (Value.slice (some ⟨g, 0, none⟩) (b.n + q) c).ownBlock = some j → w0.heap.size ≤ j)
    (hown : w'.ownsRow base 5 1 (.slice (some ⟨g, 0, none⟩) (b.n + q + 1) c) (b.n + q + 1) (List.replicate (b.n + q) (mk b.num) ++ [mk b.num])) (hg : (wr.alloc o).grownBy w' (some g)) :
    GQ w0 base b (.slice (some ⟨g, 0, none⟩) (b.n + q + 1) c) (.int .i64 ((q : Int) + 1)) w' := by
  have hrep : List.replicate (b.n + q) (mk b.num) ++ [mk b.num] = List.replicate (b.n + (q + 1)) (mk b.num) := by rw [← List.replicate_succ']; rfl
  rw [hrep] at hown
  have hMa : Marked (wr.alloc o) base b := World.ownsRow.alloc hM o
  have hGa : w0.grownBy (wr.alloc o) b.v.ownBlock := hG.trans (World.grownBy_alloc wr o _)
  refine ⟨q + 1, some ⟨g, 0, none⟩, c, hq, by simp, rfl, hown, ?_, ?_, ?_⟩
  · rcases hF with ⟨h1, h2⟩ | h1
    · have h3 := own_take (k := b.n) hown (by omega)
      rw [List.take_replicate, Nat.min_eq_left (by omega), h1, h2] at h3
      exact h3
    · refine World.ownsRow.kept hMa hg ?_
      rcases hv : b.v.ownBlock with _ | j
      · exact .inl rfl
      · refine .inr fun he => ?_
        have h2 := hlt j hv
        have h3 := h1 g rfl
        injection he with he
        omega
  · refine ⟨hg.os.trans hGa.os, hg.tape.trans hGa.tape, hg.output.trans hGa.output, Nat.le_trans hGa.size hg.size, fun j hj hne => ?_⟩
    rw [hg.block j (Nat.lt_of_lt_of_le hj hGa.size) ?_]
    · exact hGa.block j hj hne
    · intro he
      injection he with he
      subst he
      rcases hF with ⟨h1, _⟩ | h1
      · apply hne
        unfold BL.v
        rw [← h1]; rfl
      · have := h1 j rfl
        omega
  · rcases hF with ⟨h1, h2⟩ | h1
    · exact .inl ⟨h1, h2⟩
    · exact .inr fun j hj => h1 j hj
/-- one more mark, elsewhere -/
theorem GQ.moves {w0 wr w' : World} {base q : Nat} {b : BL} {v' : Value} {o : Obj} (hq : q < 40) (hbase : base ≤ (wr.alloc o).heap.size) (hM : Marked wr base b) (hG : w0.grownBy wr b.v.ownBlock)
    (hown : w'.ownsRow (wr.alloc o).heap.size 5 1 v' (b.n + q + 1) (List.replicate (b.n + q) (mk b.num) ++ [mk b.num])) (hg : (wr.alloc o).grownBy w' none) :
    GQ w0 base b v' (.int .i64 ((q : Int) + 1)) w' := by
  have hrep : List.replicate (b.n + q) (mk b.num) ++ [mk b.num] = List.replicate (b.n + (q + 1)) (mk b.num) := by rw [← List.replicate_succ']; rfl
  rw [hrep] at hown
  have hGa : w0.grownBy (wr.alloc o) b.v.ownBlock := hG.trans (World.grownBy_alloc wr o _)
  obtain ⟨A, c, rfl, _⟩ := own_shape hown
  refine ⟨q + 1, A, c, hq, by simp, rfl, own_base hown hbase, World.ownsRow.kept (World.ownsRow.alloc hM o) hg (by cases b.v.ownBlock <;> simp), ?_, .inr fun j hj => ?_⟩
  · exact ⟨hg.os.trans hGa.os, hg.tape.trans hGa.tape, hg.output.trans hGa.output, Nat.le_trans hGa.size hg.size, fun j hj hne => by
      rw [hg.block j (Nat.lt_of_lt_of_le hj hGa.size) (by simp)]; exact hGa.block j hj hne⟩
  · exact Nat.le_trans hGa.size (hown.lt j hj).1

/-- a list is grown: what is known of all -/
theorem grow_step {w0 wr : World} {base m gv cv k : Nat} {gs : List (BL × Value)} {b : BL} {A : Option Addr} {c : Nat} {hs : List Value} (hbase : base ≤ w0.heap.size) (hG : Grw w0 base gs m) (hD : DisG w0 gs) (hm : gs[m]? = some (b, nilS))
    (hown : wr.ownsRow base 5 1 (.slice A (b.n + 40) c) (b.n + 40) (List.replicate (b.n + 40) (mk b.num))) (hM : Marked wr base b) (hgr : w0.grownBy wr b.v.ownBlock)
    (hF : A = b.A ∧ c = b.c ∨ ∀ j, (Value.slice A (b.n + 40) c).ownBlock = some j → w0.heap.size ≤ j) (hbk : wr.ownsRow base 128 3 (.slice (some ⟨gv, 0, none⟩) k cv) k hs) :
    Grw (wr.setCell ⟨gv, 3 * m + 1, none⟩ (.slice A (b.n + 40) c)) base (gs.set m (b, .slice A (b.n + 40) c)) (m + 1) ∧ DisG (wr.setCell ⟨gv, 3 * m + 1, none⟩ (.slice A (b.n + 40) c)) (gs.set m (b, .slice A (b.n + 40) c)) := by
  have hml : m < gs.length := by rcases List.getElem?_eq_some_iff.1 hm with ⟨h, _⟩; exact h
  have hset : ∀ {v : Value} {n : Nat} {xs : List Value}, wr.ownsRow base 5 1 v n xs → (wr.setCell ⟨gv, 3 * m + 1, none⟩ (.slice A (b.n + 40) c)).ownsRow base 5 1 v n xs := by
    intro v n xs h
    refine own_setOther h ?_ _
    rcases own_ne hbk h (by decide) with h1 | h1
    · cases h1
    · exact h1
  have hblk : ∀ {i o}, Has (gs.set m (b, .slice A (b.n + 40) c)) i o → Has gs i o ∨ i = m ∧ w0.heap.size ≤ o ∧ o < wr.heap.size := by
    rintro i o ⟨b', lv, hi, ho⟩
    by_cases him : i = m
    · subst him
      rw [List.getElem?_set_self hml] at hi
      injection hi with hi
      injection hi with h1 h2
      subst h1 h2
      rcases ho with ho | ho
      · exact .inl ⟨b, nilS, hm, .inl ho⟩
      · rcases hF with ⟨h1, h2⟩ | h1
        · refine .inl ⟨b, nilS, hm, .inl ?_⟩
          unfold BL.v
          rw [← h1]
          cases A with
          | none => cases ho
          | some a => exact ho
        · exact .inr ⟨rfl, h1 o ho, (hown.lt o ho).2⟩
    · rw [List.getElem?_set_ne (fun e => him e.symm)] at hi
      exact .inl ⟨b', lv, hi, ho⟩
  have hsz : (wr.setCell ⟨gv, 3 * m + 1, none⟩ (.slice A (b.n + 40) c)).heap.size = wr.heap.size := by simp [World.setCell]
  refine ⟨?_, ?_, ?_⟩
  · intro i b' lv hi
    by_cases him : i = m
    · subst him
      rw [List.getElem?_set_self hml] at hi
      injection hi with hi
      injection hi with h1 h2
      subst h1 h2
      exact ⟨hset hM, fun _ => hset hown, fun h => absurd h (by omega)⟩
    · rw [List.getElem?_set_ne (fun e => him e.symm)] at hi
      obtain ⟨g1, g2, g3⟩ := hG i b' lv hi
      have hne : ∀ v : Value, (∀ o, v.ownBlock = some o → Has gs i o) → v.ownBlock = none ∨ v.ownBlock ≠ b.v.ownBlock := by
        intro v hv
        rcases hvo : v.ownBlock with _ | o
        · exact .inl rfl
        · refine .inr fun he => him ?_
          exact hD.1 i m o (hv o hvo) ⟨b, nilS, hm, .inl he.symm⟩
      refine ⟨hset (World.ownsRow.kept g1 hgr (hne _ fun o ho => ⟨b', lv, hi, .inl ho⟩)), fun h => hset ((g2 (by omega)).kept hgr (hne _ fun o ho => ⟨b', lv, hi, .inr ho⟩)), fun h => g3 (by omega)⟩
  · intro i j o hi hj
    rcases hblk hi with h1 | ⟨h1, h2, _⟩
    · rcases hblk hj with h3 | ⟨h3, h4, _⟩
      · exact hD.1 i j o h1 h3
      · have := hD.2 i o h1; omega
    · rcases hblk hj with h3 | ⟨h3, h4, _⟩
      · have := hD.2 j o h3; omega
      · omega
  · intro i o hi
    rw [hsz]
    rcases hblk hi with h1 | ⟨_, _, h3⟩
    · exact Nat.lt_of_lt_of_le (hD.2 i o h1) hgr.size
    · exact h3

end Go.Proofs.YtbpdonnneleeeaaGreatDoor

namespace Go.Proofs.YtbpdonnneleeeaaGreatDoor
open Go.RowKit
set_option linter.unusedVariables false

/-- what the outer loop of growByte keeps -/
def GRelB (w : World) (base g n : Nat) (vb : Value) (ls : List BL) (i : Value) (wr : World) : Prop :=
  ∃ (m : Nat) (gs : List (BL × Value)), m ≤ ls.length ∧ i = .int .i64 (m : Int) ∧ gs.map Prod.fst = ls ∧ BookIs wr g n vb ∧ wr.ownsRow base 128 3 vb ls.length (heldG gs) ∧ Grw wr base gs m ∧ DisG wr gs ∧ Below base w wr

set_option maxRecDepth 100000 in
set_option maxHeartbeats 4000000 in
theorem growByte_any (g n base : Nat) (vb : Value) (ls : List BL) (gs0 : List (BL × Value)) (w : World) (hB : BookIs w g n vb) (hgs0 : gs0.map Prod.fst = ls) (hown : w.ownsRow base 128 3 vb ls.length (heldG gs0)) (hG : Grw w base gs0 0) (hD : DisG w gs0) (hbase : base ≤ w.heap.size) (hl : ls.length ≤ 1000)
    (hb : ∀ b ∈ ls, b.n ≤ 1099511627776 ∧ b.num ≤ 1000000) :
    Calls Tryz.prog 76 #[.pointer (some ⟨g, 0, none⟩)] w fun e w' => e = .returned (.tuple #[]) ∧ GRelB w base g n vb ls (.int .i64 (ls.length : Int)) w' := by
  obtain ⟨i0, hi, hz0, hz1, hz2⟩ := info_parts byte_info
  have H0 : Hid (GRelB w base g n vb ls (.int .i64 0) w) := ⟨0, gs0, Nat.zero_le _, rfl, hgs0, hB, hown, hG, hD, Below.refl _ _⟩
  have HBD := Lib.hid hb
  clear hB hown hG hD hb hgs0
  go_enter Tryz.func76, Tryz.ntmps76
  go_wp2
  go_loopw [2] (fun i wr => GRelB w base g n vb ls i wr) (fun i _ => ls.length - (intOf i).toNat)
  case atStart => exact H0.out
  case round =>
    clear H0
    obtain ⟨m, gs, hm, rfl, hgs, hB, hown, hG, hD, hbel⟩ := hrel
    have hc1 : wr.cell? ⟨g, 1, none⟩ = some vb := hB.cell 1
    obtain ⟨Av, cv, rfl, hncv, hcmv, _⟩ := own_shape hown
    have HGS := Lib.hid hgs; have HB := Lib.hid hB; have HOWN := Lib.hid hown; have HG := Lib.hid hG; have HD := Lib.hid hD; have HBEL := Lib.hid hbel
    clear hgs hB hown hG hD hbel
    by_cases hlt : m < ls.length
    · have hgl : gs.length = ls.length := by rw [← HGS.out]; simp
      obtain ⟨⟨⟨bA, bn, bc, bnum⟩, lv⟩, hbm⟩ : ∃ p, gs[m]? = some p := ⟨gs[m]'(by omega), List.getElem?_eq_getElem (by omega)⟩
      obtain ⟨hMk, _, hnil⟩ := HG.out m _ _ hbm
      have hlv := hnil (Nat.le_refl _)
      subst hlv
      have HBM := Lib.hid hbm
      obtain ⟨gv, hgv⟩ : ∃ gv, Av = some ⟨gv, 0, none⟩ := by
        rcases HOWN.out.2 with ⟨_, h0⟩ | ⟨g', cap, cur, hv, _⟩
        · omega
        · injection hv with h1 _ _; exact ⟨g', h1⟩
      subst hgv
      have k0 : wr.cell? ⟨gv, m * 3, none⟩ = some (.slice bA bn bc) := by rw [HOWN.out.cellAt (m * 3) (by omega), Nat.mul_comm]; exact heldG_at gs m 0 _ hbm (by decide)
      have k1 : wr.cell? ⟨gv, m * 3 + 1, none⟩ = some (.slice none 0 0) := by rw [HOWN.out.cellAt (m * 3 + 1) (by omega), Nat.mul_comm]; exact heldG_at gs m 1 _ hbm (by decide)
      have k2 : wr.cell? ⟨gv, m * 3 + 2, none⟩ = some (.int .i64 (bnum : Int)) := by rw [HOWN.out.cellAt (m * 3 + 2) (by omega), Nat.mul_comm]; exact heldG_at gs m 2 _ hbm (by decide)
      have hcmv2 : cv ≤ 9223372036854775807 := hcmv
      have hmem : (⟨bA, bn, bc, bnum⟩ : BL) ∈ ls := by rw [← HGS.out]; exact List.mem_map_of_mem (f := Prod.fst) (List.mem_of_getElem? hbm)
      have hbd := HBD.out _ hmem
      have hbn : bn ≤ 1099511627776 := hbd.1
      have hbnum : bnum ≤ 1000000 := hbd.2
      have HMARK := Lib.hid hMk
      clear hbm hcmv hbd hMk hnil hmem hgl
      obtain ⟨wo, rfl⟩ : ∃ wo : World, wo = wr := ⟨_, rfl⟩
      obtain ⟨y, hy⟩ : ∃ y, 1 + bnum % 250 = y := ⟨_, rfl⟩
      have hyl : y < 256 := by omega
      have hmk : mk bnum = .int .u8 (y : Int) := by unfold mk; rw [hy]
      have HMK := Lib.hid hmk
      have HM : Hid (∀ W, Calls Tryz.prog 119 #[.int .i64 (bnum : Int)] W fun e w' => e = .returned (.int .u8 (y : Int)) ∧ W = w') := fun W => by
        have := markByte_any bnum W hbnum
        rw [hmk] at this
        exact this
      clear hy hmk
      have hbox : (wo.alloc (.cells #[.slice bA bn bc, .slice none 0 0, .int .i64 (bnum : Int)] 128)).heap[wo.heap.size]? = some (.cells #[.slice bA bn bc, .slice none 0 0, .int .i64 (bnum : Int)] 128 (0, 0)) := heap_alloc_new wo _
      have hMk0 : Marked (wo.alloc (.cells #[.slice bA bn bc, .slice none 0 0, .int .i64 (bnum : Int)] 128)) base ⟨bA, bn, bc, bnum⟩ := World.ownsRow.alloc HMARK.out _
      have hg0 : wo.grownBy (wo.alloc (.cells #[.slice bA bn bc, .slice none 0 0, .int .i64 (bnum : Int)] 128)) none := World.grownBy_alloc wo _ none
      obtain ⟨w0, hw0⟩ : ∃ w0, w0 = wo.alloc (.cells #[.slice bA bn bc, .slice none 0 0, .int .i64 (bnum : Int)] 128) := ⟨_, rfl⟩
      rw [← hw0] at hbox hMk0 hg0
      have HBOX := Lib.hid hbox; have HG0 := Lib.hid hg0; have HMK0 := Lib.hid hMk0
      have HW0 := Lib.hid hw0
      have hgh : some wo.heap.size ≠ (Value.slice bA bn bc).ownBlock := by
        intro he
        have := (World.ownsRow.lt HMARK.out wo.heap.size he.symm).2
        omega
      have HGH := Lib.hid hgh
      have Q0 : Hid (GQ w0 base ⟨bA, bn, bc, bnum⟩ (.slice bA bn bc) (.int .i64 0) w0) := ⟨0, bA, bc, Nat.zero_le _, rfl, rfl, hMk0, hMk0, World.grownBy.refl _ _, .inl ⟨rfl, rfl⟩⟩
      clear hbox hMk0 hg0 hgh hw0
      go_wp2
      rw [← HW0.out]
      go_loopw [4, 5] (fun v i w2 => GQ w0 base ⟨bA, bn, bc, bnum⟩ v i w2) (fun _ i _ => 40 - (intOf i).toNat)
      case atStart => exact Q0.out
      case round =>
        clear Q0 k0 k1 k2 hc1
        obtain ⟨q, A, c, hq, rfl, rfl, hownq, hMq, hgq, hFq⟩ := hrel
        have hownq' : wr.ownsRow base 5 1 (.slice A (bn + q) c) (bn + q) (List.replicate (bn + q) (mk bnum)) := hownq
        have hboxq := (hgq.block wo.heap.size (by have := (Array.getElem?_eq_some_iff.1 HBOX.out).1; exact this) HGH.out).trans HBOX.out
        have c2 : wr.cell? ⟨wo.heap.size, 2, none⟩ = some (.int .i64 (bnum : Int)) := cell_of_row wr wo.heap.size 2 _ _ (0, 0) hboxq
        have hbs : base ≤ wr.heap.size := by
          have h1 := HBEL.out.size
          have h2 := HG0.out.size
          have h3 := hgq.size
          omega
        have HOQ := Lib.hid hownq'; have HMQ := Lib.hid hMq; have HGQ := Lib.hid hgq; have HFQ := Lib.hid hFq
        have hltb : Hid (∀ j, (BL.v ⟨bA, bn, bc, bnum⟩).ownBlock = some j → j < w0.heap.size) := fun j hj => (World.ownsRow.lt HMK0.out j hj).2
        clear hownq hownq' hMq hgq hFq hboxq
        by_cases hqn : q < 40
        · by_cases hfit : bn + q + 1 ≤ c
          · obtain ⟨gl, hgl⟩ : ∃ gl, A = some ⟨gl, 0, none⟩ := by
              rcases HOQ.out.2 with ⟨h0, _⟩ | ⟨g', cap, cur, hv, _⟩
              · injection h0 with _ _ h2; omega
              · injection hv with h1 _ _; exact ⟨g', h1⟩
            subst hgl
            have ho1 := HOQ.out.alloc (.cells #[.int .u8 (y : Int)] 5)
            go_wp2_with (first
              | (go_at_call 119; refine (HM.out _).mono ?_; rintro e w' ⟨rfl, rfl⟩)
              | (at_builtin; refine wpList_append_fits _ rfl (.tmp 28) (.tmp 32) 46 rfl base 5 i0 1 Tryz.underlying46 hi hz1 gl (bn + q) c _ rfl ho1 ⟨wr.heap.size, 0, none⟩ 1 1 [.int .u8 (y : Int)] rfl rfl ?c1 ?c2 hfit ?_))
            case c1 =>
              intro j u hu
              obtain ⟨ad, v, e1, _, hx, hcc⟩ := (one_lies (w := wr) rfl (.int .u8 (y : Int)) 5).spot j (by rcases List.getElem?_eq_some_iff.1 hu with ⟨h, _⟩; exact h)
              injection e1 with e1
              subst e1
              rw [hu] at hx
              injection hx with hx
              subst hx
              exact hcc
            case c2 => intro u hu; simp at hu; subst hu; rfl
            intro w3 hown3 hg3
            rw [← HMK.out] at hown3
            have R := Lib.hid (GQ.fits (b := ⟨bA, bn, bc, bnum⟩) hqn hltb.out HMQ.out HGQ.out HFQ.out hown3 hg3)
            clear hown3 hg3 ho1 c2
            go_wp2
            go_roundw
            case rel => exact R.out
            case measure => simp [intOf]; omega
          · have hcn : c < bn + q + 1 := by omega
            have hnone : A = none → bn + q = 0 ∧ c = 0 := by
              intro hA
              rcases HOQ.out.2 with ⟨h0, h1⟩ | ⟨g', cap, cur, hv, _⟩
              · injection h0 with _ _ h2; exact ⟨h1, h2⟩
              · injection hv with h1 _ _; rw [hA] at h1; cases h1
            have hcells : ∀ b, A = some b → ∀ (j : Nat) (u : Value), (List.replicate (bn + q) (mk bnum))[j]? = some u → (wr.alloc (.cells #[.int .u8 (y : Int)] 5)).cell? (b.add j) = some u := by
              intro b hb j u hu
              obtain ⟨ad, v, e1, hbb, hx, hcc⟩ := (Lies.of_own HOQ.out).spot j (by rcases List.getElem?_eq_some_iff.1 hu with ⟨h, _⟩; exact h)
              rw [hb] at e1
              injection e1 with e1
              subst e1
              rw [hu] at hx
              injection hx with hx
              subst hx
              rw [World.cell?_alloc_lt _ _ _ (by rw [add_block]; exact hbb)]
              exact hcc
            have HCELLS := Lib.hid hcells; have HNONE := Lib.hid hnone
            clear hcells hnone
            go_wp2_with (first
              | (go_at_call 119; refine (HM.out _).mono ?_; rintro e w' ⟨rfl, rfl⟩)
              | (at_builtin; refine wpList_append_grows _ rfl (.tmp 28) (.tmp 32) 46 rfl 5 i0 _ 1 1 Tryz.underlying46 hi hz0 hz1 hz2 rfl (by decide) A (bn + q) c (List.replicate (bn + q) (mk bnum)) rfl HNONE.out (by simp) HCELLS.out ⟨wr.heap.size, 0, none⟩ 1 1 [.int .u8 (y : Int)] rfl rfl ?d1 ?d2 hcn (by unfold maxLen; omega) (by omega) ?_))
            case d1 =>
              intro j u hu
              obtain ⟨ad, v, e1, _, hx, hcc⟩ := (one_lies (w := wr) rfl (.int .u8 (y : Int)) 5).spot j (by rcases List.getElem?_eq_some_iff.1 hu with ⟨h, _⟩; exact h)
              injection e1 with e1
              subst e1
              rw [hu] at hx
              injection hx with hx
              subst hx
              exact hcc
            case d2 => intro u hu; simp at hu; subst hu; rfl
            intro v3 w3 hown3 hg3
            rw [← HMK.out] at hown3
            have hown4 : w3.ownsRow (wr.alloc (.cells #[.int .u8 (y : Int)] 5)).heap.size 5 1 v3 (bn + q + 1) (List.replicate (bn + q) (mk bnum) ++ [mk bnum]) := by rw [World.size_alloc]; exact hown3
            have R := Lib.hid (GQ.moves (b := ⟨bA, bn, bc, bnum⟩) hqn (by simp; omega) HMQ.out HGQ.out hown4 hg3)
            clear hown4
            clear hown3 hg3 c2
            go_wp2
            go_roundw
            case rel => exact R.out
            case measure => simp [intOf]; omega
        · obtain rfl : q = 40 := by omega
          have hgw : wo.grownBy wr (Value.slice bA bn bc).ownBlock := by
            refine ⟨HGQ.out.os.trans HG0.out.os, HGQ.out.tape.trans HG0.out.tape, HGQ.out.output.trans HG0.out.output, Nat.le_trans HG0.out.size HGQ.out.size, fun j hj hne => ?_⟩
            rw [HGQ.out.block j (Nat.lt_of_lt_of_le hj HG0.out.size) hne]
            exact HG0.out.block j hj (by simp)
          have hBw : BookIs wr g n (.slice (some ⟨gv, 0, none⟩) ls.length cv) := HB.out.grown hgw (HB.out.not_own HMARK.out (by decide))
          have hOw := HOWN.out.kept hgw (own_ne HOWN.out HMARK.out (by decide))
          have hFw : A = bA ∧ c = bc ∨ ∀ j, (Value.slice A (bn + 40) c).ownBlock = some j → wo.heap.size ≤ j := by
            rcases HFQ.out with h | h
            · exact .inl h
            · exact .inr fun j hj => Nat.le_trans HG0.out.size (h j hj)
          have hst := grow_step (b := ⟨bA, bn, bc, bnum⟩) (Nat.le_trans hbase HBEL.out.size) HG.out HD.out HBM.out HOQ.out HMQ.out hgw hFw hOw
          have hsto := hOw.stored (3 * m + 1) (.slice A (bn + 40) c)
          rw [heldG_set gs m _ _ _ HBM.out] at hsto
          have R : Hid (GRelB w base g n (.slice (some ⟨gv, 0, none⟩) ls.length cv) ls (.int .i64 ((m : Int) + 1)) (wr.setCell ⟨gv, m * 3 + 1, none⟩ (.slice A (bn + 40) c))) := by
            rw [Nat.mul_comm m 3]
            refine ⟨m + 1, gs.set m (⟨bA, bn, bc, bnum⟩, .slice A (bn + 40) c), hlt, by simp, ?_, hBw.grown hsto.2 (hBw.not_own hOw (by decide)), hsto.1, hst.1, hst.2, ?_⟩
            · rw [List.map_set, HGS.out]
              apply List.ext_getElem?
              intro i
              by_cases him : i = m
              · subst him
                rw [List.getElem?_set_self hlt, ← HGS.out, List.getElem?_map, HBM.out]; rfl
              · rw [List.getElem?_set_ne (fun e => him e.symm)]
            · refine (HBEL.out.grown hgw (Nat.le_trans hbase HBEL.out.size) (fun j hj => (World.ownsRow.lt HMARK.out j hj).1)).setCell (p := ⟨gv, 3 * m + 1, none⟩) ?_ _
              exact (HOWN.out.lt gv rfl).1
          have hcb : wr.cell? ⟨g, 1, none⟩ = some (.slice (some ⟨gv, 0, none⟩) ls.length cv) := hBw.cell 1
          obtain ⟨uo, huo⟩ : ∃ u, wr.cell? ⟨gv, m * 3 + 1, none⟩ = some u := by
            rw [hOw.cellAt (m * 3 + 1) (by omega)]
            exact ⟨_, List.getElem?_eq_getElem (by have := hOw.1; omega)⟩
          have hfo := hOw.frozenAt (m * 3 + 1)
          clear hst hsto hgw hBw hOw hFw c2
          go_wp2
          go_roundw
          case rel => exact R.out
          case measure => simp [intOf]; omega
    · obtain rfl : m = ls.length := by omega
      have R : Hid (GRelB w base g n (.slice Av ls.length cv) ls (.int .i64 (ls.length : Int)) wr) := ⟨ls.length, gs, Nat.le_refl _, rfl, HGS.out, HB.out, HOWN.out, HG.out, HD.out, HBEL.out⟩
      go_wp2
      go_end0
      exact ⟨rfl, R.out⟩
end Go.Proofs.YtbpdonnneleeeaaGreatDoor

