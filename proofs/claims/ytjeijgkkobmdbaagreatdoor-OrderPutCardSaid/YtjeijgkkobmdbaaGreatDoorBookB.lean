/-
  The laws' Book: markByte, isByte, Bytes, fillByte.
-/
import Derived.Test.YtjeijgkkobmdbaaGreatDoorBookA
import Derived.Deep.RegionHeld3
namespace Go.Proofs.YtjeijgkkobmdbaaGreatDoor
open Go.RowKit
set_option linter.unusedVariables false

/-- a list of bytes that the Book keeps: its slice, and its number -/
structure BL where
  A : Option Addr
  n : Nat
  c : Nat
  num : Nat
def BL.v (b : BL) : Value := .slice b.A b.n b.c
/-- the mark of a list -/
def mk (num : Nat) : Value := .int .u8 ((1 + num % 250 : Nat) : Int)
/-- the cells of what is kept, before it is grown -/
def held0 (ls : List BL) : List Value := ls.flatMap fun b => [b.v, nilS, .int .i64 (b.num : Int)]

theorem held0_len (ls : List BL) : (held0 ls).length = ls.length * 3 := by
  induction ls with
  | nil => rfl
  | cons b ls ih =>
    have : held0 (b :: ls) = [b.v, nilS, .int .i64 (b.num : Int)] ++ held0 ls := by simp [held0]
    rw [this, List.length_append, ih]
    simp; omega
theorem held0_at (ls : List BL) (i j : Nat) (b : BL) (h : ls[i]? = some b) (hj : j < 3) : (held0 ls)[3 * i + j]? = [b.v, nilS, .int .i64 (b.num : Int)][j]? := by
  induction ls generalizing i with
  | nil => simp at h
  | cons x ls ih =>
    have e : held0 (x :: ls) = [x.v, nilS, .int .i64 (x.num : Int)] ++ held0 ls := by simp [held0]
    rw [e]
    cases i with
    | zero =>
      simp at h
      subst h
      rw [List.getElem?_append_left (by simp; omega)]
      simp
    | succ i =>
      simp at h
      rw [List.getElem?_append_right (by simp; omega)]
      have e2 : 3 * (i + 1) + j - [x.v, nilS, Value.int .i64 (x.num : Int)].length = 3 * i + j := by simp; omega
      rw [e2]
      exact ih i h
/-- no two lists share a block -/
def Dis (ls : List BL) : Prop := ∀ (i j : Nat) (bi bj : BL), i ≠ j → ls[i]? = some bi → ls[j]? = some bj → bi.v.ownBlock = none ∨ bi.v.ownBlock ≠ bj.v.ownBlock
/-- all are owned; the first m have their marks all over -/
def Filled (w : World) (base : Nat) (ls : List BL) (m : Nat) : Prop := ∀ (i : Nat) (b : BL), ls[i]? = some b → ∃ xs, w.ownsRow base 5 1 b.v b.n xs ∧ (i < m → xs = List.replicate b.n (mk b.num))

theorem markByte_any (n : Nat) (w : World) (hn : n ≤ 1000000) : Calls Tryz.prog 61 #[.int .i64 (n : Int)] w fun e w' => e = .returned (mk n) ∧ w = w' := by
  obtain ⟨r, hr⟩ : ∃ r, n % 250 = r := ⟨_, rfl⟩
  have hm : (n : Int) % 250 = (r : Int) := by omega
  have hrl : r < 250 := by omega
  have e : mk n = .int .u8 ((1 + r : Nat) : Int) := by unfold mk; rw [hr]
  rw [e]
  clear e hr
  have hw : (1 + (r : Int)) % 256 = 1 + (r : Int) := by omega
  go_enter Tryz.func61, Tryz.ntmps61
  go_wp2
  go_ret
  exact ⟨rfl, rfl⟩
theorem isByte_any (x n : Nat) (w : World) (hn : n ≤ 1000000) (hx : x = 1 + n % 250) : Calls Tryz.prog 74 #[.int .u8 (x : Int), .int .i64 (n : Int)] w fun e w' => e = .returned (.bool true) ∧ w = w' := by
  obtain ⟨r, hr⟩ : ∃ r, n % 250 = r := ⟨_, rfl⟩
  have hm : (n : Int) % 250 = (r : Int) := by omega
  have hrl : r < 250 := by omega
  rw [hr] at hx
  subst hx
  clear hr
  have hw : (1 + (r : Int)) % 256 = 1 + (r : Int) := by omega
  go_enter Tryz.func74, Tryz.ntmps74
  go_wp2
  go_ret
  exact ⟨rfl, rfl⟩
theorem bytes_any (g n k base : Nat) (vb : Value) (hs : List Value) (A : Option Addr) (nl c : Nat) (w : World) (hB : BookIs w g n vb) (hown : w.ownsRow base 61 3 vb k hs) (hbase : base ≤ w.heap.size) (hn : n ≤ 1000000) (hk : k ≤ 1000000) :
    Calls Tryz.prog 10 #[.pointer (some ⟨g, 0, none⟩), .slice A nl c] w fun e w' => e = .returned (.tuple #[]) ∧ ∃ vb', BookIs w' g (n + 1) vb' ∧
      w'.ownsRow base 61 3 vb' (k + 1) (hs ++ [.slice A nl c, nilS, .int .i64 ((n + 1 : Nat) : Int)]) ∧ Only w w' (some g) vb.ownBlock := by
  have H := Lib.hid (keepByte_any g n k base vb hs A nl c w hB hown hbase hn hk)
  clear hB hown
  go_enter Tryz.func10, Tryz.ntmps10
  go_wp2_with fail
  refine H.out.mono ?_
  rintro e w1 ⟨rfl, hr⟩
  have HR := Lib.hid hr; clear hr
  go_wp2
  go_end0
  exact ⟨rfl, HR.out⟩

/-- rows of unlike element types are unlike blocks -/
theorem own_ne {w : World} {b1 e1 k1 n1 b2 e2 k2 n2 : Nat} {v1 v2 : Value} {x1 x2 : List Value} (h1 : w.ownsRow b1 e1 k1 v1 n1 x1) (h2 : w.ownsRow b2 e2 k2 v2 n2 x2) (hne : e1 ≠ e2) : v1.ownBlock = none ∨ v1.ownBlock ≠ v2.ownBlock := by
  rcases h1.2 with ⟨rfl, _⟩ | ⟨g1, cap1, cur1, rfl, _, hh1, _⟩
  · exact .inl rfl
  · rcases h2.2 with ⟨rfl, _⟩ | ⟨g2, cap2, cur2, rfl, _, hh2, _⟩
    · exact .inr (by simp [Value.ownBlock])
    · refine .inr fun he => ?_
      have : g1 = g2 := by simpa [Value.ownBlock] using he
      subst this
      rw [hh1] at hh2
      injection hh2 with hh2
      injection hh2 with _ hh2
      exact hne hh2

/-- what the inner loop of fillByte keeps: the first q cells are marked -/
def QRel (w0 : World) (base : Nat) (A : Option Addr) (n c : Nat) (xs : List Value) (mv : Value) (i : Value) (wr : World) : Prop :=
  ∃ q : Nat, q ≤ n ∧ i = .int .i64 (q : Int) ∧ wr.ownsRow base 5 1 (.slice A n c) n (List.replicate q mv ++ xs.drop q) ∧ w0.grownBy wr (Value.slice A n c).ownBlock
theorem mark_set (q : Nat) (mv : Value) (xs : List Value) (h : q < xs.length) : (List.replicate q mv ++ xs.drop q).set q mv = List.replicate (q + 1) mv ++ xs.drop (q + 1) := by
  rw [List.set_append_right _ _ (by simp), List.length_replicate, Nat.sub_self, List.drop_eq_getElem_cons h, List.set_cons_zero, List.replicate_succ', List.append_assoc]
  rfl

/-- what the loops of fillByte keep -/
def FRel (w : World) (base g n : Nat) (vb : Value) (ls : List BL) (i : Value) (wr : World) : Prop :=
  ∃ m : Nat, m ≤ ls.length ∧ i = .int .i64 (m : Int) ∧ BookIs wr g n vb ∧ wr.ownsRow base 61 3 vb ls.length (held0 ls) ∧ Filled wr base ls m ∧ Below base w wr

set_option maxRecDepth 100000 in
set_option maxHeartbeats 4000000 in
theorem fillByte_any (g n base : Nat) (vb : Value) (ls : List BL) (w : World) (hB : BookIs w g n vb) (hown : w.ownsRow base 61 3 vb ls.length (held0 ls)) (hF : Filled w base ls 0) (hD : Dis ls) (hbase : base ≤ w.heap.size) (hl : ls.length ≤ 1000)
    (hb : ∀ b ∈ ls, b.n ≤ 1099511627776 ∧ b.num ≤ 1000000) :
    Calls Tryz.prog 19 #[.pointer (some ⟨g, 0, none⟩)] w fun e w' => e = .returned (.tuple #[]) ∧ FRel w base g n vb ls (.int .i64 (ls.length : Int)) w' := by
  have H0 : Hid (FRel w base g n vb ls (.int .i64 0) w) := ⟨0, Nat.zero_le _, rfl, hB, hown, hF, Below.refl _ _⟩
  have HD := Lib.hid hD; have HBD := Lib.hid hb
  clear hB hown hF hD hb
  go_enter Tryz.func19, Tryz.ntmps19
  go_wp2
  go_loopw [2] (fun i wr => FRel w base g n vb ls i wr) (fun i _ => ls.length - (intOf i).toNat)
  case atStart => exact H0.out
  case round =>
    clear H0
    obtain ⟨m, hm, rfl, hB, hown, hF, hbel⟩ := hrel
    have hc1 : wr.cell? ⟨g, 1, none⟩ = some vb := hB.cell 1
    obtain ⟨Av, cv, rfl, hncv, hcmv, _⟩ := own_shape hown
    have HB := Lib.hid hB; have HOWN := Lib.hid hown; have HF := Lib.hid hF; have HBEL := Lib.hid hbel
    clear hB hown hF hbel
    by_cases hlt : m < ls.length
    · obtain ⟨⟨bA, bn, bc, bnum⟩, hbm⟩ : ∃ b, ls[m]? = some b := ⟨ls[m], List.getElem?_eq_getElem hlt⟩
      have HBM := Lib.hid hbm
      obtain ⟨gv, hgv⟩ : ∃ gv, Av = some ⟨gv, 0, none⟩ := by
        rcases HOWN.out.2 with ⟨_, h0⟩ | ⟨g', cap, cur, hv, _⟩
        · omega
        · injection hv with h1 _ _; exact ⟨g', h1⟩
      subst hgv
      have k0 : wr.cell? ⟨gv, m * 3, none⟩ = some (.slice bA bn bc) := by rw [HOWN.out.cellAt (m * 3) (by omega), Nat.mul_comm]; exact held0_at ls m 0 _ hbm (by decide)
      have k1 : wr.cell? ⟨gv, m * 3 + 1, none⟩ = some (.slice none 0 0) := by rw [HOWN.out.cellAt (m * 3 + 1) (by omega), Nat.mul_comm]; exact held0_at ls m 1 _ hbm (by decide)
      have k2 : wr.cell? ⟨gv, m * 3 + 2, none⟩ = some (.int .i64 (bnum : Int)) := by rw [HOWN.out.cellAt (m * 3 + 2) (by omega), Nat.mul_comm]; exact held0_at ls m 2 _ hbm (by decide)
      have hcmv2 : cv ≤ 9223372036854775807 := hcmv
      have hbd := HBD.out _ (List.mem_of_getElem? hbm)
      have hbn : bn ≤ 1099511627776 := hbd.1
      have hbnum : bnum ≤ 1000000 := hbd.2
      obtain ⟨xs, hxs, _⟩ := HF.out m _ hbm
      have HXS := Lib.hid hxs
      clear hbm hcmv hbd hxs
      obtain ⟨wo, rfl⟩ : ∃ wo : World, wo = wr := ⟨_, rfl⟩
      obtain ⟨y, hy⟩ : ∃ y, 1 + bnum % 250 = y := ⟨_, rfl⟩
      have hyl : y < 256 := by omega
      have hmk : mk bnum = .int .u8 (y : Int) := by unfold mk; rw [hy]
      have HMK := Lib.hid hmk
      have HM : Hid (∀ W, Calls Tryz.prog 61 #[.int .i64 (bnum : Int)] W fun e w' => e = .returned (.int .u8 (y : Int)) ∧ W = w') := fun W => by
        have := markByte_any bnum W hbnum
        rw [hmk] at this
        exact this
      clear hy hmk
      go_wp2
      have hbox : (wo.alloc (.cells #[.slice bA bn bc, .slice none 0 0, .int .i64 (bnum : Int)] 61)).heap[wo.heap.size]? = some (.cells #[.slice bA bn bc, .slice none 0 0, .int .i64 (bnum : Int)] 61 (0, 0)) := heap_alloc_new wo _
      have hxs0 := HXS.out.alloc (.cells #[.slice bA bn bc, .slice none 0 0, .int .i64 (bnum : Int)] 61)
      have hg0 : wo.grownBy (wo.alloc (.cells #[.slice bA bn bc, .slice none 0 0, .int .i64 (bnum : Int)] 61)) none := World.grownBy_alloc wo _ none
      obtain ⟨w0, hw0⟩ : ∃ w0, wo.alloc (.cells #[.slice bA bn bc, .slice none 0 0, .int .i64 (bnum : Int)] 61) = w0 := ⟨_, rfl⟩
      rw [hw0] at hbox hxs0 hg0 ⊢
      have HBOX := Lib.hid hbox; have HG0 := Lib.hid hg0
      have hgh : some wo.heap.size ≠ (Value.slice bA bn bc).ownBlock := by
        intro he
        have := (HXS.out.lt wo.heap.size he.symm).2
        omega
      have HGH := Lib.hid hgh
      have Q0 : Hid (QRel w0 base bA bn bc xs (mk bnum) (.int .i64 0) w0) := ⟨0, Nat.zero_le _, rfl, hxs0, World.grownBy.refl _ _⟩
      clear hw0 hbox hxs0 hg0 hgh k0 k1 k2
      go_loopw [4] (fun i w2 => QRel w0 base bA bn bc xs (mk bnum) i w2) (fun i _ => bn - (intOf i).toNat)
      case atStart => exact Q0.out
      case round =>
        clear Q0
        obtain ⟨q, hq, rfl, hownq, hgq⟩ := hrel
        have hboxq := (hgq.block wo.heap.size (by have := (Array.getElem?_eq_some_iff.1 HBOX.out).1; exact this) HGH.out).trans HBOX.out
        have c0 : wr.cell? ⟨wo.heap.size, 0, none⟩ = some (.slice bA bn bc) := cell_of_row wr wo.heap.size 0 _ _ (0, 0) hboxq
        have c2 : wr.cell? ⟨wo.heap.size, 2, none⟩ = some (.int .i64 (bnum : Int)) := cell_of_row wr wo.heap.size 2 _ _ (0, 0) hboxq
        have HOQ := Lib.hid hownq; have HGQ := Lib.hid hgq
        clear hboxq hownq hgq
        by_cases hqn : q < bn
        · obtain ⟨gl, hgl⟩ : ∃ gl, bA = some ⟨gl, 0, none⟩ := by
            rcases HOQ.out.2 with ⟨_, h0⟩ | ⟨g', cap, cur, hv, _⟩
            · omega
            · injection hv with h1 _ _; exact ⟨g', h1⟩
          subst hgl
          have hxl : xs.length = bn := by have := HXS.out.1; omega
          obtain ⟨uq, huq⟩ : ∃ u, wr.cell? ⟨gl, q, none⟩ = some u := by
            rw [HOQ.out.cellAt q (by omega)]
            exact ⟨_, List.getElem?_eq_getElem (by simp; omega)⟩
          have hfq := HOQ.out.frozenAt q
          have hne : wo.heap.size ≠ gl := fun e => HGH.out (by rw [e]; rfl)
          have hne2 : gl ≠ wo.heap.size := fun e => hne e.symm
          have hst := HOQ.out.stored q (mk bnum)
          rw [mark_set q (mk bnum) xs (by omega)] at hst
          have R : Hid (∀ N : Nat, QRel w0 base (some ⟨gl, 0, none⟩) bn bc xs (mk bnum) (.int .i64 ((q : Int) + 1)) ((wr.setCell ⟨gl, q, none⟩ (mk bnum)).drewN N)) := fun N =>
            ⟨q + 1, hqn, by simp, hst.1, HGQ.out.trans ⟨hst.2.os, hst.2.tape, hst.2.output, hst.2.size, hst.2.block⟩⟩
          rw [HMK.out] at R
          have i1 : (q : Int) < (bn : Int) := by omega
          have i2 : (0 : Int) ≤ (q : Int) := by omega
          have s0 : (wr.setCell ⟨gl, q, none⟩ (.int .u8 (y : Int))).cell? ⟨wo.heap.size, 0, none⟩ = some (.slice (some ⟨gl, 0, none⟩) bn bc) := (World.cell?_setCell_other wr _ _ _ (fun e => by have := congrArg Addr.block e; simp at this; omega)).trans c0
          have s2 : (wr.setCell ⟨gl, q, none⟩ (.int .u8 (y : Int))).cell? ⟨wo.heap.size, 2, none⟩ = some (.int .i64 (bnum : Int)) := (World.cell?_setCell_other wr _ _ _ (fun e => by have := congrArg Addr.block e; simp at this; omega)).trans c2
          have S02 := Lib.hid (And.intro s0 s2)
          clear hst hxl s0 s2
          go_wp2
          go_region_held3 (fun w' => w'.cell? ⟨wo.heap.size, 0, none⟩ = some (.slice (some ⟨gl, 0, none⟩) bn bc) ∧ w'.cell? ⟨wo.heap.size, 2, none⟩ = some (.int .i64 (bnum : Int))) (first | exact ⟨c0, c2⟩ | exact S02.out)
            (first | (go_at_call 61; refine (HM.out _).mono ?_; rintro e w' ⟨rfl, rfl⟩))
          go_wp2
          go_roundw
          case rel => rw [HMK.out]; exact R.out 1
          case measure => simp [intOf]; omega
        · obtain rfl : q = bn := by omega
          have hxl : xs.length = q := by have := HXS.out.1; omega
          have hfin := HOQ.out
          rw [List.drop_eq_nil_of_le (by omega), List.append_nil] at hfin
          have hrow : ∀ j, (Value.slice bA q bc).ownBlock = some j → base ≤ j ∧ j < wo.heap.size := HXS.out.lt
          have hgw : wo.grownBy wr (Value.slice bA q bc).ownBlock := by
            refine ⟨HGQ.out.os.trans HG0.out.os, HGQ.out.tape.trans HG0.out.tape, HGQ.out.output.trans HG0.out.output, Nat.le_trans HG0.out.size HGQ.out.size, fun j hj hne => ?_⟩
            rw [HGQ.out.block j (Nat.lt_of_lt_of_le hj HG0.out.size) hne]
            exact HG0.out.block j hj (by simp)
          have R : Hid (FRel w base g n (.slice (some ⟨gv, 0, none⟩) ls.length cv) ls (.int .i64 ((m : Int) + 1)) wr) := by
            have hgb : some g ≠ (Value.slice bA q bc).ownBlock := HB.out.not_own HXS.out (by decide)
            have hov : (Value.slice (some ⟨gv, 0, none⟩) ls.length cv).ownBlock = none ∨ (Value.slice (some ⟨gv, 0, none⟩) ls.length cv).ownBlock ≠ (Value.slice bA q bc).ownBlock :=
              own_ne HOWN.out HXS.out (by decide)
            refine ⟨m + 1, hlt, by simp, HB.out.grown hgw hgb, HOWN.out.kept hgw hov, ?_, HBEL.out.grown hgw (Nat.le_trans hbase HBEL.out.size) (fun j hj => (hrow j hj).1)⟩
            intro i b hi
            by_cases him : i = m
            · subst him
              rw [HBM.out] at hi
              injection hi with hi
              subst hi
              exact ⟨_, hfin, fun _ => rfl⟩
            · obtain ⟨ys, hys, hys2⟩ := HF.out i b hi
              refine ⟨ys, hys.kept hgw (HD.out i m b _ him hi HBM.out), fun h => hys2 (by omega)⟩
          clear hfin hgw hrow hxl
          go_wp2
          go_roundw
          case rel => exact R.out
          case measure => simp [intOf]; omega
    · obtain rfl : m = ls.length := by omega
      have R : Hid (FRel w base g n (.slice Av ls.length cv) ls (.int .i64 (ls.length : Int)) wr) := ⟨ls.length, Nat.le_refl _, rfl, HB.out, HOWN.out, HF.out, HBEL.out⟩
      go_wp2
      go_end0
      exact ⟨rfl, R.out⟩
end Go.Proofs.YtjeijgkkobmdbaaGreatDoor
