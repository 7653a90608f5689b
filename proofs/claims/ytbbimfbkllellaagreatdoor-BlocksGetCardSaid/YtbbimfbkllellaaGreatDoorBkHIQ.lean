/-
  The laws' Book: Apart, of a Book that keeps lists of bytes and lists of entrys, each in memory of its own; the Book as a law uses it.
  The laws' Book: a list of bytes or of entrys more, in a Book that keeps both.
-/
import Derived.Test.YtbbimfbkllellaaGreatDoorBkANO
import Derived.Test.YtbbimfbkllellaaGreatDoorBookQ
import Derived.Test.YtbbimfbkllellaaGreatDoorBookB
namespace Go.Proofs.YtbbimfbkllellaaGreatDoor
open Go.RowKit
set_option linter.unusedVariables false
set_option maxRecDepth 100000

/-- the cells of a Book that keeps bytes and entrys -/
def cellsBQ (n : Nat) (vb ve : Value) : Array Value := #[.int .i64 (n : Int), vb, nilS, nilS, nilS, nilS, nilS, nilS, ve, nilS, nilS, nilS, nilS, nilS]
set_option maxHeartbeats 4000000 in
theorem apartBQ_any (g n base : Nat) (vb ve : Value) (lb le : List BL) (w : World) (hB : BkIs w g (cellsBQ n vb ve)) (hob : w.ownsRow base 88 3 vb lb.length (held0 lb)) (hoe : w.ownsRow base 90 3 ve le.length (held0 le))
    (hFb : Filled byteK w base lb 0) (hFe : FilledP entryK w base le 0) (hDb : Dis lb) (hDe : Dis le) (hbase : base ≤ w.heap.size) (hlb : lb.length ≤ 1000) (hle : le.length ≤ 1000)
    (hbb : ∀ b ∈ lb, b.n ≤ 1099511627776 ∧ b.num ≤ 1000000) (hbe : ∀ b ∈ le, b.n ≤ 1099511627776 ∧ b.num ≤ 1000000) (ht : TabB base w) :
    Calls Tryz.prog 13 #[.pointer (some ⟨g, 0, none⟩)] w fun e w' => e = .returned (.bool true) ∧ Below base w w' := by
  have HLB := Lib.hid (low_bks hFb); have HLE := Lib.hid (low_bksP hFe)
  have HVB : Hid (∀ i, vb.ownBlock = some i → base ≤ i) := fun i hi => (hob.lt i hi).1
  have HVE : Hid (∀ i, ve.ownBlock = some i → base ≤ i) := fun i hi => (hoe.lt i hi).1
  have FB := Lib.hid (fillByte_bk g base _ vb lb w hB rfl hob hFb hDb hbase hlb hbb)
  have O1 := Lib.hid (And.intro (off_bks (e := 59) hFb (by decide)) (off_bks (e := 90) hFb (by decide)))
  have HB := Lib.hid hB; have HOE := Lib.hid hoe; have HFE := Lib.hid hFe
  have HDB := Lib.hid hDb; have HDE := Lib.hid hDe; have HBB := Lib.hid hbb; have HBE := Lib.hid hbe; have HT := Lib.hid ht
  clear hB hob hoe hFb hFe hDb hDe hbb hbe ht
  go_enter Tryz.func13, Tryz.ntmps13
  go_wp2_with fail
  refine FB.out.mono ?_
  rintro e w1 ⟨rfl, m1, hm1, he1, hB1, hob1, hFb1, hw1⟩
  have hm1' : m1 = lb.length := by
    injection he1 with _ he1
    omega
  subst hm1'
  have hbel1 := hw1.below HLB.out hbase
  have hoe1 := O1.out.2.row hw1 HOE.out
  have hFe1 := Off.filledP (K := entryK) O1.out.1 hw1 HFE.out
  have HB1 := Lib.hid hB1; have HBEL1 := Lib.hid hbel1; have HOB1 := Lib.hid hob1; have HFB1 := Lib.hid hFb1
  have O2 := Lib.hid (And.intro (off_bksP (e := 5) hFe1 (by decide)) (off_bksP (e := 88) hFe1 (by decide)))
  have FE := Lib.hid (fillEntryP_any g base _ ve le w1 hB1 rfl hoe1 hFe1 HDE.out (Nat.le_trans hbase hbel1.size) hle HBE.out (fun W hW => HT.out W (hbel1.trans hW)))
  clear FB O1 he1 hB1 hob1 hFb1 hbel1 hw1 hoe1 hFe1 HOE HFE HB hm1
  go_wp2_with fail
  refine (fillId_no g _ w1 HB1.out rfl).mono ?_
  rintro e w' ⟨rfl, rfl⟩
  go_wp2_with fail
  refine (fillNum_no g _ w1 HB1.out rfl).mono ?_
  rintro e w' ⟨rfl, rfl⟩
  go_wp2_with fail
  refine (fillInt_no g _ w1 HB1.out rfl).mono ?_
  rintro e w' ⟨rfl, rfl⟩
  go_wp2_with fail
  refine (fillText_no g _ w1 HB1.out rfl).mono ?_
  rintro e w' ⟨rfl, rfl⟩
  go_wp2_with fail
  refine (fillRow_no g _ w1 HB1.out rfl).mono ?_
  rintro e w' ⟨rfl, rfl⟩
  go_wp2_with fail
  refine (fillChange_no g _ w1 HB1.out rfl).mono ?_
  rintro e w' ⟨rfl, rfl⟩
  go_wp2_with fail
  refine FE.out.mono ?_
  rintro e w2 ⟨rfl, m2, hm2, he2, hB2, hoe2, hFe2, hw2⟩
  have hm2' : m2 = le.length := by
    injection he2 with _ he2
    omega
  subst hm2'
  have hbel2 := HBEL1.out.trans (hw2.below HLE.out (Nat.le_trans hbase HBEL1.out.size))
  have hob2 := O2.out.2.row hw2 HOB1.out
  have hFb2 := Off.filled (K := byteK) O2.out.1 hw2 HFB1.out
  have hst := first_grw hFb2 HDB.out
  have HB2 := Lib.hid hB2; have HBEL2 := Lib.hid hbel2; have HOE2 := Lib.hid hoe2; have HFE2 := Lib.hid hFe2
  have O3 := Lib.hid (And.intro (off_both (K := byteK) (e := 59) hFb2 hob2 (by decide) (by decide)) (off_both (K := byteK) (e := 90) hFb2 hob2 (by decide) (by decide)))
  have GB := Lib.hid (growByte_bk g base _ vb lb (lb.map fun b => (b, nilS)) w2 hB2 rfl (by rw [List.map_map]; exact List.map_id'' (fun _ => rfl) lb) hob2 hst.1 hst.2 (Nat.le_trans hbase hbel2.size) hlb HBB.out)
  clear FE O2 he2 hB2 hoe2 hFe2 hbel2 hw2 hob2 hFb2 hst HOB1 HFB1 HB1 HBEL1 hm2
  go_wp2_with fail
  refine (fillFile_no g _ w2 HB2.out rfl).mono ?_
  rintro e w' ⟨rfl, rfl⟩
  go_wp2_with fail
  refine (fillItem_no g _ w2 HB2.out rfl).mono ?_
  rintro e w' ⟨rfl, rfl⟩
  go_wp2_with fail
  refine (fillSaid_no g _ w2 HB2.out rfl).mono ?_
  rintro e w' ⟨rfl, rfl⟩
  go_wp2_with fail
  refine (fillMsg_no g _ w2 HB2.out rfl).mono ?_
  rintro e w' ⟨rfl, rfl⟩
  go_wp2_with fail
  refine (fillEvent_no g _ w2 HB2.out rfl).mono ?_
  rintro e w' ⟨rfl, rfl⟩
  go_wp2_with fail
  refine GB.out.mono ?_
  rintro e w3 ⟨rfl, m3, gb, hm3, he3, hgb, hB3, hob3, hGb3, hDb3, hw3⟩
  have hm3' : m3 = lb.length := by
    injection he3 with _ he3
    omega
  subst hm3'
  have hgbl : gb.length = lb.length := by rw [← hgb]; simp
  have hbel3 := HBEL2.out.trans (hw3.below (fun i hi => hi.elim (HLB.out i) (HVB.out i)) (Nat.le_trans hbase HBEL2.out.size))
  have hoe3 := O3.out.2.row hw3 HOE2.out
  have hFe3 := Off.filledP (K := entryK) O3.out.1 hw3 HFE2.out
  have hst := first_grwP hFe3 HDE.out
  have HB3 := Lib.hid hB3; have HBEL3 := Lib.hid hbel3; have HOB3 := Lib.hid hob3; have HGB3 := Lib.hid hGb3; have HGBL := Lib.hid hgbl; have HGB := Lib.hid hgb
  have O4 := Lib.hid (And.intro (off_bothP (K := entryK) (e := 5) hFe3 hoe3 (by decide) (by decide)) (off_bothP (K := entryK) (e := 88) hFe3 hoe3 (by decide) (by decide)))
  have GE := Lib.hid (growEntryP_any g base _ ve le (le.map fun b => (b, nilS)) w3 hB3 rfl (by rw [List.map_map]; exact List.map_id'' (fun _ => rfl) le) hoe3 hst.1 hst.2 (Nat.le_trans hbase hbel3.size) hle HBE.out (fun W hW => HT.out W (hbel3.trans hW)))
  clear GB O3 he3 hB3 hob3 hGb3 hDb3 hw3 hgbl hgb hbel3 hoe3 hFe3 hst HOE2 HFE2 HB2 HBEL2 hm3
  go_wp2_with fail
  refine (growId_no g _ w3 HB3.out rfl).mono ?_
  rintro e w' ⟨rfl, rfl⟩
  go_wp2_with fail
  refine (growNum_no g _ w3 HB3.out rfl).mono ?_
  rintro e w' ⟨rfl, rfl⟩
  go_wp2_with fail
  refine (growInt_no g _ w3 HB3.out rfl).mono ?_
  rintro e w' ⟨rfl, rfl⟩
  go_wp2_with fail
  refine (growText_no g _ w3 HB3.out rfl).mono ?_
  rintro e w' ⟨rfl, rfl⟩
  go_wp2_with fail
  refine (growRow_no g _ w3 HB3.out rfl).mono ?_
  rintro e w' ⟨rfl, rfl⟩
  go_wp2_with fail
  refine (growChange_no g _ w3 HB3.out rfl).mono ?_
  rintro e w' ⟨rfl, rfl⟩
  go_wp2_with fail
  refine GE.out.mono ?_
  rintro e w4 ⟨rfl, m4, ge, hm4, he4, hge, hB4, hoe4, hGe4, hDe4, hw4⟩
  have hm4' : m4 = le.length := by
    injection he4 with _ he4
    omega
  subst hm4'
  have hgel : ge.length = le.length := by rw [← hge]; simp
  have hbel4 := HBEL3.out.trans (hw4.below (fun i hi => hi.elim (HLE.out i) (HVE.out i)) (Nat.le_trans hbase HBEL3.out.size))
  have hob4 := O4.out.2.row hw4 HOB3.out
  have hGb4 := Off.grw (K := byteK) O4.out.1 hw4 HGB3.out
  have HB4 := Lib.hid hB4; have HBEL4 := Lib.hid hbel4; have HOE4 := Lib.hid hoe4; have HGE4 := Lib.hid hGe4; have HGEL := Lib.hid hgel; have HGE := Lib.hid hge
  have LB := Lib.hid (lookByte_bk g base _ vb gb w4 hB4 rfl (by rw [HGBL.out]; exact hob4) (by rw [HGBL.out]; exact hGb4) (by rw [HGBL.out]; exact hlb) (fun p hp => HBB.out p.1 (by rw [← HGB.out]; exact List.mem_map_of_mem hp)))
  clear GE O4 he4 hB4 hoe4 hGe4 hDe4 hw4 hgel hge hbel4 hob4 hGb4 HOB3 HGB3 HB3 HBEL3 hm4
  go_wp2_with fail
  refine (growFile_no g _ w4 HB4.out rfl).mono ?_
  rintro e w' ⟨rfl, rfl⟩
  go_wp2_with fail
  refine (growItem_no g _ w4 HB4.out rfl).mono ?_
  rintro e w' ⟨rfl, rfl⟩
  go_wp2_with fail
  refine (growSaid_no g _ w4 HB4.out rfl).mono ?_
  rintro e w' ⟨rfl, rfl⟩
  go_wp2_with fail
  refine (growMsg_no g _ w4 HB4.out rfl).mono ?_
  rintro e w' ⟨rfl, rfl⟩
  go_wp2_with fail
  refine (growEvent_no g _ w4 HB4.out rfl).mono ?_
  rintro e w' ⟨rfl, rfl⟩
  go_wp2_with fail
  refine LB.out.mono ?_
  rintro e w5 ⟨rfl, hg5⟩
  have hbel5 := HBEL4.out.grown hg5 (Nat.le_trans hbase HBEL4.out.size) (by simp)
  have hB5 := HB4.out.grown hg5 (by simp)
  have hGe5 := Off.grwP (K := entryK) (off_none w4 _) (Wrote.grown hg5) HGE4.out
  have HB5 := Lib.hid hB5; have HBEL5 := Lib.hid hbel5
  have LE := Lib.hid (lookEntryP_any g base _ ve ge w5 hB5 rfl (Nat.le_trans hbase hbel5.size) (by rw [HGEL.out]; exact own_none HOE4.out hg5) (by rw [HGEL.out]; exact hGe5) (by rw [HGEL.out]; exact hle) (fun p hp => HBE.out p.1 (by rw [← HGE.out]; exact List.mem_map_of_mem hp)) (fun W hW => HT.out W (hbel5.trans hW)))
  clear LB hg5 hbel5 hB5 hGe5 HB4 HBEL4 HOE4 HGE4
  go_wp2_with fail
  refine (lookId_no g _ w5 HB5.out rfl).mono ?_
  rintro e w' ⟨rfl, rfl⟩
  go_wp2_with fail
  refine (lookNum_no g _ w5 HB5.out rfl).mono ?_
  rintro e w' ⟨rfl, rfl⟩
  go_wp2_with fail
  refine (lookInt_no g _ w5 HB5.out rfl).mono ?_
  rintro e w' ⟨rfl, rfl⟩
  go_wp2_with fail
  refine (lookText_no g _ w5 HB5.out rfl).mono ?_
  rintro e w' ⟨rfl, rfl⟩
  go_wp2_with fail
  refine (lookRow_no g _ w5 HB5.out rfl).mono ?_
  rintro e w' ⟨rfl, rfl⟩
  go_wp2_with fail
  refine (lookChange_no g _ w5 HB5.out rfl).mono ?_
  rintro e w' ⟨rfl, rfl⟩
  go_wp2_with fail
  refine LE.out.mono ?_
  rintro e w6 ⟨rfl, hg6⟩
  have HB6 := Lib.hid (HB5.out.grown hg6 (by simp))
  have HBEL6 := Lib.hid (HBEL5.out.grown hg6 (Nat.le_trans hbase HBEL5.out.size) (by simp))
  clear LE hg6 HB5 HBEL5
  go_wp2_with fail
  refine (lookFile_no g _ w6 HB6.out rfl).mono ?_
  rintro e w' ⟨rfl, rfl⟩
  go_wp2_with fail
  refine (lookItem_no g _ w6 HB6.out rfl).mono ?_
  rintro e w' ⟨rfl, rfl⟩
  go_wp2_with fail
  refine (lookSaid_no g _ w6 HB6.out rfl).mono ?_
  rintro e w' ⟨rfl, rfl⟩
  go_wp2_with fail
  refine (lookMsg_no g _ w6 HB6.out rfl).mono ?_
  rintro e w' ⟨rfl, rfl⟩
  go_wp2_with fail
  refine (lookEvent_no g _ w6 HB6.out rfl).mono ?_
  rintro e w' ⟨rfl, rfl⟩
  go_wp2
  go_ret
  exact ⟨rfl, HBEL6.out⟩

/-- a Book at g with n lists: lb of bytes, le of entrys -/
structure KeptBQ (w : World) (base g n : Nat) (lb le : List BL) (vb ve : Value) : Prop where
  book : BkIs w g (cellsBQ n vb ve)
  ownB : w.ownsRow base 88 3 vb lb.length (held0 lb)
  ownE : w.ownsRow base 90 3 ve le.length (held0 le)
  eachB : ∀ b ∈ lb, Kdk byteK w base b
  eachE : ∀ b ∈ le, KdkP entryK w base b
  disB : Dis lb
  disE : Dis le
  fineB : ∀ b ∈ lb, b.n ≤ 1099511627776 ∧ b.num ≤ 1000000
  fineE : ∀ b ∈ le, b.n ≤ 1099511627776 ∧ b.num ≤ 1000000
  low : base ≤ g
theorem keptBQ_start {w : World} {base : Nat} (hs : base ≤ w.heap.size) : KeptBQ (w.alloc (.cells (cellsBQ 0 nilS nilS) 48)) base w.heap.size 0 [] [] nilS nilS :=
  ⟨heap_alloc_new w _, World.ownsRow_nil _ _ _ _, World.ownsRow_nil _ _ _ _, fun b hb => (by cases hb), fun b hb => (by cases hb), fun i j bi bj _ h => (by simp at h), fun i j bi bj _ h => (by simp at h), fun b hb => (by cases hb), fun b hb => (by cases hb), hs⟩
/-- the blocks that a Book and its lists lie in -/
def OfBookQ (g : Nat) (lb le : List BL) (vb ve : Value) (i : Nat) : Prop := i = g ∨ vb.ownBlock = some i ∨ ve.ownBlock = some i ∨ Bks lb i ∨ Bks le i
section
variable {w w' : World} {base g n : Nat} {lb le : List BL} {vb ve : Value}
/-- where none of these is written, it stays -/
theorem KeptBQ.keep (h : KeptBQ w base g n lb le vb ve) (hk : ∀ i, OfBookQ g lb le vb ve i → w'.heap[i]? = w.heap[i]?) : KeptBQ w' base g n lb le vb ve :=
  ⟨h.book.keep (hk g (.inl rfl)), own_keep h.ownB fun i hi => hk i (.inr (.inl hi)), own_keep h.ownE fun i hi => hk i (.inr (.inr (.inl hi))),
    fun b hb => by obtain ⟨xs, hx⟩ := h.eachB b hb; exact ⟨xs, own_keep hx fun i hi => hk i (.inr (.inr (.inr (.inl ⟨b, hb, hi⟩))))⟩,
    fun b hb => by obtain ⟨xs, hx⟩ := h.eachE b hb; exact ⟨xs, hx.keep fun i hi => hk i (.inr (.inr (.inr (.inr ⟨b, hb, hi⟩))))⟩, h.disB, h.disE, h.fineB, h.fineE, h.low⟩
theorem KeptBQ.lt (h : KeptBQ w base g n lb le vb ve) {i : Nat} (hi : OfBookQ g lb le vb ve i) : base ≤ i ∧ i < w.heap.size := by
  rcases hi with rfl | hi | hi | ⟨b, hb, hi⟩ | ⟨b, hb, hi⟩
  · exact ⟨h.low, h.book.lt⟩
  · exact h.ownB.lt i hi
  · exact h.ownE.lt i hi
  · obtain ⟨xs, hx⟩ := h.eachB b hb; exact hx.lt i hi
  · obtain ⟨xs, hx⟩ := h.eachE b hb; exact hx.lt i hi
theorem KeptBQ.below (h : KeptBQ w base g n lb le vb ve) (hb : Below w.heap.size w w') : KeptBQ w' base g n lb le vb ve := h.keep fun i hi => hb.block i (h.lt hi).2
/-- what Bytes and Entries write: the Book and what it holds of the kind -/
theorem KeptBQ.apart (h : KeptBQ w base g n lb le vb ve) (hbase : base ≤ w.heap.size) (hlb : lb.length ≤ 1000) (hle : le.length ≤ 1000) (ht : TabB base w) :
    Calls Tryz.prog 13 #[.pointer (some ⟨g, 0, none⟩)] w fun e w' => e = .returned (.bool true) ∧ Below base w w' :=
  apartBQ_any g n base vb ve lb le w h.book h.ownB h.ownE (fun i b hi => by
    obtain ⟨xs, hx⟩ := h.eachB b (List.mem_of_getElem? hi)
    exact ⟨xs, hx, fun h => absurd h (Nat.not_lt_zero _)⟩) (fun i b hi => by
    obtain ⟨xs, hx⟩ := h.eachE b (List.mem_of_getElem? hi)
    exact ⟨xs, hx, fun h => absurd h (Nat.not_lt_zero _)⟩) h.disB h.disE hbase hlb hle h.fineB h.fineE ht
end
end Go.Proofs.YtbbimfbkllellaaGreatDoor

namespace Go.Proofs.YtbbimfbkllellaaGreatDoor
open Go.RowKit
set_option linter.unusedVariables false
set_option maxRecDepth 100000

section
variable {w w' : World} {base g n : Nat} {lb le : List BL} {vb ve : Value}
theorem KeptBQ.bytes (h : KeptBQ w base g n lb le vb ve) (hbase : base ≤ w.heap.size) (A : Option Addr) (nl c : Nat) (hl : lb.length ≤ 900) (hn : n ≤ 900) (hnl : nl ≤ 1099511627776) (hd : Kdk byteK w base ⟨A, nl, c, n + 1⟩)
    (hK : ∀ b ∈ lb, b.v.ownBlock = none ∨ b.v.ownBlock ≠ (Value.slice A nl c).ownBlock) :
    Calls Tryz.prog 11 #[.pointer (some ⟨g, 0, none⟩), .slice A nl c] w fun e w' => e = .returned (.tuple #[]) ∧ ∃ vb', KeptBQ w' base g (n + 1) (lb ++ [⟨A, nl, c, n + 1⟩]) le vb' ve ∧ Wrote (fun i => i = g ∨ vb.ownBlock = some i) w w' ∧ Below base w w' := by
  refine (bytes_bk g n lb.length base (cellsBQ n vb ve) vb (held0 lb) A nl c w h.book rfl rfl rfl h.ownB hbase (by omega) (by omega)).mono ?_
  rintro e w' ⟨he, vb', hB', hO', hw, hat⟩
  have hoff : ∀ {e : TypeId}, 48 ≠ e → 88 ≠ e → Off w e (fun i => i = g ∨ vb.ownBlock = some i) := fun {e} h1 h2 i hi => by
    rcases hi with rfl | hi
    · exact ⟨_, h1, ⟨_, _, h.book⟩⟩
    · exact ⟨_, h2, ty_own h.ownB hi⟩
  have hkb : ∀ {b : BL}, Kdk byteK w base b → Kdk byteK w' base b := fun {b} ⟨xs, hx⟩ => ⟨xs, (hoff (by decide) (by decide)).row hw hx⟩
  have hke : ∀ {b : BL}, KdkP entryK w base b → KdkP entryK w' base b := fun {b} ⟨xs, hx⟩ => ⟨xs, (hoff (by decide) (by decide)).rowP hw hx⟩
  refine ⟨he, vb', ⟨hB', ?_, (hoff (by decide) (by decide)).row hw h.ownE, fun b hb => ?_, fun b hb => hke (h.eachE b hb), dis_snoc h.disB hK, h.disE, fun b hb => ?_, h.fineE, h.low⟩, hw, hw.below (fun i hi => ?_) hbase⟩
  · rw [List.length_append, held0_snoc]; exact hO'
  · rcases List.mem_append.1 hb with hb | hb
    · exact hkb (h.eachB b hb)
    · rw [List.mem_singleton.1 hb]; exact hkb hd
  · rcases List.mem_append.1 hb with hb | hb
    · exact h.fineB b hb
    · rw [List.mem_singleton.1 hb]; exact ⟨hnl, by show n + 1 ≤ _; omega⟩
  · rcases hi with rfl | hi
    · exact h.low
    · exact (h.ownB.lt i hi).1
theorem KeptBQ.entries (h : KeptBQ w base g n lb le vb ve) (hbase : base ≤ w.heap.size) (A : Option Addr) (nl c : Nat) (hl : le.length ≤ 900) (hn : n ≤ 900) (hnl : nl ≤ 1099511627776) (hd : KdkP entryK w base ⟨A, nl, c, n + 1⟩)
    (hK : ∀ b ∈ le, b.v.ownBlock = none ∨ b.v.ownBlock ≠ (Value.slice A nl c).ownBlock) :
    Calls Tryz.prog 12 #[.pointer (some ⟨g, 0, none⟩), .slice A nl c] w fun e w' => e = .returned (.tuple #[]) ∧ ∃ ve', KeptBQ w' base g (n + 1) lb (le ++ [⟨A, nl, c, n + 1⟩]) vb ve' ∧ Wrote (fun i => i = g ∨ ve.ownBlock = some i) w w' ∧ Below base w w' := by
  refine (entries_any g n le.length base (cellsBQ n vb ve) ve (held0 le) A nl c w h.book rfl rfl rfl h.ownE hbase (by omega) (by omega)).mono ?_
  rintro e w' ⟨he, ve', hB', hO', hw, hat⟩
  have hoff : ∀ {e : TypeId}, 48 ≠ e → 90 ≠ e → Off w e (fun i => i = g ∨ ve.ownBlock = some i) := fun {e} h1 h2 i hi => by
    rcases hi with rfl | hi
    · exact ⟨_, h1, ⟨_, _, h.book⟩⟩
    · exact ⟨_, h2, ty_own h.ownE hi⟩
  have hkb : ∀ {b : BL}, Kdk byteK w base b → Kdk byteK w' base b := fun {b} ⟨xs, hx⟩ => ⟨xs, (hoff (by decide) (by decide)).row hw hx⟩
  have hke : ∀ {b : BL}, KdkP entryK w base b → KdkP entryK w' base b := fun {b} ⟨xs, hx⟩ => ⟨xs, (hoff (by decide) (by decide)).rowP hw hx⟩
  refine ⟨he, ve', ⟨hB', (hoff (by decide) (by decide)).row hw h.ownB, ?_, fun b hb => hkb (h.eachB b hb), fun b hb => ?_, h.disB, dis_snoc h.disE hK, h.fineB, fun b hb => ?_, h.low⟩, hw, hw.below (fun i hi => ?_) hbase⟩
  · rw [List.length_append, held0_snoc]; exact hO'
  · rcases List.mem_append.1 hb with hb | hb
    · exact hke (h.eachE b hb)
    · rw [List.mem_singleton.1 hb]; exact hke hd
  · rcases List.mem_append.1 hb with hb | hb
    · exact h.fineE b hb
    · rw [List.mem_singleton.1 hb]; exact ⟨hnl, by show n + 1 ≤ _; omega⟩
  · rcases hi with rfl | hi
    · exact h.low
    · exact (h.ownE.lt i hi).1
end
end Go.Proofs.YtbbimfbkllellaaGreatDoor

