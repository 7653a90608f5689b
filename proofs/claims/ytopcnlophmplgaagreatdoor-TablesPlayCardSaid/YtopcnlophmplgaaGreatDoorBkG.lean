/-
  The laws' Book: Apart, of a Book that keeps lists of entries alone, each in memory of its own; the Book as a law uses it.
-/
import Derived.Test.YtopcnlophmplgaaGreatDoorBkE4
import Derived.Test.YtopcnlophmplgaaGreatDoorBkN
namespace Go.Proofs.YtopcnlophmplgaaGreatDoor
open Go.RowKit
set_option linter.unusedVariables false
set_option maxRecDepth 100000

/-- the cells of a Book that keeps entries alone -/
def cellsE (n : Nat) (ve : Value) : Array Value := #[.int .i64 (n : Int), nilS, nilS, nilS, nilS, nilS, nilS, nilS, ve, nilS, nilS, nilS, nilS, nilS]
set_option maxHeartbeats 4000000 in
theorem apartE_any (g n base : Nat) (ve : Value) (ls : List BL) (w : World) (hB : BkIs w g (cellsE n ve)) (hown : w.ownsRow base 206 3 ve ls.length (held0 ls)) (hF : Filled entryK w base ls 0) (hD : Dis ls) (hbase : base ≤ w.heap.size) (hl : ls.length ≤ 1000)
    (hb : ∀ b ∈ ls, b.n ≤ 1099511627776 ∧ b.num ≤ 1000000) (ht : TabB base w) :
    Calls Tryz.prog 28 #[.pointer (some ⟨g, 0, none⟩)] w fun e w' => e = .returned (.bool true) ∧ Below base w w' := by
  have HLO : Hid (∀ i, Bks ls i → base ≤ i) := fun i ⟨b, hbm, hbi⟩ => by
    obtain ⟨j, hj⟩ := List.getElem?_of_mem hbm
    obtain ⟨xs, hx, _⟩ := hF j b hj
    exact (hx.lt i hbi).1
  have HLV : Hid (∀ i, ve.ownBlock = some i → base ≤ i) := fun i hi => (hown.lt i hi).1
  have FF := Lib.hid (fillEntry_any g base _ ve ls w hB rfl hown hF hD hbase hl hb ht)
  have HB := Lib.hid hB
  have HD := Lib.hid hD; have HBD := Lib.hid hb; have HT := Lib.hid ht
  clear hB hown hF hD hb ht
  go_enter Tryz.func28, Tryz.ntmps28
  go_wp2_with fail
  refine (fillByte_no g _ w HB.out rfl).mono ?_
  rintro e w' ⟨rfl, rfl⟩
  go_wp2_with fail
  refine (fillId_no g _ w HB.out rfl).mono ?_
  rintro e w' ⟨rfl, rfl⟩
  go_wp2_with fail
  refine (fillNum_no g _ w HB.out rfl).mono ?_
  rintro e w' ⟨rfl, rfl⟩
  go_wp2_with fail
  refine (fillInt_no g _ w HB.out rfl).mono ?_
  rintro e w' ⟨rfl, rfl⟩
  go_wp2_with fail
  refine (fillText_no g _ w HB.out rfl).mono ?_
  rintro e w' ⟨rfl, rfl⟩
  go_wp2_with fail
  refine (fillRow_no g _ w HB.out rfl).mono ?_
  rintro e w' ⟨rfl, rfl⟩
  go_wp2_with fail
  refine (fillChange_no g _ w HB.out rfl).mono ?_
  rintro e w' ⟨rfl, rfl⟩
  go_wp2_with fail
  refine FF.out.mono ?_
  rintro e w1 ⟨rfl, m1, hm1, he1, hB1, hown1, hF1, hw1⟩
  have hm1' : m1 = ls.length := by
    injection he1 with _ he1
    omega
  subst hm1'
  have hbel1 := hw1.below HLO.out hbase
  have HB1 := Lib.hid hB1; have HBEL1 := Lib.hid hbel1
  have hst := first_grw hF1 HD.out
  have GG := Lib.hid (growEntry_any g base _ ve ls (ls.map fun b => (b, nilS)) w1 hB1 rfl (by rw [List.map_map]; exact List.map_id'' (fun _ => rfl) ls) hown1 hst.1 hst.2 (Nat.le_trans hbase hbel1.size) hl HBD.out (fun W hW => HT.out W (hbel1.trans hW)))
  clear FF he1 hB1 hown1 hF1 hbel1 hst hw1
  go_wp2_with fail
  refine (fillFile_no g _ w1 HB1.out rfl).mono ?_
  rintro e w' ⟨rfl, rfl⟩
  go_wp2_with fail
  refine (fillItem_no g _ w1 HB1.out rfl).mono ?_
  rintro e w' ⟨rfl, rfl⟩
  go_wp2_with fail
  refine (fillSaid_no g _ w1 HB1.out rfl).mono ?_
  rintro e w' ⟨rfl, rfl⟩
  go_wp2_with fail
  refine (fillMsg_no g _ w1 HB1.out rfl).mono ?_
  rintro e w' ⟨rfl, rfl⟩
  go_wp2_with fail
  refine (fillEvent_no g _ w1 HB1.out rfl).mono ?_
  rintro e w' ⟨rfl, rfl⟩
  go_wp2_with fail
  refine (growByte_no g _ w1 HB1.out rfl).mono ?_
  rintro e w' ⟨rfl, rfl⟩
  go_wp2_with fail
  refine (growId_no g _ w1 HB1.out rfl).mono ?_
  rintro e w' ⟨rfl, rfl⟩
  go_wp2_with fail
  refine (growNum_no g _ w1 HB1.out rfl).mono ?_
  rintro e w' ⟨rfl, rfl⟩
  go_wp2_with fail
  refine (growInt_no g _ w1 HB1.out rfl).mono ?_
  rintro e w' ⟨rfl, rfl⟩
  go_wp2_with fail
  refine (growText_no g _ w1 HB1.out rfl).mono ?_
  rintro e w' ⟨rfl, rfl⟩
  go_wp2_with fail
  refine (growRow_no g _ w1 HB1.out rfl).mono ?_
  rintro e w' ⟨rfl, rfl⟩
  go_wp2_with fail
  refine (growChange_no g _ w1 HB1.out rfl).mono ?_
  rintro e w' ⟨rfl, rfl⟩
  go_wp2_with fail
  refine GG.out.mono ?_
  rintro e w2 ⟨rfl, m2, gs, hm2, he2, hgs, hB2, hown2, hG2, hD2, hw2⟩
  have hm2' : m2 = ls.length := by
    injection he2 with _ he2
    omega
  have hgl : gs.length = ls.length := by rw [← hgs]; simp
  have hbel2 := hw2.below (fun i hi => hi.elim (HLO.out i) (HLV.out i)) (Nat.le_trans hbase HBEL1.out.size)
  have HB2 := Lib.hid hB2
  have HBEL2 := Lib.hid (HBEL1.out.trans hbel2)
  have LL := Lib.hid (lookEntry_any g base _ ve gs w2 hB2 rfl (Nat.le_trans hbase HBEL2.out.size) (by rw [hgl]; exact hown2) (by rw [hgl, ← hm2']; exact hG2) (by omega) (fun p hp => HBD.out p.1 (by rw [← hgs]; exact List.mem_map_of_mem hp)) (fun W hW => HT.out W (HBEL2.out.trans hW)))
  clear GG he2 hB2 hown2 hG2 hD2 hbel2 hw2 hm2' hgl HBEL1 HB1 hgs hm2
  go_wp2_with fail
  refine (growFile_no g _ w2 HB2.out rfl).mono ?_
  rintro e w' ⟨rfl, rfl⟩
  go_wp2_with fail
  refine (growItem_no g _ w2 HB2.out rfl).mono ?_
  rintro e w' ⟨rfl, rfl⟩
  go_wp2_with fail
  refine (growSaid_no g _ w2 HB2.out rfl).mono ?_
  rintro e w' ⟨rfl, rfl⟩
  go_wp2_with fail
  refine (growMsg_no g _ w2 HB2.out rfl).mono ?_
  rintro e w' ⟨rfl, rfl⟩
  go_wp2_with fail
  refine (growEvent_no g _ w2 HB2.out rfl).mono ?_
  rintro e w' ⟨rfl, rfl⟩
  go_wp2_with fail
  refine (lookByte_no g _ w2 HB2.out rfl).mono ?_
  rintro e w' ⟨rfl, rfl⟩
  go_wp2_with fail
  refine (lookId_no g _ w2 HB2.out rfl).mono ?_
  rintro e w' ⟨rfl, rfl⟩
  go_wp2_with fail
  refine (lookNum_no g _ w2 HB2.out rfl).mono ?_
  rintro e w' ⟨rfl, rfl⟩
  go_wp2_with fail
  refine (lookInt_no g _ w2 HB2.out rfl).mono ?_
  rintro e w' ⟨rfl, rfl⟩
  go_wp2_with fail
  refine (lookText_no g _ w2 HB2.out rfl).mono ?_
  rintro e w' ⟨rfl, rfl⟩
  go_wp2_with fail
  refine (lookRow_no g _ w2 HB2.out rfl).mono ?_
  rintro e w' ⟨rfl, rfl⟩
  go_wp2_with fail
  refine (lookChange_no g _ w2 HB2.out rfl).mono ?_
  rintro e w' ⟨rfl, rfl⟩
  go_wp2_with fail
  refine LL.out.mono ?_
  rintro e w3 ⟨rfl, hg3⟩
  have HB3 := Lib.hid (HB2.out.grown hg3 (by simp))
  have HBEL3 := Lib.hid (HBEL2.out.grown hg3 (Nat.le_trans hbase HBEL2.out.size) (by simp))
  clear LL hg3 HB2 HBEL2
  go_wp2_with fail
  refine (lookFile_no g _ w3 HB3.out rfl).mono ?_
  rintro e w' ⟨rfl, rfl⟩
  go_wp2_with fail
  refine (lookItem_no g _ w3 HB3.out rfl).mono ?_
  rintro e w' ⟨rfl, rfl⟩
  go_wp2_with fail
  refine (lookSaid_no g _ w3 HB3.out rfl).mono ?_
  rintro e w' ⟨rfl, rfl⟩
  go_wp2_with fail
  refine (lookMsg_no g _ w3 HB3.out rfl).mono ?_
  rintro e w' ⟨rfl, rfl⟩
  go_wp2_with fail
  refine (lookEvent_no g _ w3 HB3.out rfl).mono ?_
  rintro e w' ⟨rfl, rfl⟩
  go_wp2
  go_ret
  exact ⟨rfl, HBEL3.out⟩

/-- is it a list of entries of the law's own? -/
def Kd (w : World) (base : Nat) (b : BL) : Prop := ∃ xs, w.ownsRow base 83 4 b.v b.n xs
/-- a Book at g with the lists ls of entries -/
structure KeptE (w : World) (base g : Nat) (ls : List BL) (ve : Value) : Prop where
  book : BkIs w g (cellsE ls.length ve)
  own : w.ownsRow base 206 3 ve ls.length (held0 ls)
  each : ∀ b ∈ ls, Kd w base b
  dis : Dis ls
  fine : ∀ b ∈ ls, b.n ≤ 1099511627776 ∧ b.num ≤ 1000000
  low : base ≤ g
theorem keptE_start {w : World} {base : Nat} (hs : base ≤ w.heap.size) : KeptE (w.alloc (.cells (cellsE 0 nilS) 53)) base w.heap.size [] nilS :=
  ⟨heap_alloc_new w _, World.ownsRow_nil _ _ _ _, fun b hb => (by cases hb), fun i j bi bj _ h => (by simp at h), fun b hb => (by cases hb), hs⟩
/-- is i a block of that type? -/
def Ty (w : World) (t : TypeId) (i : Nat) : Prop := ∃ c fz, w.heap[i]? = some (.cells c t fz)
theorem Ty.ne {w : World} {t t' : TypeId} {i : Nat} {c : Array Value} {fz : Nat × Nat} (h : Ty w t i) (h' : w.heap[i]? = some (.cells c t' fz)) : t = t' := by
  obtain ⟨c2, fz2, e⟩ := h
  rw [h'] at e
  injection e with e
  injection e with _ e
  exact e.symm
theorem own_ty {w w' : World} {base e k n : Nat} {v : Value} {xs : List Value} (h : w.ownsRow base e k v n xs) (hk : ∀ i, Ty w e i → w'.heap[i]? = w.heap[i]?) : w'.ownsRow base e k v n xs := by
  refine ⟨h.1, ?_⟩
  rcases h.2 with h2 | ⟨g, cap, cur, hv, hg, hh, r⟩
  · exact .inl h2
  · exact .inr ⟨g, cap, cur, hv, hg, (hk g ⟨_, _, hh⟩).trans hh, r⟩
/-- where no block of the Book's, of what it holds, or of entries is written, it stays -/
theorem KeptE.keep {w w' : World} {base g : Nat} {ls : List BL} {ve : Value} (h : KeptE w base g ls ve) (hk : ∀ i, (Ty w 53 i ∨ Ty w 206 i ∨ Ty w 83 i) → w'.heap[i]? = w.heap[i]?) : KeptE w' base g ls ve :=
  ⟨h.book.keep (hk g (.inl ⟨_, _, h.book⟩)), own_ty h.own fun i hi => hk i (.inr (.inl hi)), fun b hb => by obtain ⟨xs, hx⟩ := h.each b hb; exact ⟨xs, own_ty hx fun i hi => hk i (.inr (.inr hi))⟩, h.dis, h.fine, h.low⟩
theorem Ty.lt {w : World} {t : TypeId} {i : Nat} (h : Ty w t i) : i < w.heap.size := by obtain ⟨c, fz, e⟩ := h; exact (Array.getElem?_eq_some_iff.1 e).1
theorem KeptE.below {w w' : World} {base g : Nat} {ls : List BL} {ve : Value} (h : KeptE w base g ls ve) (hb : Below w.heap.size w w') : KeptE w' base g ls ve :=
  h.keep fun i hi => hb.block i (by rcases hi with hi | hi | hi <;> exact hi.lt)
/-- one list more -/
theorem KeptE.entries {w : World} {base g : Nat} {ls : List BL} {ve : Value} (h : KeptE w base g ls ve) (hbase : base ≤ w.heap.size) (A : Option Addr) (n c : Nat) (hl : ls.length ≤ 900) (hn : n ≤ 1099511627776) (hd : Kd w base ⟨A, n, c, ls.length + 1⟩) (hK : ∀ b ∈ ls, b.v.ownBlock = none ∨ b.v.ownBlock ≠ (Value.slice A n c).ownBlock) :
    Calls Tryz.prog 38 #[.pointer (some ⟨g, 0, none⟩), .slice A n c] w fun e w' => e = .returned (.tuple #[]) ∧ ∃ ve', KeptE w' base g (ls ++ [⟨A, n, c, ls.length + 1⟩]) ve' ∧ Wrote (fun i => Ty w 53 i ∨ Ty w 206 i) w w' ∧ Below base w w' := by
  refine (entries_any g ls.length ls.length base (cellsE ls.length ve) ve (held0 ls) A n c w h.book rfl rfl rfl h.own hbase (by omega) (by omega)).mono ?_
  rintro e w' ⟨he, ve', hB', hO', hw, hat⟩
  have hw2 : Wrote (fun i => Ty w 53 i ∨ Ty w 206 i) w w' := hw.mono fun i _ hi => by
    rcases hi with rfl | hi
    · exact .inl ⟨_, _, h.book⟩
    · refine .inr ?_
      rcases h.own.2 with ⟨h2, _⟩ | ⟨g', cap, cur, hv, _, hh, _⟩
      · rw [h2] at hi; cases hi
      · rw [hv] at hi; injection hi with hi; subst hi; exact ⟨_, _, hh⟩
  have hks : ∀ {b : BL}, Kd w base b → Kd w' base b := fun {b} ⟨xs, hx⟩ => ⟨xs, own_ty hx fun i hi => hw2.block i hi.lt fun hq => by
    obtain ⟨c0, f0, e0⟩ := hi
    rcases hq with hq | hq
    · exact absurd (hq.ne e0) (by decide)
    · exact absurd (hq.ne e0) (by decide)⟩
  have hno : ∀ b ∈ ls, (Value.slice A n c).ownBlock = none ∨ (Value.slice A n c).ownBlock ≠ b.v.ownBlock := fun b hb => by
    cases hv : (Value.slice A n c).ownBlock with
    | none => exact .inl rfl
    | some i =>
      refine .inr fun e => ?_
      rcases hK b hb with q | q
      · rw [q] at e; cases e
      · exact q (e.symm.trans hv.symm)
  refine ⟨he, ve', ⟨?_, ?_, fun b hb => ?_, ?_, ?_, h.low⟩, hw2, hw.below (fun i hi => ?_) hbase⟩
  · rw [List.length_append]; exact hB'
  · rw [List.length_append, held0_snoc]; exact hO'
  · rcases List.mem_append.1 hb with hb | hb
    · exact hks (h.each b hb)
    · rw [List.mem_singleton.1 hb]; exact hks hd
  · intro i j bi bj hij hi hj
    by_cases h1 : i < ls.length
    · rw [List.getElem?_append_left h1] at hi
      by_cases h2 : j < ls.length
      · rw [List.getElem?_append_left h2] at hj
        exact h.dis i j bi bj hij hi hj
      · rw [List.getElem?_append_right (by omega)] at hj
        obtain ⟨_, hj⟩ := List.getElem?_eq_some_iff.1 hj
        simp at hj
        rw [← hj]
        exact hK bi (List.mem_of_getElem? hi)
    · rw [List.getElem?_append_right (by omega)] at hi
      obtain ⟨h3, hi⟩ := List.getElem?_eq_some_iff.1 hi
      simp at hi h3
      by_cases h2 : j < ls.length
      · rw [List.getElem?_append_left h2] at hj
        rw [← hi]
        exact hno bj (List.mem_of_getElem? hj)
      · rw [List.getElem?_append_right (by omega)] at hj
        obtain ⟨h4, hj⟩ := List.getElem?_eq_some_iff.1 hj
        simp at h4
        omega
  · intro b hb
    rcases List.mem_append.1 hb with hb | hb
    · exact h.fine b hb
    · rw [List.mem_singleton.1 hb]; exact ⟨hn, by show ls.length + 1 ≤ _; omega⟩
  · rcases hi with rfl | hi
    · exact h.low
    · exact (h.own.lt i hi).1
/-- the Book is asked -/
theorem KeptE.apart {w : World} {base g : Nat} {ls : List BL} {ve : Value} (h : KeptE w base g ls ve) (hbase : base ≤ w.heap.size) (hl : ls.length ≤ 1000) (ht : TabB base w) :
    Calls Tryz.prog 28 #[.pointer (some ⟨g, 0, none⟩)] w fun e w' => e = .returned (.bool true) ∧ Below base w w' := by
  refine apartE_any g ls.length base ve ls w h.book h.own ?_ h.dis hbase hl h.fine ht
  intro i b hi
  obtain ⟨xs, hx⟩ := h.each b (List.mem_of_getElem? hi)
  exact ⟨xs, hx, fun h => absurd h (Nat.not_lt_zero _)⟩
end Go.Proofs.YtopcnlophmplgaaGreatDoor
