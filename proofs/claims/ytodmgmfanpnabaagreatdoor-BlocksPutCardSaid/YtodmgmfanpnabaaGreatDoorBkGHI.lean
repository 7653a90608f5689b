/-
  The laws' Book: Apart, of a Book that keeps lists of entries alone, each in memory of its own; the Book as a law uses it.
  The laws' Book: Apart, of a Book that keeps lists of bytes and lists of entries, each in memory of its own; the Book as a law uses it.
  The laws' Book: a list of bytes or of entries more, in a Book that keeps both.
-/
import Derived.Test.YtodmgmfanpnabaaGreatDoorBookE
import Derived.Test.YtodmgmfanpnabaaGreatDoorBkN
import Derived.Test.YtodmgmfanpnabaaGreatDoorBookB
namespace Go.Proofs.YtodmgmfanpnabaaGreatDoor
open Go.RowKit
set_option linter.unusedVariables false
set_option maxRecDepth 100000

/-- the cells of a Book that keeps entries alone -/
def cellsE (n : Nat) (ve : Value) : Array Value := #[.int .i64 (n : Int), nilS, nilS, nilS, nilS, nilS, nilS, nilS, ve, nilS, nilS, nilS, nilS, nilS]
set_option maxHeartbeats 4000000 in
theorem apartE_any (g n base : Nat) (ve : Value) (ls : List BL) (w : World) (hB : BkIs w g (cellsE n ve)) (hown : w.ownsRow base 202 3 ve ls.length (held0 ls)) (hF : Filled entryK w base ls 0) (hD : Dis ls) (hbase : base ≤ w.heap.size) (hl : ls.length ≤ 1000)
    (hb : ∀ b ∈ ls, b.n ≤ 1099511627776 ∧ b.num ≤ 1000000) (ht : TabB base w) :
    Calls Tryz.prog 29 #[.pointer (some ⟨g, 0, none⟩)] w fun e w' => e = .returned (.bool true) ∧ Below base w w' := by
  have HLO : Hid (∀ i, Bks ls i → base ≤ i) := fun i ⟨b, hbm, hbi⟩ => by
    obtain ⟨j, hj⟩ := List.getElem?_of_mem hbm
    obtain ⟨xs, hx, _⟩ := hF j b hj
    exact (hx.lt i hbi).1
  have HLV : Hid (∀ i, ve.ownBlock = some i → base ≤ i) := fun i hi => (hown.lt i hi).1
  have FF := Lib.hid (fillEntry_any g base _ ve ls w hB rfl hown hF hD hbase hl hb ht)
  have HB := Lib.hid hB
  have HD := Lib.hid hD; have HBD := Lib.hid hb; have HT := Lib.hid ht
  clear hB hown hF hD hb ht
  go_enter Tryz.func29, Tryz.ntmps29
  go_wp2_with fail
  refine (fillByte_no g _ w HB.out rfl).mono ?_
  rintro e w' ⟨rfl, rfl⟩
  go_wp2_with fail
  refine (fillId_no g _ w HB.out rfl).mono ?_
  rintro e w' ⟨rfl, rfl⟩
  go_wp2_with fail
  refine (fillNum_no g _ w HB.out rfl).mono ?_
  rintro e w' ⟨rfl, rfl⟩
  go_wp2_with fail
  refine (fillInt_no g _ w HB.out rfl).mono ?_
  rintro e w' ⟨rfl, rfl⟩
  go_wp2_with fail
  refine (fillText_no g _ w HB.out rfl).mono ?_
  rintro e w' ⟨rfl, rfl⟩
  go_wp2_with fail
  refine (fillRow_no g _ w HB.out rfl).mono ?_
  rintro e w' ⟨rfl, rfl⟩
  go_wp2_with fail
  refine (fillChange_no g _ w HB.out rfl).mono ?_
  rintro e w' ⟨rfl, rfl⟩
  go_wp2_with fail
  refine FF.out.mono ?_
  rintro e w1 ⟨rfl, m1, hm1, he1, hB1, hown1, hF1, hw1⟩
  have hm1' : m1 = ls.length := by
    injection he1 with _ he1
    omega
  subst hm1'
  have hbel1 := hw1.below HLO.out hbase
  have HB1 := Lib.hid hB1; have HBEL1 := Lib.hid hbel1
  have hst := first_grw hF1 HD.out
  have GG := Lib.hid (growEntry_any g base _ ve ls (ls.map fun b => (b, nilS)) w1 hB1 rfl (by rw [List.map_map]; exact List.map_id'' (fun _ => rfl) ls) hown1 hst.1 hst.2 (Nat.le_trans hbase hbel1.size) hl HBD.out (fun W hW => HT.out W (hbel1.trans hW)))
  clear FF he1 hB1 hown1 hF1 hbel1 hst hw1
  go_wp2_with fail
  refine (fillFile_no g _ w1 HB1.out rfl).mono ?_
  rintro e w' ⟨rfl, rfl⟩
  go_wp2_with fail
  refine (fillItem_no g _ w1 HB1.out rfl).mono ?_
  rintro e w' ⟨rfl, rfl⟩
  go_wp2_with fail
  refine (fillSaid_no g _ w1 HB1.out rfl).mono ?_
  rintro e w' ⟨rfl, rfl⟩
  go_wp2_with fail
  refine (fillMsg_no g _ w1 HB1.out rfl).mono ?_
  rintro e w' ⟨rfl, rfl⟩
  go_wp2_with fail
  refine (fillEvent_no g _ w1 HB1.out rfl).mono ?_
  rintro e w' ⟨rfl, rfl⟩
  go_wp2_with fail
  refine (growByte_no g _ w1 HB1.out rfl).mono ?_
  rintro e w' ⟨rfl, rfl⟩
  go_wp2_with fail
  refine (growId_no g _ w1 HB1.out rfl).mono ?_
  rintro e w' ⟨rfl, rfl⟩
  go_wp2_with fail
  refine (growNum_no g _ w1 HB1.out rfl).mono ?_
  rintro e w' ⟨rfl, rfl⟩
  go_wp2_with fail
  refine (growInt_no g _ w1 HB1.out rfl).mono ?_
  rintro e w' ⟨rfl, rfl⟩
  go_wp2_with fail
  refine (growText_no g _ w1 HB1.out rfl).mono ?_
  rintro e w' ⟨rfl, rfl⟩
  go_wp2_with fail
  refine (growRow_no g _ w1 HB1.out rfl).mono ?_
  rintro e w' ⟨rfl, rfl⟩
  go_wp2_with fail
  refine (growChange_no g _ w1 HB1.out rfl).mono ?_
  rintro e w' ⟨rfl, rfl⟩
  go_wp2_with fail
  refine GG.out.mono ?_
  rintro e w2 ⟨rfl, m2, gs, hm2, he2, hgs, hB2, hown2, hG2, hD2, hw2⟩
  have hm2' : m2 = ls.length := by
    injection he2 with _ he2
    omega
  have hgl : gs.length = ls.length := by rw [← hgs]; simp
  have hbel2 := hw2.below (fun i hi => hi.elim (HLO.out i) (HLV.out i)) (Nat.le_trans hbase HBEL1.out.size)
  have HB2 := Lib.hid hB2
  have HBEL2 := Lib.hid (HBEL1.out.trans hbel2)
  have LL := Lib.hid (lookEntry_any g base _ ve gs w2 hB2 rfl (Nat.le_trans hbase HBEL2.out.size) (by rw [hgl]; exact hown2) (by rw [hgl, ← hm2']; exact hG2) (by omega) (fun p hp => HBD.out p.1 (by rw [← hgs]; exact List.mem_map_of_mem hp)) (fun W hW => HT.out W (HBEL2.out.trans hW)))
  clear GG he2 hB2 hown2 hG2 hD2 hbel2 hw2 hm2' hgl HBEL1 HB1 hgs hm2
  go_wp2_with fail
  refine (growFile_no g _ w2 HB2.out rfl).mono ?_
  rintro e w' ⟨rfl, rfl⟩
  go_wp2_with fail
  refine (growItem_no g _ w2 HB2.out rfl).mono ?_
  rintro e w' ⟨rfl, rfl⟩
  go_wp2_with fail
  refine (growSaid_no g _ w2 HB2.out rfl).mono ?_
  rintro e w' ⟨rfl, rfl⟩
  go_wp2_with fail
  refine (growMsg_no g _ w2 HB2.out rfl).mono ?_
  rintro e w' ⟨rfl, rfl⟩
  go_wp2_with fail
  refine (growEvent_no g _ w2 HB2.out rfl).mono ?_
  rintro e w' ⟨rfl, rfl⟩
  go_wp2_with fail
  refine (lookByte_no g _ w2 HB2.out rfl).mono ?_
  rintro e w' ⟨rfl, rfl⟩
  go_wp2_with fail
  refine (lookId_no g _ w2 HB2.out rfl).mono ?_
  rintro e w' ⟨rfl, rfl⟩
  go_wp2_with fail
  refine (lookNum_no g _ w2 HB2.out rfl).mono ?_
  rintro e w' ⟨rfl, rfl⟩
  go_wp2_with fail
  refine (lookInt_no g _ w2 HB2.out rfl).mono ?_
  rintro e w' ⟨rfl, rfl⟩
  go_wp2_with fail
  refine (lookText_no g _ w2 HB2.out rfl).mono ?_
  rintro e w' ⟨rfl, rfl⟩
  go_wp2_with fail
  refine (lookRow_no g _ w2 HB2.out rfl).mono ?_
  rintro e w' ⟨rfl, rfl⟩
  go_wp2_with fail
  refine (lookChange_no g _ w2 HB2.out rfl).mono ?_
  rintro e w' ⟨rfl, rfl⟩
  go_wp2_with fail
  refine LL.out.mono ?_
  rintro e w3 ⟨rfl, hg3⟩
  have HB3 := Lib.hid (HB2.out.grown hg3 (by simp))
  have HBEL3 := Lib.hid (HBEL2.out.grown hg3 (Nat.le_trans hbase HBEL2.out.size) (by simp))
  clear LL hg3 HB2 HBEL2
  go_wp2_with fail
  refine (lookFile_no g _ w3 HB3.out rfl).mono ?_
  rintro e w' ⟨rfl, rfl⟩
  go_wp2_with fail
  refine (lookItem_no g _ w3 HB3.out rfl).mono ?_
  rintro e w' ⟨rfl, rfl⟩
  go_wp2_with fail
  refine (lookSaid_no g _ w3 HB3.out rfl).mono ?_
  rintro e w' ⟨rfl, rfl⟩
  go_wp2_with fail
  refine (lookMsg_no g _ w3 HB3.out rfl).mono ?_
  rintro e w' ⟨rfl, rfl⟩
  go_wp2_with fail
  refine (lookEvent_no g _ w3 HB3.out rfl).mono ?_
  rintro e w' ⟨rfl, rfl⟩
  go_wp2
  go_ret
  exact ⟨rfl, HBEL3.out⟩

/-- is it a list of entries of the law's own? -/
def Kd (w : World) (base : Nat) (b : BL) : Prop := ∃ xs, w.ownsRow base 130 4 b.v b.n xs
/-- a Book at g with the lists ls of entries -/
structure KeptE (w : World) (base g : Nat) (ls : List BL) (ve : Value) : Prop where
  book : BkIs w g (cellsE ls.length ve)
  own : w.ownsRow base 202 3 ve ls.length (held0 ls)
  each : ∀ b ∈ ls, Kd w base b
  dis : Dis ls
  fine : ∀ b ∈ ls, b.n ≤ 1099511627776 ∧ b.num ≤ 1000000
  low : base ≤ g
theorem keptE_start {w : World} {base : Nat} (hs : base ≤ w.heap.size) : KeptE (w.alloc (.cells (cellsE 0 nilS) 53)) base w.heap.size [] nilS :=
  ⟨heap_alloc_new w _, World.ownsRow_nil _ _ _ _, fun b hb => (by cases hb), fun i j bi bj _ h => (by simp at h), fun b hb => (by cases hb), hs⟩
/-- is i a block of that type? -/
def Ty (w : World) (t : TypeId) (i : Nat) : Prop := ∃ c fz, w.heap[i]? = some (.cells c t fz)
theorem Ty.ne {w : World} {t t' : TypeId} {i : Nat} {c : Array Value} {fz : Nat × Nat} (h : Ty w t i) (h' : w.heap[i]? = some (.cells c t' fz)) : t = t' := by
  obtain ⟨c2, fz2, e⟩ := h
  rw [h'] at e
  injection e with e
  injection e with _ e
  exact e.symm
theorem own_ty {w w' : World} {base e k n : Nat} {v : Value} {xs : List Value} (h : w.ownsRow base e k v n xs) (hk : ∀ i, Ty w e i → w'.heap[i]? = w.heap[i]?) : w'.ownsRow base e k v n xs := by
  refine ⟨h.1, ?_⟩
  rcases h.2 with h2 | ⟨g, cap, cur, hv, hg, hh, r⟩
  · exact .inl h2
  · exact .inr ⟨g, cap, cur, hv, hg, (hk g ⟨_, _, hh⟩).trans hh, r⟩
/-- where no block of the Book's, of what it holds, or of entries is written, it stays -/
theorem KeptE.keep {w w' : World} {base g : Nat} {ls : List BL} {ve : Value} (h : KeptE w base g ls ve) (hk : ∀ i, (Ty w 53 i ∨ Ty w 202 i ∨ Ty w 130 i) → w'.heap[i]? = w.heap[i]?) : KeptE w' base g ls ve :=
  ⟨h.book.keep (hk g (.inl ⟨_, _, h.book⟩)), own_ty h.own fun i hi => hk i (.inr (.inl hi)), fun b hb => by obtain ⟨xs, hx⟩ := h.each b hb; exact ⟨xs, own_ty hx fun i hi => hk i (.inr (.inr hi))⟩, h.dis, h.fine, h.low⟩
theorem Ty.lt {w : World} {t : TypeId} {i : Nat} (h : Ty w t i) : i < w.heap.size := by obtain ⟨c, fz, e⟩ := h; exact (Array.getElem?_eq_some_iff.1 e).1
theorem KeptE.below {w w' : World} {base g : Nat} {ls : List BL} {ve : Value} (h : KeptE w base g ls ve) (hb : Below w.heap.size w w') : KeptE w' base g ls ve :=
  h.keep fun i hi => hb.block i (by rcases hi with hi | hi | hi <;> exact hi.lt)
/-- one list more -/
theorem KeptE.entries {w : World} {base g : Nat} {ls : List BL} {ve : Value} (h : KeptE w base g ls ve) (hbase : base ≤ w.heap.size) (A : Option Addr) (n c : Nat) (hl : ls.length ≤ 900) (hn : n ≤ 1099511627776) (hd : Kd w base ⟨A, n, c, ls.length + 1⟩) (hK : ∀ b ∈ ls, b.v.ownBlock = none ∨ b.v.ownBlock ≠ (Value.slice A n c).ownBlock) :
    Calls Tryz.prog 36 #[.pointer (some ⟨g, 0, none⟩), .slice A n c] w fun e w' => e = .returned (.tuple #[]) ∧ ∃ ve', KeptE w' base g (ls ++ [⟨A, n, c, ls.length + 1⟩]) ve' ∧ Wrote (fun i => Ty w 53 i ∨ Ty w 202 i) w w' ∧ Below base w w' := by
  refine (entries_any g ls.length ls.length base (cellsE ls.length ve) ve (held0 ls) A n c w h.book rfl rfl rfl h.own hbase (by omega) (by omega)).mono ?_
  rintro e w' ⟨he, ve', hB', hO', hw, hat⟩
  have hw2 : Wrote (fun i => Ty w 53 i ∨ Ty w 202 i) w w' := hw.mono fun i _ hi => by
    rcases hi with rfl | hi
    · exact .inl ⟨_, _, h.book⟩
    · refine .inr ?_
      rcases h.own.2 with ⟨h2, _⟩ | ⟨g', cap, cur, hv, _, hh, _⟩
      · rw [h2] at hi; cases hi
      · rw [hv] at hi; injection hi with hi; subst hi; exact ⟨_, _, hh⟩
  have hks : ∀ {b : BL}, Kd w base b → Kd w' base b := fun {b} ⟨xs, hx⟩ => ⟨xs, own_ty hx fun i hi => hw2.block i hi.lt fun hq => by
    obtain ⟨c0, f0, e0⟩ := hi
    rcases hq with hq | hq
    · exact absurd (hq.ne e0) (by decide)
    · exact absurd (hq.ne e0) (by decide)⟩
  have hno : ∀ b ∈ ls, (Value.slice A n c).ownBlock = none ∨ (Value.slice A n c).ownBlock ≠ b.v.ownBlock := fun b hb => by
    cases hv : (Value.slice A n c).ownBlock with
    | none => exact .inl rfl
    | some i =>
      refine .inr fun e => ?_
      rcases hK b hb with q | q
      · rw [q] at e; cases e
      · exact q (e.symm.trans hv.symm)
  refine ⟨he, ve', ⟨?_, ?_, fun b hb => ?_, ?_, ?_, h.low⟩, hw2, hw.below (fun i hi => ?_) hbase⟩
  · rw [List.length_append]; exact hB'
  · rw [List.length_append, held0_snoc]; exact hO'
  · rcases List.mem_append.1 hb with hb | hb
    · exact hks (h.each b hb)
    · rw [List.mem_singleton.1 hb]; exact hks hd
  · intro i j bi bj hij hi hj
    by_cases h1 : i < ls.length
    · rw [List.getElem?_append_left h1] at hi
      by_cases h2 : j < ls.length
      · rw [List.getElem?_append_left h2] at hj
        exact h.dis i j bi bj hij hi hj
      · rw [List.getElem?_append_right (by omega)] at hj
        obtain ⟨_, hj⟩ := List.getElem?_eq_some_iff.1 hj
        simp at hj
        rw [← hj]
        exact hK bi (List.mem_of_getElem? hi)
    · rw [List.getElem?_append_right (by omega)] at hi
      obtain ⟨h3, hi⟩ := List.getElem?_eq_some_iff.1 hi
      simp at hi h3
      by_cases h2 : j < ls.length
      · rw [List.getElem?_append_left h2] at hj
        rw [← hi]
        exact hno bj (List.mem_of_getElem? hj)
      · rw [List.getElem?_append_right (by omega)] at hj
        obtain ⟨h4, hj⟩ := List.getElem?_eq_some_iff.1 hj
        simp at h4
        omega
  · intro b hb
    rcases List.mem_append.1 hb with hb | hb
    · exact h.fine b hb
    · rw [List.mem_singleton.1 hb]; exact ⟨hn, by show ls.length + 1 ≤ _; omega⟩
  · rcases hi with rfl | hi
    · exact h.low
    · exact (h.own.lt i hi).1
/-- the Book is asked -/
theorem KeptE.apart {w : World} {base g : Nat} {ls : List BL} {ve : Value} (h : KeptE w base g ls ve) (hbase : base ≤ w.heap.size) (hl : ls.length ≤ 1000) (ht : TabB base w) :
    Calls Tryz.prog 29 #[.pointer (some ⟨g, 0, none⟩)] w fun e w' => e = .returned (.bool true) ∧ Below base w w' := by
  refine apartE_any g ls.length base ve ls w h.book h.own ?_ h.dis hbase hl h.fine ht
  intro i b hi
  obtain ⟨xs, hx⟩ := h.each b (List.mem_of_getElem? hi)
  exact ⟨xs, hx, fun h => absurd h (Nat.not_lt_zero _)⟩
end Go.Proofs.YtodmgmfanpnabaaGreatDoor

namespace Go.Proofs.YtodmgmfanpnabaaGreatDoor
open Go.RowKit
set_option linter.unusedVariables false
set_option maxRecDepth 100000

theorem ty_own {w : World} {base e k n i : Nat} {v : Value} {xs : List Value} (h : w.ownsRow base e k v n xs) (hi : v.ownBlock = some i) : Ty w e i := by
  rcases h.2 with ⟨h2, _⟩ | ⟨g', cap, cur, hv, _, hh, _⟩
  · rw [h2] at hi; cases hi
  · rw [hv] at hi; injection hi with hi; subst hi; exact ⟨_, _, hh⟩
theorem Ty.uniq {w : World} {t t' : TypeId} {i : Nat} (h : Ty w t i) (h' : Ty w t' i) : t = t' := by obtain ⟨c, fz, e⟩ := h'; exact h.ne e
/-- all of these blocks are of other types -/
def Off (w : World) (e : TypeId) (S : Nat → Prop) : Prop := ∀ i, S i → ∃ t, t ≠ e ∧ Ty w t i
theorem Off.row {w w' : World} {e : TypeId} {S : Nat → Prop} (hS : Off w e S) (hw : Wrote S w w') {base k n : Nat} {v : Value} {xs : List Value} (h : w.ownsRow base e k v n xs) : w'.ownsRow base e k v n xs :=
  hw.row h fun g hg hs => by obtain ⟨t, hne, ht⟩ := hS g hs; exact hne (ht.uniq (ty_own h hg))
theorem Off.filled {K : Kn} {w w' : World} {S : Nat → Prop} (hS : Off w K.e S) (hw : Wrote S w w') {base m : Nat} {ls : List BL} (h : Filled K w base ls m) : Filled K w' base ls m := fun i b hi => by
  obtain ⟨xs, hx, he⟩ := h i b hi
  exact ⟨xs, hS.row hw hx, he⟩
theorem Off.grw {K : Kn} {w w' : World} {S : Nat → Prop} (hS : Off w K.e S) (hw : Wrote S w w') {base m : Nat} {gs : List (BL × Value)} (h : Grw K w base gs m) : Grw K w' base gs m := fun i b lv hi => by
  obtain ⟨h1, h2, h3⟩ := h i b lv hi
  exact ⟨hS.row hw h1, fun hm => hS.row hw (h2 hm), h3⟩
theorem off_bks {K : Kn} {w : World} {base m : Nat} {ls : List BL} {e : TypeId} (h : Filled K w base ls m) (hne : K.e ≠ e) : Off w e (Bks ls) := fun i ⟨b, hb, hi⟩ => by
  obtain ⟨j, hj⟩ := List.getElem?_of_mem hb
  obtain ⟨xs, hx, _⟩ := h j b hj
  exact ⟨_, hne, ty_own hx hi⟩
theorem off_both {K : Kn} {w : World} {base m n : Nat} {ls : List BL} {e : TypeId} {vb : Value} {xs : List Value} (h : Filled K w base ls m) (ho : w.ownsRow base K.h 3 vb n xs) (h1 : K.e ≠ e) (h2 : K.h ≠ e) : Off w e (fun i => Bks ls i ∨ vb.ownBlock = some i) := fun i hi =>
  hi.elim (off_bks h h1 i) fun hi => ⟨_, h2, ty_own ho hi⟩
theorem off_none (w : World) (e : TypeId) : Off w e (fun i => (none : Option Nat) = some i) := fun i hi => by cases hi
theorem low_bks {K : Kn} {w : World} {base m : Nat} {ls : List BL} (h : Filled K w base ls m) : ∀ i, Bks ls i → base ≤ i := fun i ⟨b, hbm, hbi⟩ => by
  obtain ⟨j, hj⟩ := List.getElem?_of_mem hbm
  obtain ⟨xs, hx, _⟩ := h j b hj
  exact (hx.lt i hbi).1

/-- the cells of a Book that keeps bytes and entries -/
def cellsBE (n : Nat) (vb ve : Value) : Array Value := #[.int .i64 (n : Int), vb, nilS, nilS, nilS, nilS, nilS, nilS, ve, nilS, nilS, nilS, nilS, nilS]
set_option maxHeartbeats 4000000 in
theorem apartBE_any (g n base : Nat) (vb ve : Value) (lb le : List BL) (w : World) (hB : BkIs w g (cellsBE n vb ve)) (hob : w.ownsRow base 173 3 vb lb.length (held0 lb)) (hoe : w.ownsRow base 202 3 ve le.length (held0 le))
    (hFb : Filled byteK w base lb 0) (hFe : Filled entryK w base le 0) (hDb : Dis lb) (hDe : Dis le) (hbase : base ≤ w.heap.size) (hlb : lb.length ≤ 1000) (hle : le.length ≤ 1000)
    (hbb : ∀ b ∈ lb, b.n ≤ 1099511627776 ∧ b.num ≤ 1000000) (hbe : ∀ b ∈ le, b.n ≤ 1099511627776 ∧ b.num ≤ 1000000) (ht : TabB base w) :
    Calls Tryz.prog 29 #[.pointer (some ⟨g, 0, none⟩)] w fun e w' => e = .returned (.bool true) ∧ Below base w w' := by
  have HLB := Lib.hid (low_bks hFb); have HLE := Lib.hid (low_bks hFe)
  have HVB : Hid (∀ i, vb.ownBlock = some i → base ≤ i) := fun i hi => (hob.lt i hi).1
  have HVE : Hid (∀ i, ve.ownBlock = some i → base ≤ i) := fun i hi => (hoe.lt i hi).1
  have FB := Lib.hid (fillByte_bk g base _ vb lb w hB rfl hob hFb hDb hbase hlb hbb)
  have O1 := Lib.hid (And.intro (off_bks (e := 130) hFb (by decide)) (off_bks (e := 202) hFb (by decide)))
  have HB := Lib.hid hB; have HOE := Lib.hid hoe; have HFE := Lib.hid hFe
  have HDB := Lib.hid hDb; have HDE := Lib.hid hDe; have HBB := Lib.hid hbb; have HBE := Lib.hid hbe; have HT := Lib.hid ht
  clear hB hob hoe hFb hFe hDb hDe hbb hbe ht
  go_enter Tryz.func29, Tryz.ntmps29
  go_wp2_with fail
  refine FB.out.mono ?_
  rintro e w1 ⟨rfl, m1, hm1, he1, hB1, hob1, hFb1, hw1⟩
  have hm1' : m1 = lb.length := by
    injection he1 with _ he1
    omega
  subst hm1'
  have hbel1 := hw1.below HLB.out hbase
  have hoe1 := O1.out.2.row hw1 HOE.out
  have hFe1 := Off.filled (K := entryK) O1.out.1 hw1 HFE.out
  have HB1 := Lib.hid hB1; have HBEL1 := Lib.hid hbel1; have HOB1 := Lib.hid hob1; have HFB1 := Lib.hid hFb1
  have O2 := Lib.hid (And.intro (off_bks (e := 5) hFe1 (by decide)) (off_bks (e := 173) hFe1 (by decide)))
  have FE := Lib.hid (fillEntry_any g base _ ve le w1 hB1 rfl hoe1 hFe1 HDE.out (Nat.le_trans hbase hbel1.size) hle HBE.out (fun W hW => HT.out W (hbel1.trans hW)))
  clear FB O1 he1 hB1 hob1 hFb1 hbel1 hw1 hoe1 hFe1 HOE HFE HB hm1
  go_wp2_with fail
  refine (fillId_no g _ w1 HB1.out rfl).mono ?_
  rintro e w' ⟨rfl, rfl⟩
  go_wp2_with fail
  refine (fillNum_no g _ w1 HB1.out rfl).mono ?_
  rintro e w' ⟨rfl, rfl⟩
  go_wp2_with fail
  refine (fillInt_no g _ w1 HB1.out rfl).mono ?_
  rintro e w' ⟨rfl, rfl⟩
  go_wp2_with fail
  refine (fillText_no g _ w1 HB1.out rfl).mono ?_
  rintro e w' ⟨rfl, rfl⟩
  go_wp2_with fail
  refine (fillRow_no g _ w1 HB1.out rfl).mono ?_
  rintro e w' ⟨rfl, rfl⟩
  go_wp2_with fail
  refine (fillChange_no g _ w1 HB1.out rfl).mono ?_
  rintro e w' ⟨rfl, rfl⟩
  go_wp2_with fail
  refine FE.out.mono ?_
  rintro e w2 ⟨rfl, m2, hm2, he2, hB2, hoe2, hFe2, hw2⟩
  have hm2' : m2 = le.length := by
    injection he2 with _ he2
    omega
  subst hm2'
  have hbel2 := HBEL1.out.trans (hw2.below HLE.out (Nat.le_trans hbase HBEL1.out.size))
  have hob2 := O2.out.2.row hw2 HOB1.out
  have hFb2 := Off.filled (K := byteK) O2.out.1 hw2 HFB1.out
  have hst := first_grw hFb2 HDB.out
  have HB2 := Lib.hid hB2; have HBEL2 := Lib.hid hbel2; have HOE2 := Lib.hid hoe2; have HFE2 := Lib.hid hFe2
  have O3 := Lib.hid (And.intro (off_both (K := byteK) (e := 130) hFb2 hob2 (by decide) (by decide)) (off_both (K := byteK) (e := 202) hFb2 hob2 (by decide) (by decide)))
  have GB := Lib.hid (growByte_bk g base _ vb lb (lb.map fun b => (b, nilS)) w2 hB2 rfl (by rw [List.map_map]; exact List.map_id'' (fun _ => rfl) lb) hob2 hst.1 hst.2 (Nat.le_trans hbase hbel2.size) hlb HBB.out)
  clear FE O2 he2 hB2 hoe2 hFe2 hbel2 hw2 hob2 hFb2 hst HOB1 HFB1 HB1 HBEL1 hm2
  go_wp2_with fail
  refine (fillFile_no g _ w2 HB2.out rfl).mono ?_
  rintro e w' ⟨rfl, rfl⟩
  go_wp2_with fail
  refine (fillItem_no g _ w2 HB2.out rfl).mono ?_
  rintro e w' ⟨rfl, rfl⟩
  go_wp2_with fail
  refine (fillSaid_no g _ w2 HB2.out rfl).mono ?_
  rintro e w' ⟨rfl, rfl⟩
  go_wp2_with fail
  refine (fillMsg_no g _ w2 HB2.out rfl).mono ?_
  rintro e w' ⟨rfl, rfl⟩
  go_wp2_with fail
  refine (fillEvent_no g _ w2 HB2.out rfl).mono ?_
  rintro e w' ⟨rfl, rfl⟩
  go_wp2_with fail
  refine GB.out.mono ?_
  rintro e w3 ⟨rfl, m3, gb, hm3, he3, hgb, hB3, hob3, hGb3, hDb3, hw3⟩
  have hm3' : m3 = lb.length := by
    injection he3 with _ he3
    omega
  subst hm3'
  have hgbl : gb.length = lb.length := by rw [← hgb]; simp
  have hbel3 := HBEL2.out.trans (hw3.below (fun i hi => hi.elim (HLB.out i) (HVB.out i)) (Nat.le_trans hbase HBEL2.out.size))
  have hoe3 := O3.out.2.row hw3 HOE2.out
  have hFe3 := Off.filled (K := entryK) O3.out.1 hw3 HFE2.out
  have hst := first_grw hFe3 HDE.out
  have HB3 := Lib.hid hB3; have HBEL3 := Lib.hid hbel3; have HOB3 := Lib.hid hob3; have HGB3 := Lib.hid hGb3; have HGBL := Lib.hid hgbl; have HGB := Lib.hid hgb
  have O4 := Lib.hid (And.intro (off_both (K := entryK) (e := 5) hFe3 hoe3 (by decide) (by decide)) (off_both (K := entryK) (e := 173) hFe3 hoe3 (by decide) (by decide)))
  have GE := Lib.hid (growEntry_any g base _ ve le (le.map fun b => (b, nilS)) w3 hB3 rfl (by rw [List.map_map]; exact List.map_id'' (fun _ => rfl) le) hoe3 hst.1 hst.2 (Nat.le_trans hbase hbel3.size) hle HBE.out (fun W hW => HT.out W (hbel3.trans hW)))
  clear GB O3 he3 hB3 hob3 hGb3 hDb3 hw3 hgbl hgb hbel3 hoe3 hFe3 hst HOE2 HFE2 HB2 HBEL2 hm3
  go_wp2_with fail
  refine (growId_no g _ w3 HB3.out rfl).mono ?_
  rintro e w' ⟨rfl, rfl⟩
  go_wp2_with fail
  refine (growNum_no g _ w3 HB3.out rfl).mono ?_
  rintro e w' ⟨rfl, rfl⟩
  go_wp2_with fail
  refine (growInt_no g _ w3 HB3.out rfl).mono ?_
  rintro e w' ⟨rfl, rfl⟩
  go_wp2_with fail
  refine (growText_no g _ w3 HB3.out rfl).mono ?_
  rintro e w' ⟨rfl, rfl⟩
  go_wp2_with fail
  refine (growRow_no g _ w3 HB3.out rfl).mono ?_
  rintro e w' ⟨rfl, rfl⟩
  go_wp2_with fail
  refine (growChange_no g _ w3 HB3.out rfl).mono ?_
  rintro e w' ⟨rfl, rfl⟩
  go_wp2_with fail
  refine GE.out.mono ?_
  rintro e w4 ⟨rfl, m4, ge, hm4, he4, hge, hB4, hoe4, hGe4, hDe4, hw4⟩
  have hm4' : m4 = le.length := by
    injection he4 with _ he4
    omega
  subst hm4'
  have hgel : ge.length = le.length := by rw [← hge]; simp
  have hbel4 := HBEL3.out.trans (hw4.below (fun i hi => hi.elim (HLE.out i) (HVE.out i)) (Nat.le_trans hbase HBEL3.out.size))
  have hob4 := O4.out.2.row hw4 HOB3.out
  have hGb4 := Off.grw (K := byteK) O4.out.1 hw4 HGB3.out
  have HB4 := Lib.hid hB4; have HBEL4 := Lib.hid hbel4; have HOE4 := Lib.hid hoe4; have HGE4 := Lib.hid hGe4; have HGEL := Lib.hid hgel; have HGE := Lib.hid hge
  have LB := Lib.hid (lookByte_bk g base _ vb gb w4 hB4 rfl (by rw [HGBL.out]; exact hob4) (by rw [HGBL.out]; exact hGb4) (by rw [HGBL.out]; exact hlb) (fun p hp => HBB.out p.1 (by rw [← HGB.out]; exact List.mem_map_of_mem hp)))
  clear GE O4 he4 hB4 hoe4 hGe4 hDe4 hw4 hgel hge hbel4 hob4 hGb4 HOB3 HGB3 HB3 HBEL3 hm4
  go_wp2_with fail
  refine (growFile_no g _ w4 HB4.out rfl).mono ?_
  rintro e w' ⟨rfl, rfl⟩
  go_wp2_with fail
  refine (growItem_no g _ w4 HB4.out rfl).mono ?_
  rintro e w' ⟨rfl, rfl⟩
  go_wp2_with fail
  refine (growSaid_no g _ w4 HB4.out rfl).mono ?_
  rintro e w' ⟨rfl, rfl⟩
  go_wp2_with fail
  refine (growMsg_no g _ w4 HB4.out rfl).mono ?_
  rintro e w' ⟨rfl, rfl⟩
  go_wp2_with fail
  refine (growEvent_no g _ w4 HB4.out rfl).mono ?_
  rintro e w' ⟨rfl, rfl⟩
  go_wp2_with fail
  refine LB.out.mono ?_
  rintro e w5 ⟨rfl, hg5⟩
  have hbel5 := HBEL4.out.grown hg5 (Nat.le_trans hbase HBEL4.out.size) (by simp)
  have hB5 := HB4.out.grown hg5 (by simp)
  have hGe5 := Off.grw (K := entryK) (off_none w4 _) (Wrote.grown hg5) HGE4.out
  have HB5 := Lib.hid hB5; have HBEL5 := Lib.hid hbel5
  have LE := Lib.hid (lookEntry_any g base _ ve ge w5 hB5 rfl (Nat.le_trans hbase hbel5.size) (by rw [HGEL.out]; exact own_none HOE4.out hg5) (by rw [HGEL.out]; exact hGe5) (by rw [HGEL.out]; exact hle) (fun p hp => HBE.out p.1 (by rw [← HGE.out]; exact List.mem_map_of_mem hp)) (fun W hW => HT.out W (hbel5.trans hW)))
  clear LB hg5 hbel5 hB5 hGe5 HB4 HBEL4 HOE4 HGE4
  go_wp2_with fail
  refine (lookId_no g _ w5 HB5.out rfl).mono ?_
  rintro e w' ⟨rfl, rfl⟩
  go_wp2_with fail
  refine (lookNum_no g _ w5 HB5.out rfl).mono ?_
  rintro e w' ⟨rfl, rfl⟩
  go_wp2_with fail
  refine (lookInt_no g _ w5 HB5.out rfl).mono ?_
  rintro e w' ⟨rfl, rfl⟩
  go_wp2_with fail
  refine (lookText_no g _ w5 HB5.out rfl).mono ?_
  rintro e w' ⟨rfl, rfl⟩
  go_wp2_with fail
  refine (lookRow_no g _ w5 HB5.out rfl).mono ?_
  rintro e w' ⟨rfl, rfl⟩
  go_wp2_with fail
  refine (lookChange_no g _ w5 HB5.out rfl).mono ?_
  rintro e w' ⟨rfl, rfl⟩
  go_wp2_with fail
  refine LE.out.mono ?_
  rintro e w6 ⟨rfl, hg6⟩
  have HB6 := Lib.hid (HB5.out.grown hg6 (by simp))
  have HBEL6 := Lib.hid (HBEL5.out.grown hg6 (Nat.le_trans hbase HBEL5.out.size) (by simp))
  clear LE hg6 HB5 HBEL5
  go_wp2_with fail
  refine (lookFile_no g _ w6 HB6.out rfl).mono ?_
  rintro e w' ⟨rfl, rfl⟩
  go_wp2_with fail
  refine (lookItem_no g _ w6 HB6.out rfl).mono ?_
  rintro e w' ⟨rfl, rfl⟩
  go_wp2_with fail
  refine (lookSaid_no g _ w6 HB6.out rfl).mono ?_
  rintro e w' ⟨rfl, rfl⟩
  go_wp2_with fail
  refine (lookMsg_no g _ w6 HB6.out rfl).mono ?_
  rintro e w' ⟨rfl, rfl⟩
  go_wp2_with fail
  refine (lookEvent_no g _ w6 HB6.out rfl).mono ?_
  rintro e w' ⟨rfl, rfl⟩
  go_wp2
  go_ret
  exact ⟨rfl, HBEL6.out⟩

/-- is it a list of the law's own, of that kind? -/
def Kdk (K : Kn) (w : World) (base : Nat) (b : BL) : Prop := ∃ xs, w.ownsRow base K.e K.sz b.v b.n xs
/-- a Book at g with n lists: lb of bytes, le of entries -/
structure KeptBE (w : World) (base g n : Nat) (lb le : List BL) (vb ve : Value) : Prop where
  book : BkIs w g (cellsBE n vb ve)
  ownB : w.ownsRow base 173 3 vb lb.length (held0 lb)
  ownE : w.ownsRow base 202 3 ve le.length (held0 le)
  eachB : ∀ b ∈ lb, Kdk byteK w base b
  eachE : ∀ b ∈ le, Kdk entryK w base b
  disB : Dis lb
  disE : Dis le
  fineB : ∀ b ∈ lb, b.n ≤ 1099511627776 ∧ b.num ≤ 1000000
  fineE : ∀ b ∈ le, b.n ≤ 1099511627776 ∧ b.num ≤ 1000000
  low : base ≤ g
theorem keptBE_start {w : World} {base : Nat} (hs : base ≤ w.heap.size) : KeptBE (w.alloc (.cells (cellsBE 0 nilS nilS) 53)) base w.heap.size 0 [] [] nilS nilS :=
  ⟨heap_alloc_new w _, World.ownsRow_nil _ _ _ _, World.ownsRow_nil _ _ _ _, fun b hb => (by cases hb), fun b hb => (by cases hb), fun i j bi bj _ h => (by simp at h), fun i j bi bj _ h => (by simp at h), fun b hb => (by cases hb), fun b hb => (by cases hb), hs⟩
/-- the blocks that a Book and its lists lie in -/
def OfBook (g : Nat) (lb le : List BL) (vb ve : Value) (i : Nat) : Prop := i = g ∨ vb.ownBlock = some i ∨ ve.ownBlock = some i ∨ Bks lb i ∨ Bks le i
theorem own_keep {w w' : World} {base e k n : Nat} {v : Value} {xs : List Value} (h : w.ownsRow base e k v n xs) (hk : ∀ i, v.ownBlock = some i → w'.heap[i]? = w.heap[i]?) : w'.ownsRow base e k v n xs := by
  refine ⟨h.1, ?_⟩
  rcases h.2 with h2 | ⟨g, cap, cur, hv, hg, hh, r⟩
  · exact .inl h2
  · exact .inr ⟨g, cap, cur, hv, hg, (hk g (by rw [hv]; rfl)).trans hh, r⟩
section
variable {w w' : World} {base g n : Nat} {lb le : List BL} {vb ve : Value}
/-- where none of these is written, it stays -/
theorem KeptBE.keep (h : KeptBE w base g n lb le vb ve) (hk : ∀ i, OfBook g lb le vb ve i → w'.heap[i]? = w.heap[i]?) : KeptBE w' base g n lb le vb ve :=
  ⟨h.book.keep (hk g (.inl rfl)), own_keep h.ownB fun i hi => hk i (.inr (.inl hi)), own_keep h.ownE fun i hi => hk i (.inr (.inr (.inl hi))),
    fun b hb => by obtain ⟨xs, hx⟩ := h.eachB b hb; exact ⟨xs, own_keep hx fun i hi => hk i (.inr (.inr (.inr (.inl ⟨b, hb, hi⟩))))⟩,
    fun b hb => by obtain ⟨xs, hx⟩ := h.eachE b hb; exact ⟨xs, own_keep hx fun i hi => hk i (.inr (.inr (.inr (.inr ⟨b, hb, hi⟩))))⟩, h.disB, h.disE, h.fineB, h.fineE, h.low⟩
theorem KeptBE.lt (h : KeptBE w base g n lb le vb ve) {i : Nat} (hi : OfBook g lb le vb ve i) : base ≤ i ∧ i < w.heap.size := by
  rcases hi with rfl | hi | hi | ⟨b, hb, hi⟩ | ⟨b, hb, hi⟩
  · exact ⟨h.low, h.book.lt⟩
  · exact h.ownB.lt i hi
  · exact h.ownE.lt i hi
  · obtain ⟨xs, hx⟩ := h.eachB b hb; exact hx.lt i hi
  · obtain ⟨xs, hx⟩ := h.eachE b hb; exact hx.lt i hi
theorem KeptBE.below (h : KeptBE w base g n lb le vb ve) (hb : Below w.heap.size w w') : KeptBE w' base g n lb le vb ve := h.keep fun i hi => hb.block i (h.lt hi).2
/-- what Bytes and Entries write: the Book and what it holds of the kind -/
theorem KeptBE.apart (h : KeptBE w base g n lb le vb ve) (hbase : base ≤ w.heap.size) (hlb : lb.length ≤ 1000) (hle : le.length ≤ 1000) (ht : TabB base w) :
    Calls Tryz.prog 29 #[.pointer (some ⟨g, 0, none⟩)] w fun e w' => e = .returned (.bool true) ∧ Below base w w' :=
  apartBE_any g n base vb ve lb le w h.book h.ownB h.ownE (fun i b hi => by
    obtain ⟨xs, hx⟩ := h.eachB b (List.mem_of_getElem? hi)
    exact ⟨xs, hx, fun h => absurd h (Nat.not_lt_zero _)⟩) (fun i b hi => by
    obtain ⟨xs, hx⟩ := h.eachE b (List.mem_of_getElem? hi)
    exact ⟨xs, hx, fun h => absurd h (Nat.not_lt_zero _)⟩) h.disB h.disE hbase hlb hle h.fineB h.fineE ht
end
theorem dis_snoc {ls : List BL} {b : BL} (h : Dis ls) (hK : ∀ b' ∈ ls, b'.v.ownBlock = none ∨ b'.v.ownBlock ≠ b.v.ownBlock) : Dis (ls ++ [b]) := by
  have hno : ∀ b' ∈ ls, b.v.ownBlock = none ∨ b.v.ownBlock ≠ b'.v.ownBlock := fun b' hb => by
    cases hv : b.v.ownBlock with
    | none => exact .inl rfl
    | some i =>
      refine .inr fun e => ?_
      rcases hK b' hb with q | q
      · rw [q] at e; cases e
      · exact q (e.symm.trans hv.symm)
  intro i j bi bj hij hi hj
  by_cases h1 : i < ls.length
  · rw [List.getElem?_append_left h1] at hi
    by_cases h2 : j < ls.length
    · rw [List.getElem?_append_left h2] at hj
      exact h i j bi bj hij hi hj
    · rw [List.getElem?_append_right (by omega)] at hj
      obtain ⟨_, hj⟩ := List.getElem?_eq_some_iff.1 hj
      simp at hj
      rw [← hj]
      exact hK bi (List.mem_of_getElem? hi)
  · rw [List.getElem?_append_right (by omega)] at hi
    obtain ⟨h3, hi⟩ := List.getElem?_eq_some_iff.1 hi
    simp at hi h3
    by_cases h2 : j < ls.length
    · rw [List.getElem?_append_left h2] at hj
      rw [← hi]
      exact hno bj (List.mem_of_getElem? hj)
    · rw [List.getElem?_append_right (by omega)] at hj
      obtain ⟨h4, hj⟩ := List.getElem?_eq_some_iff.1 hj
      simp at h4
      omega
end Go.Proofs.YtodmgmfanpnabaaGreatDoor

namespace Go.Proofs.YtodmgmfanpnabaaGreatDoor
open Go.RowKit
set_option linter.unusedVariables false
set_option maxRecDepth 100000

section
variable {w w' : World} {base g n : Nat} {lb le : List BL} {vb ve : Value}
theorem KeptBE.bytes (h : KeptBE w base g n lb le vb ve) (hbase : base ≤ w.heap.size) (A : Option Addr) (nl c : Nat) (hl : lb.length ≤ 900) (hn : n ≤ 900) (hnl : nl ≤ 1099511627776) (hd : Kdk byteK w base ⟨A, nl, c, n + 1⟩)
    (hK : ∀ b ∈ lb, b.v.ownBlock = none ∨ b.v.ownBlock ≠ (Value.slice A nl c).ownBlock) :
    Calls Tryz.prog 28 #[.pointer (some ⟨g, 0, none⟩), .slice A nl c] w fun e w' => e = .returned (.tuple #[]) ∧ ∃ vb', KeptBE w' base g (n + 1) (lb ++ [⟨A, nl, c, n + 1⟩]) le vb' ve ∧ Wrote (fun i => i = g ∨ vb.ownBlock = some i) w w' ∧ Below base w w' := by
  refine (bytes_bk g n lb.length base (cellsBE n vb ve) vb (held0 lb) A nl c w h.book rfl rfl rfl h.ownB hbase (by omega) (by omega)).mono ?_
  rintro e w' ⟨he, vb', hB', hO', hw, hat⟩
  have hoff : ∀ {e : TypeId}, 53 ≠ e → 173 ≠ e → Off w e (fun i => i = g ∨ vb.ownBlock = some i) := fun {e} h1 h2 i hi => by
    rcases hi with rfl | hi
    · exact ⟨_, h1, ⟨_, _, h.book⟩⟩
    · exact ⟨_, h2, ty_own h.ownB hi⟩
  have hkb : ∀ {b : BL}, Kdk byteK w base b → Kdk byteK w' base b := fun {b} ⟨xs, hx⟩ => ⟨xs, (hoff (by decide) (by decide)).row hw hx⟩
  have hke : ∀ {b : BL}, Kdk entryK w base b → Kdk entryK w' base b := fun {b} ⟨xs, hx⟩ => ⟨xs, (hoff (by decide) (by decide)).row hw hx⟩
  refine ⟨he, vb', ⟨hB', ?_, (hoff (by decide) (by decide)).row hw h.ownE, fun b hb => ?_, fun b hb => hke (h.eachE b hb), dis_snoc h.disB hK, h.disE, fun b hb => ?_, h.fineE, h.low⟩, hw, hw.below (fun i hi => ?_) hbase⟩
  · rw [List.length_append, held0_snoc]; exact hO'
  · rcases List.mem_append.1 hb with hb | hb
    · exact hkb (h.eachB b hb)
    · rw [List.mem_singleton.1 hb]; exact hkb hd
  · rcases List.mem_append.1 hb with hb | hb
    · exact h.fineB b hb
    · rw [List.mem_singleton.1 hb]; exact ⟨hnl, by show n + 1 ≤ _; omega⟩
  · rcases hi with rfl | hi
    · exact h.low
    · exact (h.ownB.lt i hi).1
theorem KeptBE.entries (h : KeptBE w base g n lb le vb ve) (hbase : base ≤ w.heap.size) (A : Option Addr) (nl c : Nat) (hl : le.length ≤ 900) (hn : n ≤ 900) (hnl : nl ≤ 1099511627776) (hd : Kdk entryK w base ⟨A, nl, c, n + 1⟩)
    (hK : ∀ b ∈ le, b.v.ownBlock = none ∨ b.v.ownBlock ≠ (Value.slice A nl c).ownBlock) :
    Calls Tryz.prog 36 #[.pointer (some ⟨g, 0, none⟩), .slice A nl c] w fun e w' => e = .returned (.tuple #[]) ∧ ∃ ve', KeptBE w' base g (n + 1) lb (le ++ [⟨A, nl, c, n + 1⟩]) vb ve' ∧ Wrote (fun i => i = g ∨ ve.ownBlock = some i) w w' ∧ Below base w w' := by
  refine (entries_any g n le.length base (cellsBE n vb ve) ve (held0 le) A nl c w h.book rfl rfl rfl h.ownE hbase (by omega) (by omega)).mono ?_
  rintro e w' ⟨he, ve', hB', hO', hw, hat⟩
  have hoff : ∀ {e : TypeId}, 53 ≠ e → 202 ≠ e → Off w e (fun i => i = g ∨ ve.ownBlock = some i) := fun {e} h1 h2 i hi => by
    rcases hi with rfl | hi
    · exact ⟨_, h1, ⟨_, _, h.book⟩⟩
    · exact ⟨_, h2, ty_own h.ownE hi⟩
  have hkb : ∀ {b : BL}, Kdk byteK w base b → Kdk byteK w' base b := fun {b} ⟨xs, hx⟩ => ⟨xs, (hoff (by decide) (by decide)).row hw hx⟩
  have hke : ∀ {b : BL}, Kdk entryK w base b → Kdk entryK w' base b := fun {b} ⟨xs, hx⟩ => ⟨xs, (hoff (by decide) (by decide)).row hw hx⟩
  refine ⟨he, ve', ⟨hB', (hoff (by decide) (by decide)).row hw h.ownB, ?_, fun b hb => hkb (h.eachB b hb), fun b hb => ?_, h.disB, dis_snoc h.disE hK, h.fineB, fun b hb => ?_, h.low⟩, hw, hw.below (fun i hi => ?_) hbase⟩
  · rw [List.length_append, held0_snoc]; exact hO'
  · rcases List.mem_append.1 hb with hb | hb
    · exact hke (h.eachE b hb)
    · rw [List.mem_singleton.1 hb]; exact hke hd
  · rcases List.mem_append.1 hb with hb | hb
    · exact h.fineE b hb
    · rw [List.mem_singleton.1 hb]; exact ⟨hnl, by show n + 1 ≤ _; omega⟩
  · rcases hi with rfl | hi
    · exact h.low
    · exact (h.ownE.lt i hi).1
end
end Go.Proofs.YtodmgmfanpnabaaGreatDoor

