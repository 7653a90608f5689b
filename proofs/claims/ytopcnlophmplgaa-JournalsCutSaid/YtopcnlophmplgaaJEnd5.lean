/-
  A journal on a law's own disk, and beside both a list of numbers of the law's, which grows.
  The walk of JournalsCut.
-/
import Derived.Test.YtopcnlophmplgaaJEnd2
import Derived.Test.YtopcnlophmplgaaJEnd4
namespace Go.Proofs.Ytopcnlophmplgaa
open Go.RowKit Go.Maps Go.Sort
set_option linter.unusedVariables false
set_option maxRecDepth 100000

abbrev iv (n : Nat) : Value := .int .i64 (n : Int)
/-- beside a law's own disk, a block p of the law's holds the cells 'row', and a list v of the law's holds the numbers ns -/
def AtQ (w0 w : World) (d : Nat) (S : St) (p : Nat) (row : Array Value) (t : TypeId) (v : Value) (ns : List Nat) : Prop :=
  ∃ F, Disk w F d S ∧ ¬ F p ∧ (∀ i, F i → w0.heap.size ≤ i) ∧ w0.heap.size ≤ p ∧ p < w.heap.size ∧ Below w0.heap.size w0 w ∧ w.heap[p]? = some (.cells row t (0, 0)) ∧ w.ownsRow w0.heap.size 3 1 v ns.length (ns.map iv) ∧ ∀ g, v.ownBlock = some g → ¬ F g ∧ g ≠ p
section
variable {w0 w w' : World} {d p : Nat} {S : St} {row : Array Value} {t : TypeId} {v : Value} {ns : List Nat}
theorem AtQ.toP (h : AtQ w0 w d S p row t v ns) : AtP w0 w d S p row t := by
  obtain ⟨F, h1, h2, h3, h4, h5, h6, h7, _⟩ := h; exact ⟨F, h1, h2, h3, h4, h5, h6, h7⟩
theorem AtQ.start (h : AtP w0 w d S p row t) : AtQ w0 w d S p row t (.slice none 0 0) [] := by
  obtain ⟨F, h1, h2, h3, h4, h5, h6, h7⟩ := h
  exact ⟨F, h1, h2, h3, h4, h5, h6, h7, World.ownsRow_nil _ _ _ _, fun g hg => by cases hg⟩
theorem AtQ.own (h : AtQ w0 w d S p row t v ns) : w.ownsRow w0.heap.size 3 1 v ns.length (ns.map iv) := by
  obtain ⟨F, h1, h2, h3, h4, h5, h6, h7, h8, _⟩ := h; exact h8
theorem AtQ.low (h : AtQ w0 w d S p row t v ns) : Below w0.heap.size w0 w := h.toP.low
theorem AtQ.below (h : AtQ w0 w d S p row t v ns) (hb : Below w.heap.size w w') : AtQ w0 w' d S p row t v ns := by
  obtain ⟨F, h1, h2, h3, h4, h5, h6, h7, h8, h9⟩ := h
  exact ⟨F, h1.below hb, h2, h3, h4, Nat.lt_of_lt_of_le h5 hb.size, h6.trans (hb.mono h6.size), (hb.block p h5).trans h7, own_below h8 hb, h9⟩
/-- a call on the disk -/
theorem AtQ.run (h : AtQ w0 w d S p row t v ns) {f : FuncId} {args : Array Value} {Q : Ending → St → Prop} (hc : ∀ F, Disk w F d S → Calls Try.prog f args w fun x w' => ∃ S', Q x S' ∧ Left5 F d w w' S') :
    Calls Try.prog f args w fun x w' => ∃ S', Q x S' ∧ AtQ w0 w' d S' p row t v ns := by
  obtain ⟨F, h1, h2, h3, h4, h5, h6, h7, h8, h9⟩ := h
  refine (hc F h1).mono fun x w' ⟨S', hq, hT, hD⟩ => ⟨S', hq, _, hD, fun hm => ?_, fun i hi => ?_, h4, Nat.lt_of_lt_of_le h5 hT.size, h6.trans (hT.below h6.size h3), (hT.block p h5 h2).trans h7, ?_, fun g hg => ⟨fun hm => ?_, (h9 g hg).2⟩⟩
  · rcases hm with hm | hm
    · exact h2 hm
    · have := hm.1; omega
  · rcases hi with hi | hi
    · exact h3 i hi
    · exact Nat.le_trans h6.size hi.1
  · refine ⟨h8.1, ?_⟩
    rcases h8.2 with h0 | ⟨g, cap, cur, rfl, hb, hh, r⟩
    · exact .inl h0
    · exact .inr ⟨g, cap, cur, rfl, hb, (hT.block g (heap_len hh) (h9 g rfl).1).trans hh, r⟩
  · rcases hm with hm | hm
    · exact (h9 g hg).1 hm
    · have := (h8.lt g hg).2; have := hm.1; omega
/-- the law writes a cell of its block -/
theorem AtQ.set (h : AtQ w0 w d S p row t v ns) (k : Nat) (u : Value) : AtQ w0 (w.setCell ⟨p, k, none⟩ u) d S p (row.setIfInBounds k u) t v ns := by
  obtain ⟨F, h1, h2, h3, h4, h5, h6, h7, h8, h9⟩ := h
  have hx : ∀ i, i ≠ p → (w.setCell ⟨p, k, none⟩ u).heap[i]? = w.heap[i]? := fun i hi => Below.heap_setCell _ _ _ _ hi
  have hz : (w.setCell ⟨p, k, none⟩ u).heap.size = w.heap.size := by simp [World.setCell]
  refine ⟨F, h1.keep (fun i hi => hx i (fun e => h2 (by rw [← e]; exact hi))) (by omega), h2, h3, h4, by omega, ⟨h6.os, h6.tape, h6.output, by rw [hz]; exact h6.size, fun i hi => (hx i (by omega)).trans (h6.block i hi)⟩, ?_, ?_, h9⟩
  · simp only [World.setCell, Array.getElem?_modify, if_pos, h7, Option.map_some, Option.isSome_none, Bool.false_eq_true, if_false]
  · refine ⟨h8.1, ?_⟩
    rcases h8.2 with h0 | ⟨g, cap, cur, rfl, hb, hh, r⟩
    · exact .inl h0
    · exact .inr ⟨g, cap, cur, rfl, hb, (hx g (h9 g rfl).2).trans hh, r⟩
/-- one number more -/
theorem AtQ.push (h : AtQ w0 w d S p row t v ns) {v' : Value} {m : Nat} (hg : w.grownBy w' v.ownBlock) (ho : w'.ownsRow w0.heap.size 3 1 v' (ns.length + 1) (ns.map iv ++ [iv m])) (hv : v'.ownBlock = v.ownBlock ∨ v'.ownBlock = some w.heap.size) :
    AtQ w0 w' d S p row t v' (ns ++ [m]) := by
  obtain ⟨F, h1, h2, h3, h4, h5, h6, h7, h8, h9⟩ := h
  have hlt := h1.lt
  refine ⟨F, h1.keep (fun i hi => hg.block i (hlt i hi) fun e => (h9 i e.symm).1 hi) hg.size, h2, h3, h4, Nat.lt_of_lt_of_le h5 hg.size, h6.grown hg h6.size (fun k hk => (h8.lt k hk).1), (hg.block p h5 fun e => (h9 p e.symm).2 rfl).trans h7, ?_, fun g hgv => ?_⟩
  · rw [List.length_append, List.length_singleton, List.map_append]; exact ho
  · rcases hv with e | e
    · rw [e] at hgv; exact h9 g hgv
    · rw [e] at hgv
      injection hgv with hgv
      subst hgv
      exact ⟨fun hf => by have := hlt _ hf; omega, by omega⟩
theorem q_create (h : AtQ w0 w d S p row t v ns) (s : ByteArray) (hs : s.size ≤ 140737488355328) (hn : okName s.data.toList = true) (hk : look S.pres s.data.toList = none) (hz : Maps.size S.pres < 64) :
    Calls Try.prog 17 #[dp d, .string s] w fun x w' => x = .returned (er 0) ∧ ∃ b, w.heap.size ≤ b ∧ AtQ w0 w' d (S.create s.data.toList b) p row t v ns :=
  (h.run (Q := fun x S' => x = .returned (er 0) ∧ ∃ b, w.heap.size ≤ b ∧ S' = S.create s.data.toList b) (fun F hD => by
    obtain ⟨pm, dm, val, hD⟩ := hD
    exact (create_ok hD s hs (argOK1 hn) hk hz).mono fun x w' ⟨hx, b, hb, hl⟩ => ⟨_, ⟨hx, b, hb, rfl⟩, hl⟩)).mono fun x w' ⟨S', ⟨hx, b, hb, hS⟩, ha⟩ => ⟨hx, b, hb, by rw [← hS]; exact ha⟩
theorem q_append (h : AtQ w0 w d S p row t v ns) (s : ByteArray) (hs : s.size ≤ 140737488355328) (hn : okName s.data.toList = true) (A : Option Addr) (n c : Nat) (l : List UInt8) (hl : Lies w w.heap.size 1 A n (l.map bv)) {f : Nat} (hk : look S.pres s.data.toList = some f) (hsp : n ≤ S.left ∧ n + S.len f ≤ 1048576) :
    Calls Try.prog 18 #[dp d, .string s, .slice A n c] w fun x w' => x = .returned (er 0) ∧ AtQ w0 w' d (S.append f l) p row t v ns :=
  (h.run (Q := fun x S' => x = .returned (er 0) ∧ S' = S.append f l) (fun F hD => by
    obtain ⟨pm, dm, val, hD⟩ := hD
    exact (append_ok hD s hs A n c l hl (by omega) (argOK1 hn) hk hsp).mono fun x w' ⟨hx, hl⟩ => ⟨_, ⟨hx, rfl⟩, hl⟩)).mono fun x w' ⟨S', ⟨hx, hS⟩, ha⟩ => ⟨hx, by rw [← hS]; exact ha⟩
end

abbrev JQt (w0 w : World) (d : Nat) (S : St) (p : Nat) (s : ByteArray) (fin : Nat) (v : Value) (ns : List Nat) : Prop := AtQ w0 w d S p (jrow d s fin) 80 v ns
section
variable {w0 w : World} {d p fin : Nat} {S : St} {s : ByteArray} {v : Value} {ns : List Nat} (h : JQt w0 w d S p s fin v ns)
include h
theorem addq_app (A : Option Addr) (n c : Nat) (r : List UInt8) (hL : Lies w w.heap.size 1 A n (r.map bv)) (hn : n ≤ 65536) (hnc : n ≤ c) (hcc : c ≤ 9223372036854775807) (hs : s.size ≤ 140737488355328) (hnm : okName s.data.toList = true) {f : Nat} (hk : look S.pres s.data.toList = some f) (hf : S.len f = fin) (hfb : fin ≤ 16777216)
    (hsp : (Jr.wr fin r).length ≤ S.left ∧ (Jr.wr fin r).length + S.len f ≤ 1048576) :
    Calls Try.prog 14 #[jp p, .slice A n c] w fun x w' => x = .returned (er 0) ∧ JQt w0 w' d (S.append f (Jr.wr fin r)) p s (fin + (Jr.wr fin r).length) v ns := by
  have HE := Lib.hid (exists_any h.toP)
  have hi : ¬ (65536 : Int) < (n : Int) := by omega
  have KA : Hid (∀ W, Below w.heap.size w W → W.cell? ⟨p, 0, none⟩ = some (dp d) ∧ W.cell? ⟨p, 1, none⟩ = some (.string s)) := fun W hW => ⟨(h.below hW).toP.cell rfl, (h.below hW).toP.cell rfl⟩
  have hd0 : Below w.heap.size w w.drew := below_drew (Below.refl _ _)
  have HS0 := at_size (h.below hd0).toP.at_ s hs hnm hk
  rw [hf] at HS0
  have HS := Lib.hid HS0
  have HH := Lib.hid h
  have HL := Lib.hid hL
  clear HS0 hL
  obtain ⟨nw, hnw⟩ : ∃ nw, (Jr.wr fin r).length = nw := ⟨_, rfl⟩
  rw [hnw] at hsp ⊢
  go_enter Try.func14, Try.ntmps14
  go_wp2_with fail
  refine HE.out.mono ?_
  rintro x w1 ⟨rfl, hw⟩
  obtain rfl := hw.symm
  go_wp2_with fail
  go_region_held3 (fun W => W.cell? ⟨p, 0, none⟩ = some (dp d) ∧ W.cell? ⟨p, 1, none⟩ = some (.string s)) (first | exact KA.out _ hd0 | exact KA.out _ hb2)
    (first
      | (go_at_call 15; refine HS.out.mono ?_; rintro x w2 ⟨rfl, hb2'⟩; have hb2 := hd0.trans hb2')
      | fail)
  have H2 := Lib.hid (HH.out.below hb2)
  have c2 : w2.cell? ⟨p, 2, none⟩ = some (.int .i64 (fin : Int)) := H2.out.toP.cell rfl
  have HW := Lib.hid (written_any fin n c A r w2 ((HL.out.below hb2).more hb2.size) hnc hcc (by omega))
  rw [hnw] at HW
  clear hb2 hb2' hd0 h KA HS HE
  go_wp2_with fail
  refine HW.out.mono ?_
  rintro x w3 ⟨v3, rfl, hown3, hb3⟩
  obtain ⟨A3, c3, rfl, _⟩ := own_shape hown3
  have H3 := Lib.hid (H2.out.below hb3)
  have KB : Hid (∀ S' W, JQt w0 W d S' p s fin v ns → W.cell? ⟨p, 0, none⟩ = some (dp d) ∧ W.cell? ⟨p, 1, none⟩ = some (.string s)) := fun S' W hW => ⟨hW.toP.cell rfl, hW.toP.cell rfl⟩
  have hd3 : JQt w0 w3.drew d S p s fin v ns := H3.out.below (below_drew (Below.refl _ _))
  have HA := Lib.hid (q_append hd3 s hs hnm A3 nw c3 (Jr.wr fin r) (Lies.of_own hown3) hk hsp)
  clear hown3 hb3 HW c2
  go_wp2_with fail
  go_region_held3 (fun W => W.cell? ⟨p, 0, none⟩ = some (dp d) ∧ W.cell? ⟨p, 1, none⟩ = some (.string s)) (first | exact KB.out _ _ hd3 | exact KB.out _ _ h4)
    (first
      | (go_at_call 18; refine HA.out.mono ?_; rintro x w4 ⟨rfl, h4⟩)
      | fail)
  have H4 := Lib.hid h4
  have c4 : w4.cell? ⟨p, 2, none⟩ = some (.int .i64 (fin : Int)) := h4.toP.cell rfl
  have f4 := h4.toP.thaw 2
  have h5 := h4.set 2 (.int .i64 ((fin + nw : Nat) : Int))
  have H5 : Hid (JQt w0 (w4.setCell ⟨p, 2, none⟩ (.int .i64 ((fin + nw : Nat) : Int))) d (S.append f (Jr.wr fin r)) p s (fin + nw) v ns) := h5
  have hnwb : nw ≤ 1048576 := by omega
  have hwrap : IntKind.i64.wrap ((fin : Int) + (nw : Int)) = ((fin + nw : Nat) : Int) := by rw [(IntWalk.i64_left _).trans (IntWalk.wrap64_in _ ⟨by omega, by omega⟩)]; omega
  clear h4 h5 hd3 KB HA
  go_wp2
  go_ret
  refine ⟨rfl, ?_⟩
  first
    | exact H5.out
    | (have := H5.out; rw [Int.natCast_add] at this; exact this)
end

/-- as Jn, beside a list of the law's -/
structure Jq (w0 w : World) (d p f : Nat) (S : St) (b : List UInt8) (rs : List (List UInt8)) (v : Value) (ns : List Nat) : Prop where
  q : JQt w0 w d S p jn b.length v ns
  jn : Jn w0 w d p f S b rs
theorem Jq.below {w0 w w' : World} {d p f : Nat} {S : St} {b : List UInt8} {rs : List (List UInt8)} {v : Value} {ns : List Nat} (h : Jq w0 w d p f S b rs v ns) (hb : Below w.heap.size w w') : Jq w0 w' d p f S b rs v ns := ⟨h.q.below hb, h.jn.below hb⟩
theorem jq_add {w0 w : World} {d p f : Nat} {S : St} {b : List UInt8} {rs : List (List UInt8)} {v : Value} {ns : List Nat} (h : Jq w0 w d p f S b rs v ns) (A : Option Addr) (n c : Nat) (r : List UInt8) (hL : Lies w w.heap.size 1 A n (r.map bv)) (hn : n ≤ 65536) (hnc : n ≤ c) (hcc : c ≤ 9223372036854775807) (hsp : b.length + (Jr.wr b.length r).length ≤ 1000000) :
    Calls Try.prog 14 #[jp p, .slice A n c] w fun x w' => x = .returned (er 0) ∧ Jq w0 w' d p f (S.append f (Jr.wr b.length r)) (b ++ Jr.wr b.length r) (rs ++ [r]) v ns := by
  have j := h.jn
  refine (addq_app h.q A n c r hL hn hnc hcc (by decide) (by decide) j.key j.len (by omega) ⟨by rw [j.left]; omega, by rw [j.len]; omega⟩).mono fun x w' ⟨hx, hJ⟩ => ⟨hx, ?_⟩
  have hJ2 : JQt w0 w' d (S.append f (Jr.wr b.length r)) p jn (b ++ Jr.wr b.length r).length v ns := by rw [List.length_append]; exact hJ
  refine ⟨hJ2, hJ2.toP, j.pres, j.size, ?_, j.wf.add r, fun q hq => ?_, by rw [List.length_append]; exact hsp⟩
  · show ((upd S.file f ⟨(S.file f).bytes ++ Jr.wr b.length r, (S.file f).sure⟩) f).bytes = _
    rw [upd_same, j.file]
  · rw [List.mem_append, List.mem_singleton] at hq
    rcases hq with hq | rfl
    · exact j.small q hq
    · rw [hL.blen]; exact hn
end Go.Proofs.Ytopcnlophmplgaa

namespace Go.Proofs.Ytopcnlophmplgaa
open Go.RowKit Go.Maps Go.Sort
set_option linter.unusedVariables false
set_option maxRecDepth 100000

theorem journalsCut_big (A : Option Addr) (n c m2 : Nat) (rs : List Rcd) (w : World) (y : Lies w w.heap.size 1 A n (rs.map Rcd.v)) (u : Rcds w w.heap.size rs) (hn : n ≤ 140737488351232)
    (hcase : 30 < n ∨ 30000 < n + rsum rs) :
    Calls Try.prog 3 #[.slice A n c, .int .u16 (m2 : Int)] w fun e w' => e = .returned (.bool true) ∧ Below w.heap.size w w' := by
  have Y := Lib.hid y; have U := Lib.hid u; have HC := Lib.hid hcase
  clear y u hcase
  go_enter Try.func3, Try.ntmps3
  go_wp2_with fail
  refine (alive6_any w).mono ?_
  rintro x w1 ⟨rfl, hb1⟩
  have HB := Lib.hid hb1; clear hb1
  have F1 : Hid (Calls Try.prog 11 #[] w1 fun e w' => e = .returned (.bool true) ∧ Below w.heap.size w w') := (alive6_any w1).mono fun x w' ⟨hx, hb⟩ => ⟨hx, HB.out.trans (hb.mono HB.out.size)⟩
  by_cases h1 : 30 < n
  · have i1 : (30 : Int) < (n : Int) := by omega
    go_wp2_with fail
    refine F1.out.mono ?_
    rintro x w2 ⟨rfl, hb⟩
    have HB2 := Lib.hid hb; clear hb
    go_wp2
    go_ret
    exact ⟨rfl, HB2.out⟩
  · have i1 : (n : Int) ≤ 30 := by omega
    go_wp2_with fail
    refine (recordsSize_is A n c rs w1 ((Y.out.below HB.out).more HB.out.size) ((U.out.below HB.out).more HB.out.size) hn).mono ?_
    rintro x w2 ⟨z, rfl, hw, hz, hz2, hz3⟩
    obtain rfl := hw.symm
    have h2 : 30000 < z := by
      rcases HC.out with h | h
      · exact absurd h h1
      · by_cases hzz : z ≤ 1048576
        · rw [hz hzz]; exact h
        · omega
    have i2 : (30000 : Int) < (z : Int) := by omega
    clear hz hz3
    go_wp2_with fail
    refine F1.out.mono ?_
    rintro x w2 ⟨rfl, hb⟩
    have HB2 := Lib.hid hb; clear hb
    go_wp2
    go_ret
    exact ⟨rfl, HB2.out⟩

/-- where each of the first k records ends -/
def ENDS (rs : List Rcd) (k : Nat) : List Nat := (List.range k).map fun j => (BU rs (j + 1)).length
theorem ENDS_len (rs : List Rcd) (k : Nat) : (ENDS rs k).length = k := by simp [ENDS]
theorem ENDS_next (rs : List Rcd) (k : Nat) : ENDS rs (k + 1) = ENDS rs k ++ [(BU rs (k + 1)).length] := by
  unfold ENDS; rw [List.range_succ, List.map_append]; rfl
def CutRow (w : World) (d p f n : Nat) (rs : List Rcd) (v i : Value) (wr : World) : Prop :=
  ∃ (k : Nat) (S : St), k ≤ n ∧ i = .int .i64 (k : Int) ∧ Jq w wr d p f S (BU rs k) ((rs.take k).map Rcd.l) v (ENDS rs k)
/-- the disk with a second file -/
def cutD (f b : Nat) : Dir := .map [(.string [99, 117, 116], .lit (.int .u64 (b : Int))), (.string [106], .lit (.int .u64 (f : Int)))]
theorem cutD_look (f b : Nat) : look (cutD f b) [99, 117, 116] = some b := by
  rw [show cutD f b = (DataW.map [(.string [106], .lit (.int .u64 (f : Int)))] : Dir).put (.string [99, 117, 116]) (.lit (.int .u64 (b : Int))) from rfl, look_put _ ⟨_, rfl⟩, if_pos rfl]
theorem cutD_tot (f b : Nat) (h : Nat → Nat) : tot (cutD f b) h = h f + h b := by
  show h b + (h f + 0) = _
  omega
theorem int_info : (Try.prog.info? 3).map (fun i => (i.zero, i.size, i.bytes)) = some (some (.int .i64 0), 1, 8) := by kernel_rfl

theorem AtQ.flt {w0 w : World} {d p : Nat} {S : St} {row : Array Value} {t : TypeId} {v : Value} {ns : List Nat} (h : AtQ w0 w d S p row t v ns) {k : List UInt8} {f : Nat} (hk : look S.pres k = some f) : f < w.heap.size := by
  obtain ⟨F, ⟨pm, dm, val, hD⟩, _⟩ := h
  exact hD.lt _ (hD.files f (.inl ⟨k, hk⟩)).mem
/-- the first bytes of a file, read into memory of its own; the journal's struct, or what was read, is what stays beside -/
theorem q_read {w0 w : World} {d p : Nat} {S : St} {row : Array Value} {t : TypeId} {v : Value} {ns : List Nat} (h : AtQ w0 w d S p row t v ns) (s : ByteArray) (hs : s.size ≤ 140737488355328) (hn : okName s.data.toList = true) {f : Nat} (hk : look S.pres s.data.toList = some f) (N : Nat) (hN : N ≤ (S.file f).bytes.length) :
    Calls Try.prog 16 #[dp d, .string s, .int .i64 0, .int .i64 (N : Int)] w fun x w' => ∃ A c p' row' t', x = .returned (.tuple #[.slice A N c, er 0]) ∧ (∀ W S', AtQ w0 W d S' p' row' t' v ns → Lies W W.heap.size 1 A N (((S.file f).bytes.take N).map bv)) ∧ AtQ w0 w' d S p' row' t' v ns := by
  have h0 := h
  obtain ⟨F, ⟨pm, dm, val, hD⟩, h2, h3, h4, h5, h6, h7, h8, h9⟩ := h
  have hA3 : argErr [okName s.data.toList, decide ((0 : Int) ≤ ((0 : Nat) : Int)), decide ((0 : Int) ≤ (N : Int))] = 0 := argErr_ok (by simp [hn])
  have hlen : N ≤ S.len f := hN
  refine (read_ok hD s hs 0 N (by decide) hA3 hk (by omega)).mono fun x w' ⟨u, hx, ho, hb⟩ => ?_
  rw [List.drop_zero] at ho
  rcases ho.2 with ⟨rfl, hn0⟩ | ⟨g, cap, cur, rfl, hg, hh, k1, k2, k3, k4⟩
  · subst hn0
    exact ⟨none, 0, p, row, t, hx, fun W S' _ => by rw [List.take_zero]; exact Lies.none_ _ _ _ _, h0.below hb⟩
  · refine ⟨some ⟨g, 0, none⟩, cap, g, cur, 5, hx, fun W S' hW => ?_, F, Disk.below ⟨pm, dm, val, hD⟩ hb, ?_, h3, Nat.le_trans h6.size hg, heap_len hh, h6.trans (hb.mono h6.size), hh, own_below h8 hb, fun q hq => ⟨(h9 q hq).1, ?_⟩⟩
    · have hl : ((S.file f).bytes.take N).length = N := by rw [List.length_take]; omega
      have := lies_row hW.toP (l := (S.file f).bytes.take N) (by unfold RowIs; rw [hl, ← k4, Nat.mul_one])
      rw [hl] at this
      exact this
    · intro hFg
      have hlt : Disk w F d S := ⟨pm, dm, val, hD⟩
      have := hlt.lt g hFg
      omega
    · have := (h8.lt q hq).2
      omega
theorem ENDS_at {rs : List Rcd} {k j : Nat} (h : j < k) : (ENDS rs k)[j]? = some (BU rs (j + 1)).length := by
  unfold ENDS; rw [List.getElem?_map, List.getElem?_range h]; rfl

set_option maxHeartbeats 16000000 in
theorem journalsCut_all (A : Option Addr) (n c kp : Nat) (rs : List Rcd) (w : World) (y : Lies w w.heap.size 1 A n (rs.map Rcd.v)) (u : Rcds w w.heap.size rs) (hnc : n ≤ c) (hkp : kp < 65536)
    (h1 : n ≤ 30) (h3 : n + rsum rs ≤ 30000) :
    Calls Try.prog 3 #[.slice A n c, .int .u16 (kp : Int)] w fun e w' => e = .returned (.bool true) ∧ Below w.heap.size w w' := by
  obtain ⟨ii0, hi, hz0, hz1, hz2⟩ := info_parts int_info
  have Y := Lib.hid y; have U := Lib.hid u; have hrl := y.rlen
  clear y u
  have i1 : (n : Int) ≤ 30 := by omega
  go_enter Try.func3, Try.ntmps3
  go_wp2_with fail
  refine (alive6_any w).mono ?_
  rintro x w1 ⟨rfl, hb1⟩
  have HB := Lib.hid hb1; clear hb1
  go_wp2_with fail
  refine (recordsSize_is A n c rs w1 ((Y.out.below HB.out).more HB.out.size) ((U.out.below HB.out).more HB.out.size) (by omega)).mono ?_
  rintro x w2 ⟨z, rfl, hw, hz, hz2', hz3⟩
  obtain rfl := hw.symm
  obtain rfl : z = n + rsum rs := hz (by omega)
  have i2 : ((n + rsum rs : Nat) : Int) ≤ 30000 := by omega
  clear hz hz2' hz3
  have HO := Lib.hid (opened_any HB.out)
  go_wp2_with fail
  refine HO.out.mono ?_
  rintro x w3 ⟨d, p, f, rfl, hJ⟩
  have HR : Hid (CutRow w d p f n rs (.slice none 0 0) (.int .i64 0) w3) := ⟨0, _, Nat.zero_le _, rfl, AtQ.start hJ.at_, hJ⟩
  clear hJ HO HB
  go_wp2
  go_loopw [7, 8] (fun v i wr => CutRow w d p f n rs v i wr) (fun _ i _ => n - (intOf i).toNat)
  case atStart => exact HR.out
  case round =>
    clear HR
    obtain ⟨i0, S, hi0, rfl, hJ⟩ := hrel
    have HJ := Lib.hid hJ
    by_cases hlt : i0 < n
    · have j5 : (i0 : Int) < (n : Int) := by omega
      obtain ⟨g, o, r, rfl, hg, hr, hcell⟩ := Y.out.rcd hlt
      have hmem := List.mem_of_getElem? hr
      have HRb := Lib.hid (U.out r hmem)
      have hlow := hJ.jn.low
      have hcW := (hlow.cell hg).trans hcell
      have hrl2 := U.out.len hmem
      have hw8 := wr_len_le (BU rs i0).length r.l
      have hbl := BU_len rs (fun r hr => U.out.len hr) i0
      have hsz : rsum (rs.take i0) + r.n ≤ 30000 := by
        have := rsum_take_le rs (i0 + 1)
        rw [rsum_take rs i0 r hr] at this; omega
      have HAd := Lib.hid (jq_add hJ r.A r.n r.c r.l ((HRb.out.1.below hlow).more hlow.size) (by omega) HRb.out.2.1 (by have := HRb.out.2; omega) (by omega))
      have HBn := Lib.hid (BU_next hr)
      have HT2 : Hid ((rs.take (i0 + 1)).map Rcd.l = (rs.take i0).map Rcd.l ++ [r.l]) := by
        show _ = _
        rw [List.take_add_one, hr]; simp
      clear hlow hg hcell hr hmem hJ HJ
      go_wp2_with fail
      refine HAd.out.mono ?_
      rintro x w4 ⟨rfl, hJ⟩
      have HN : Hid (Jq w w4 d p f (S.append f (Jr.wr (BU rs i0).length r.l)) (BU rs (i0 + 1)) ((rs.take (i0 + 1)).map Rcd.l) u7 (ENDS rs i0)) := by rw [HBn.out, HT2.out]; exact hJ
      have HZ := Lib.hid (jn_size HN.out.jn)
      obtain ⟨L, hL⟩ : ∃ L, (BU rs (i0 + 1)).length = L := ⟨_, rfl⟩
      have hLb : L ≤ 1000000 := by rw [← hL]; exact HN.out.jn.room
      rw [hL] at HZ
      have HLe := Lib.hid hL
      clear hJ HAd hcW hL hw8 hbl
      go_wp2_with fail
      refine HZ.out.mono ?_
      rintro x w5 ⟨rfl, hb⟩
      have hJ5 := HN.out.below hb
      have HJ5 := Lib.hid hJ5
      have hJ5q := Lib.hid hJ5.q
      have hown := hJ5.q.own
      rw [ENDS_len] at hown
      obtain ⟨vA, vc, rfl, _⟩ := own_shape hown
      have hbase := hJ5.jn.low.size
      have HOw := Lib.hid hown
      clear hb HZ HN hJ5 hown
      go_wp2_with (at_builtin; refine wpList_app _ rfl _ _ 30 rfl w.heap.size 3 ii0 _ 1 8 Try.underlying30 hi hz0 hz1 hz2 rfl (by decide) (.slice vA i0 vc) i0 ((ENDS rs i0).map iv) rfl (HOw.out.alloc _) (w5.heap.size + 1) (some ⟨w5.heap.size, 0, none⟩) 1 1 [iv L] rfl ?c1 ?c2 ?c3 ?c4 ?c5 ?_)
      case c1 => exact one_lies rfl _ _
      case c2 => intro u hu; rw [List.mem_singleton.1 hu]; rfl
      case c3 => unfold maxLen; omega
      case c4 => omega
      case c5 => simp; omega
      intro v6 w6 ho6 hg6 hv6
      have hq6 := (hJ5q.out.below (below_a (Below.refl _ w5) (.cells #[iv L] 3))).push (m := L) hg6 (by rw [ENDS_len]; exact ho6) (by simpa using hv6)
      have HJ6 : Hid (Jq w w6 d p f (S.append f (Jr.wr (BU rs i0).length r.l)) (BU rs (i0 + 1)) ((rs.take (i0 + 1)).map Rcd.l) v6 (ENDS rs (i0 + 1))) := by
        have j := HJ5.out.jn
        have e : ENDS rs (i0 + 1) = ENDS rs i0 ++ [L] := by rw [ENDS_next, HLe.out]
        exact ⟨by rw [e]; exact hq6, hq6.toP, j.pres, j.size, j.file, j.wf, j.small, j.room⟩
      clear ho6 hg6 hv6 hq6 hJ5q HOw
      go_wp2
      go_roundw
      case rel => exact ⟨i0 + 1, _, by omega, by go_num, HJ6.out⟩
      case measure => simp [intOf]; omega
    · obtain rfl : i0 = n := by omega
      clear hlt
      obtain ⟨L, hL⟩ : ∃ L, (BU rs i0).length = L := ⟨_, rfl⟩
      have hLb : L ≤ 300000 := by
        have := BU_len rs (fun r hr => U.out.len hr) i0
        have := rsum_take_le rs i0
        omega
      have HZ := Lib.hid (jn_size HJ.out.jn)
      rw [hL] at HZ
      obtain ⟨K, hK, hKn⟩ : ∃ K : Nat, (kp : Int) % ((L : Int) + 1) = (K : Int) ∧ K ≤ L := ⟨kp % (L + 1), (Int.natCast_emod kp (L + 1)).symm, Nat.le_of_lt_succ (Nat.mod_lt kp (Nat.succ_pos L))⟩
      have hK2 : Int.tmod (kp : Int) ((L : Int) + 1) = (K : Int) := by rw [Int.tmod_eq_emod_of_nonneg (by omega)]; exact hK
      have hw2 : IntKind.i64.wrap (kp : Int) = (kp : Int) := (IntWalk.i64_left _).trans (IntWalk.wrap64_in _ ⟨by omega, by omega⟩)
      have HL := Lib.hid hL
      clear hJ hK hL
      go_wp2_with fail
      refine HZ.out.mono ?_
      rintro x w4 ⟨rfl, hb⟩
      have HJ4 := Lib.hid (HJ.out.below hb)
      have hlen4 := HJ4.out.jn.file
      have HRd := Lib.hid (q_read HJ4.out.q jn (by decide) (by decide) HJ4.out.jn.key K (by rw [hlen4, HL.out]; exact hKn))
      rw [hlen4] at HRd
      have hpr := HJ4.out.jn.pres
      have hszS := HJ4.out.jn.size
      have hfl : S.len f = L := HJ4.out.jn.len.trans HL.out
      have hflt := HJ4.out.q.flt HJ4.out.jn.key
      clear hb HZ HJ hlen4
      go_wp2_with fail
      refine HRd.out.mono ?_
      rintro x w5 ⟨rA, rc, p5, row5, t5, rfl, hrl5, hq5⟩
      have hflt5 := hq5.flt HJ4.out.jn.key
      have HCr := Lib.hid (q_create hq5 ⟨#[99, 117, 116]⟩ (by decide) (by decide) (by rw [hpr]; rfl) (by rw [hpr]; show 1 < 64; decide))
      have HRl := Lib.hid hrl5
      clear hrl5 hq5 HRd hflt
      go_wp2_with fail
      refine HCr.out.mono ?_
      rintro x w6 ⟨rfl, b2, hb2, hq6⟩
      have hne : f ≠ b2 := by omega
      obtain ⟨S7, hS7⟩ : ∃ S7, S.create [99, 117, 116] b2 = S7 := ⟨_, rfl⟩
      have hq6 : AtQ w w6 d (S.create [99, 117, 116] b2) p5 row5 t5 u7 (ENDS rs i0) := hq6
      have hk7 : look S7.pres [99, 117, 116] = some b2 := by
        rw [← hS7]
        show look (S.pres.put _ _) _ = _
        rw [hpr]; exact cutD_look f b2
      have hlen7 : S7.len b2 = 0 := by
        rw [← hS7]
        show ((upd S.file b2 ⟨[], 0⟩) b2).bytes.length = 0
        rw [upd_same]; rfl
      have hfile7 : ∀ l, ((S7.append b2 l).file b2).bytes = l := fun l => by
        rw [← hS7]
        show ((upd (upd S.file b2 ⟨[], 0⟩) b2 ⟨((upd S.file b2 ⟨[], 0⟩) b2).bytes ++ l, _⟩) b2).bytes = l
        rw [upd_same, upd_same]; rfl
      have hleft7 : S7.left = 1000000 - L := by
        have e1 : S7.len f = L := by
          rw [← hS7]
          show ((upd S.file b2 ⟨[], 0⟩) f).bytes.length = L
          rw [upd_other _ _ hne]; exact hfl
        have e2 : S7.pres = cutD f b2 := by
          rw [← hS7]
          show S.pres.put _ _ = _
          rw [hpr]; rfl
        have e3 : S7.size = 1000000 := by rw [← hS7]; exact hszS
        show S7.size - tot S7.pres S7.len = _
        rw [e2, cutD_tot, e1, e3, hlen7]; rfl
      rw [hS7] at hq6
      have HQ6 := Lib.hid hq6
      have HAp := Lib.hid (q_append hq6 ⟨#[99, 117, 116]⟩ (by decide) (by decide) rA K rc ((BU rs i0).take K) (HRl.out _ _ hq6) hk7 ⟨by omega, by omega⟩)
      have HK7 := Lib.hid hk7; have HF7 := Lib.hid hfile7
      clear hq6 hk7 hlen7 hfile7 hleft7 hS7 HCr hne hflt5 hpr hszS hfl HJ4 HRl
      go_wp2_with fail
      refine HAp.out.mono ?_
      rintro x w8 ⟨rfl, hq8⟩
      have HQ8 := Lib.hid hq8
      have hown := hq8.own
      rw [ENDS_len] at hown
      obtain ⟨vA, vc, rfl, _⟩ := own_shape hown
      have HV := Lib.hid (Lies.of_own hown)
      have HK8 : Hid (look (S7.append b2 ((BU rs i0).take K)).pres [99, 117, 116] = some b2) := HK7.out
      clear hown hq8 HAp HQ6
      go_wp2
      go_loopw [16] (fun i wr => ∃ i1 q : Nat, i = .int .i64 (i1 : Int) ∧ i1 ≤ i0 ∧ (BU rs i1).length ≤ K ∧ wr = w8.drewN q) (fun i _ => i0 - (intOf i).toNat)
      case atStart => exact ⟨0, 0, rfl, by omega, by rw [BU_zero]; exact Nat.zero_le _, rfl⟩
      case round =>
        obtain ⟨i1, q, rfl, hi1, hle, rfl⟩ := hrel
        by_cases hlt : i1 < i0
        · obtain ⟨gE, oE, uE, rfl, hgE, huE, hcE⟩ := HV.out.at_ hlt
          obtain ⟨E, hE⟩ : ∃ E, (BU rs (i1 + 1)).length = E := ⟨_, rfl⟩
          rw [List.getElem?_map, ENDS_at hlt, Option.map_some, hE] at huE
          injection huE with huE
          subst huE
          have hcE2 : (w8.drewN q).cell? ⟨gE, oE + i1, none⟩ = some (.int .i64 (E : Int)) := hcE
          have j1 : (i1 : Int) < (i0 : Int) := by omega
          have j0 : (0 : Int) ≤ (i1 : Int) := by omega
          have HE := Lib.hid hE
          clear hcE hE
          by_cases hk : E ≤ K
          · have j2 : (E : Int) ≤ (K : Int) := by omega
            go_wp2
            go_roundw
            case rel => exact ⟨i1 + 1, _, by go_num, by omega, by rw [HE.out]; exact hk, by first | rfl | (rw [World.drewN_drewN])⟩
            case measure => simp [intOf]; omega
          · have j2 : ¬ (E : Int) ≤ (K : Int) := by omega
            have hR : Jr.Reads ((BU rs i0).take K) ((rs.take i1).map Rcd.l) (BU rs i1).length := BU_cut hrl hlt hle (by rw [HE.out]; omega)
            have HO8 := Lib.hid (open_has (HQ8.out.below (below_q w8 q)).toP.at_ ⟨#[99, 117, 116]⟩ (by decide) (by decide) HK8.out (by show ((S7.append b2 ((BU rs i0).take K)).file b2).bytes.length ≤ _; rw [HF7.out, List.length_take]; omega))
            have hc8 := (HQ8.out.below (below_q w8 q)).low
            have HRd := Lib.hid hR
            clear hR HQ8 hc8
            go_wp2_with fail
            refine HO8.out.mono ?_
            rintro x w9 ⟨p3, vr, rs', fin, rfl, hr, hrec, hJ3, hb5, _⟩
            rw [HF7.out] at hr
            obtain ⟨hrs, rfl⟩ := hr.one HRd.out
            obtain ⟨A3, c3, rfl, _⟩ := own_shape hrec.row
            have hl3 : rs'.length = i1 := by
              have := congrArg List.length hrs
              rw [List.length_map, List.length_map, List.length_take] at this; omega
            rw [hl3]
            have hlow := hJ3.low
            have hLa := Lies.of_own hrec.row
            rw [hl3] at hLa
            have hgs : ∀ r ∈ rs', Lies w9 w9.heap.size 1 r.A r.n (r.l.map bv) ∧ r.n ≤ 4611686018427387904 := fun r hm => by
              have hL := Lies.of_own (hrec.each r hm)
              refine ⟨hL, ?_⟩
              have h1 : r.l ∈ (rs.take i1).map Rcd.l := by rw [← hrs]; exact List.mem_map.2 ⟨r, hm, rfl⟩
              obtain ⟨q, hq, hql⟩ := List.mem_map.1 h1
              have h2 := U.out.len (List.mem_of_mem_take hq)
              have h3 := (U.out q (List.mem_of_mem_take hq)).2
              have := hL.blen
              rw [hql] at h2; omega
            have hcut : ∀ W, (Instr.slice 22 (.slice A i0 c) none (some (.int .i64 (i1 : Int))) none).run Try.prog W = .ok (.slice A i1 c) W := fun W => run_headR W _ i0 c i1 (by omega)
            have HSm := Lib.hid (sameR_yes (c := c3) (c2 := c) hLa (lies_takeR ((Y.out.below hlow).more hlow.size) (by omega)) hgs (Rcds.take ((U.out.below hlow).more hlow.size) i1) (by omega) hrs)
            have HB9 := Lib.hid hlow
            clear hr HRd hrec hJ3 hb5 hrs hLa hgs hlow HO8
            go_wp2_with fail
            refine HSm.out.mono ?_
            rintro x w10 ⟨rfl, hb10⟩
            have HFin := Lib.hid (HB9.out.trans (hb10.mono HB9.out.size))
            clear hb10
            go_wp2
            go_ret
            exact ⟨rfl, HFin.out⟩
        · have j1 : ¬ (i1 : Int) < (i0 : Int) := by omega
          have j3 : i0 = i1 := by omega
          subst j3
          clear hlt
          have hR : Jr.Reads ((BU rs i0).take K) ((rs.take i0).map Rcd.l) (BU rs i0).length := by rw [List.take_of_length_le hle, List.take_of_length_le (by omega)]; exact BU_all rs _ hrl
          have HO8 := Lib.hid (open_has (HQ8.out.below (below_q w8 q)).toP.at_ ⟨#[99, 117, 116]⟩ (by decide) (by decide) HK8.out (by show ((S7.append b2 ((BU rs i0).take K)).file b2).bytes.length ≤ _; rw [HF7.out, List.length_take]; omega))
          have hc8 := (HQ8.out.below (below_q w8 q)).low
          have HRd := Lib.hid hR
          clear hR HQ8 hc8
          go_wp2_with fail
          refine HO8.out.mono ?_
          rintro x w9 ⟨p3, vr, rs', fin, rfl, hr, hrec, hJ3, hb5, _⟩
          rw [HF7.out] at hr
          obtain ⟨hrs, rfl⟩ := hr.one HRd.out
          obtain ⟨A3, c3, rfl, _⟩ := own_shape hrec.row
          have hl3 : rs'.length = i0 := by
            have := congrArg List.length hrs
            rw [List.length_map, List.length_map, List.length_take] at this; omega
          rw [hl3]
          have hlow := hJ3.low
          have hLa := Lies.of_own hrec.row
          rw [hl3] at hLa
          have hgs : ∀ r ∈ rs', Lies w9 w9.heap.size 1 r.A r.n (r.l.map bv) ∧ r.n ≤ 4611686018427387904 := fun r hm => by
            have hL := Lies.of_own (hrec.each r hm)
            refine ⟨hL, ?_⟩
            have h1 : r.l ∈ (rs.take i0).map Rcd.l := by rw [← hrs]; exact List.mem_map.2 ⟨r, hm, rfl⟩
            obtain ⟨q, hq, hql⟩ := List.mem_map.1 h1
            have h2 := U.out.len (List.mem_of_mem_take hq)
            have h3 := (U.out q (List.mem_of_mem_take hq)).2
            have := hL.blen
            rw [hql] at h2; omega
          have hcut : ∀ W, (Instr.slice 22 (.slice A i0 c) none (some (.int .i64 (i0 : Int))) none).run Try.prog W = .ok (.slice A i0 c) W := fun W => run_headR W _ i0 c i0 (by omega)
          have HSm := Lib.hid (sameR_yes (c := c3) (c2 := c) hLa (lies_takeR ((Y.out.below hlow).more hlow.size) (by omega)) hgs (Rcds.take ((U.out.below hlow).more hlow.size) i0) (by omega) hrs)
          have HB9 := Lib.hid hlow
          clear hr HRd hrec hJ3 hb5 hrs hLa hgs hlow HO8
          go_wp2_with fail
          refine HSm.out.mono ?_
          rintro x w10 ⟨rfl, hb10⟩
          have HFin := Lib.hid (HB9.out.trans (hb10.mono HB9.out.size))
          clear hb10
          go_wp2
          go_ret
          exact ⟨rfl, HFin.out⟩

theorem journalsCut_walk (A : Option Addr) (n c : Nat) (rs : List Rcd) (m1 : Nat) (w : World) (y : Lies w w.heap.size 1 A n (rs.map Rcd.v)) (u : Rcds w w.heap.size rs) (hnc : n ≤ c) (hc : c ≤ 140737488351232) (hm1 : m1 < 65536) :
    Calls Try.prog 3 #[.slice A n c, .int .u16 (m1 : Int)] w fun e w' => e = .returned (.bool true) ∧ Below w.heap.size w w' := by
  by_cases h : 30 < n ∨ 30000 < n + rsum rs
  · exact journalsCut_big A n c m1 rs w y u (by omega) h
  · exact journalsCut_all A n c m1 rs w y u hnc hm1 (by omega) (by omega)
end Go.Proofs.Ytopcnlophmplgaa

