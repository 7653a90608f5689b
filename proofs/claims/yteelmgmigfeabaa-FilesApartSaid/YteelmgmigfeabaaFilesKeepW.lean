/-
  The walk of FilesKeep.
-/
import Derived.Test.YteelmgmigfeabaaFilesMovesW
import Derived.Deep.RegionHeld3
namespace Go.Proofs.Yteelmgmigfeabaa
open Go.RowKit Go.Maps Go.Sort
set_option linter.unusedVariables false
set_option maxRecDepth 20000

section
variable (f : Nat) (la lb : List UInt8)
def K1 : St := (St.new 30000).create [97] f
def K2 : St := (K1 f).append f la
def K3 : St := (K2 f la).sync f
def K4 : St := (K3 f la).append f lb
theorem K_pres : (K4 f la lb).pres = .map [(.string [97], .lit (.int .u64 (f : Int)))] := rfl
theorem K1_f : (K1 f).file f = ⟨[], 0⟩ := upd_same _ _ _
theorem K2_f : (K2 f la).file f = ⟨la, 0⟩ := by show upd _ _ _ _ = _; rw [upd_same, K1_f]; rfl
theorem K3_f : (K3 f la).file f = ⟨la, la.length⟩ := by show upd _ _ _ _ = _; rw [upd_same, K2_f]
theorem K4_f : (K4 f la lb).file f = ⟨la ++ lb, la.length⟩ := by show upd _ _ _ _ = _; rw [upd_same, K3_f]
theorem K1_left : (K1 f).left = 30000 := by show 30000 - tot _ _ = _; rw [show (K1 f).pres = .map [(.string [97], .lit (.int .u64 (f : Int)))] from rfl, one_tot]; show 30000 - ((K1 f).file f).bytes.length = _; rw [K1_f]; rfl
theorem K3_left : (K3 f la).left = 30000 - la.length := by show 30000 - tot _ _ = _; rw [show (K3 f la).pres = .map [(.string [97], .lit (.int .u64 (f : Int)))] from rfl, one_tot]; show 30000 - ((K3 f la).file f).bytes.length = _; rw [K3_f]
theorem K_cut (k : Nat) : (cutC k ⟨la ++ lb, la.length⟩).bytes = la ++ lb.take k := by
  show (la ++ lb).take (la.length + min k ((la ++ lb).length - la.length)) = _
  rw [List.take_length_add_append, List.length_append, show la.length + lb.length - la.length = lb.length by omega, ← List.take_eq_take_min]
end

/-- how many bytes the files of one name have -/
theorem tot_one {D : Dir} (hD : DirOK D) (hT : Tidy D) {k : List UInt8} {b : Nat} (h1 : look D k = some b) (h2 : ∀ k', k' ≠ k → look D k' = none) (g : Nat → Nat) : tot D g = g b := by
  have h := tot_del D hT k b g h1
  have he : tot (D.del (.string k)) g = 0 := by
    obtain ⟨es, rfl, hp⟩ := hT
    have hno : (es.filter fun p => !p.1.sameKey (.string k)) = [] := by
      rw [List.filter_eq_nil_iff]
      intro e he hs
      obtain ⟨k', b', e1, e2⟩ := hD e he
      by_cases ek : k' = k
      · subst ek
        rw [e1, WideAt.sameKey_self (isKey k')] at hs
        cases hs
      · have hl : look (.map es) k' = none := h2 k' ek
        have hm := (key_look hD ⟨es, rfl, hp⟩ k').1 (List.mem_map.2 ⟨e, he, by rw [e1]; rfl⟩)
        rw [hl] at hm; cases hm
    show ((es.filter fun p => !p.1.sameKey (.string k)).map fun e => valE g e.2).sum = 0
    rw [hno]; rfl
  omega
theorem left_one {w0 w : World} {d : Nat} {S : St} (h : At w0 w d S) {k : List UInt8} {b : Nat} (h1 : look S.pres k = some b) (h2 : ∀ k', k' ≠ k → look S.pres k' = none) : S.left = S.size - (S.file b).bytes.length := by
  show S.size - tot S.pres S.len = _
  rw [tot_one h.presOK h.tidy h1 h2]; rfl

/-- the arguments in blocks of their own -/
def kw (a b : ByteArray) (k0 k1 : Nat) (w : World) : World := (w.alloc (.cells #[.string a, .string b] 45)).alloc (.cells #[.int .u16 (k0 : Int), .int .u16 (k1 : Int)] 55)
theorem kw_facts (a b : ByteArray) (k0 k1 : Nat) (w : World) : Below w.heap.size w (kw a b k0 k1 w) ∧ ∀ W, Below (kw a b k0 k1 w).heap.size (kw a b k0 k1 w) W →
    W.cell? ⟨w.heap.size, 0, none⟩ = some (.string a) ∧ W.cell? ⟨w.heap.size, 1, none⟩ = some (.string b) ∧ W.cell? ⟨w.heap.size + 1, 0, none⟩ = some (.int .u16 (k0 : Int)) ∧ W.cell? ⟨w.heap.size + 1, 1, none⟩ = some (.int .u16 (k1 : Int)) := by
  unfold kw
  have s1 := alloc_size w (.cells #[.string a, .string b] 45)
  have h1 : (w.alloc (.cells #[.string a, .string b] 45)).heap[w.heap.size]? = some (.cells #[.string a, .string b] 45) := heap_alloc_new w _
  have hb1 := below_a (Below.refl w.heap.size w) (.cells #[.string a, .string b] 45)
  generalize w.alloc (.cells #[.string a, .string b] 45) = w1 at *
  have s2 := alloc_size w1 (.cells #[.int .u16 (k0 : Int), .int .u16 (k1 : Int)] 55)
  have h2 : (w1.alloc (.cells #[.int .u16 (k0 : Int), .int .u16 (k1 : Int)] 55)).heap[w1.heap.size]? = some (.cells #[.int .u16 (k0 : Int), .int .u16 (k1 : Int)] 55) := heap_alloc_new w1 _
  have h3 : (w1.alloc (.cells #[.int .u16 (k0 : Int), .int .u16 (k1 : Int)] 55)).heap[w.heap.size]? = some (.cells #[.string a, .string b] 45) := (Below.heap_alloc _ _ _ (by omega)).trans h1
  have hb2 := below_a hb1 (.cells #[.int .u16 (k0 : Int), .int .u16 (k1 : Int)] 55)
  generalize w1.alloc (.cells #[.int .u16 (k0 : Int), .int .u16 (k1 : Int)] 55) = w2 at *
  rw [← s1] at h2
  refine ⟨hb2, fun W hW => ⟨?_, ?_, ?_, ?_⟩⟩
  · rw [cell_of_row W w.heap.size 0 _ _ (0, 0) ((hW.block _ (by omega)).trans h3)]; rfl
  · rw [cell_of_row W w.heap.size 1 _ _ (0, 0) ((hW.block _ (by omega)).trans h3)]; rfl
  · rw [cell_of_row W (w.heap.size + 1) 0 _ _ (0, 0) ((hW.block _ (by omega)).trans h2)]; rfl
  · rw [cell_of_row W (w.heap.size + 1) 1 _ _ (0, 0) ((hW.block _ (by omega)).trans h2)]; rfl

set_option maxHeartbeats 2000000 in
theorem filesKeep_big (a b : ByteArray) (k0 k1 : Nat) (w : World) (ha : a.size ≤ 140737488351232) (hb : b.size ≤ 140737488351232) (hbig : 5000 < a.size + b.size) :
    Calls Try.prog 11 #[.agg #[.string a, .string b], .agg #[.int .u16 (k0 : Int), .int .u16 (k1 : Int)]] w fun e w' => e = .returned (.bool true) ∧ Below w.heap.size w w' := by
  have i1 : (5000 : Int) < (a.size : Int) + (b.size : Int) := by omega
  have HF := Lib.hid (kw_facts a b k0 k1 w)
  go_enter Try.func11, Try.ntmps11
  go_wp2_with fail
  change Calls _ _ _ (kw a b k0 k1 w) _
  generalize kw a b k0 k1 w = W0 at *
  refine (alive5_any W0).mono ?_
  rintro x w1 ⟨rfl, hb1⟩
  obtain ⟨c0, c1, _, _⟩ := HF.out.2 w1 hb1
  have HB1 := Lib.hid hb1; clear hb1
  go_wp2_with fail
  refine (alive5_any w1).mono ?_
  rintro x w2 ⟨rfl, hb2⟩
  have HB := Lib.hid (HF.out.1.trans ((HB1.out.trans (hb2.mono HB1.out.size)).mono HF.out.1.size))
  clear hb2 c0 c1
  go_wp2
  go_ret
  exact ⟨rfl, HB.out⟩

set_option maxHeartbeats 4000000 in
theorem filesKeep_small (a b : ByteArray) (k0 k1 : Nat) (w : World) (hk0 : k0 < 65536) (hk1 : k1 < 65536) (hsz : a.size + b.size ≤ 5000) :
    Calls Try.prog 11 #[.agg #[.string a, .string b], .agg #[.int .u16 (k0 : Int), .int .u16 (k1 : Int)]] w fun e w' => e = .returned (.bool true) ∧ Below w.heap.size w w' := by
  have i1 : (a.size : Int) + (b.size : Int) ≤ 5000 := by omega
  have HF := Lib.hid (kw_facts a b k0 k1 w)
  have ea : a.data.toList.length = a.size := by rw [Array.length_toList]; rfl
  have eb : b.data.toList.length = b.size := by rw [Array.length_toList]; rfl
  have EA := Lib.hid ea; have EB := Lib.hid eb; have HSZ := Lib.hid hsz
  clear ea eb hsz
  go_enter Try.func11, Try.ntmps11
  go_wp2_with fail
  change Calls _ _ _ (kw a b k0 k1 w) _
  generalize kw a b k0 k1 w = W0 at *
  refine (alive5_any W0).mono ?_
  rintro x w1 ⟨rfl, hb1⟩
  obtain ⟨c0, c1, _, _⟩ := HF.out.2 w1 hb1
  have HB1 := Lib.hid hb1; clear hb1
  go_wp2_with fail
  refine (at_new (w0 := W0) HB1.out 30000 (by decide) (by decide)).mono ?_
  rintro x w2 ⟨d, rfl, h2⟩
  have H := Lib.hid h2; clear h2 c0 c1
  go_wp2_with fail
  refine (at_create H.out ⟨#[97]⟩ (by decide) (by decide) rfl (by decide)).mono ?_
  rintro x w3 ⟨rfl, f, _, h2⟩
  have h2 : At W0 w3 d (K1 f) := h2
  have H := Lib.hid h2; clear h2
  obtain ⟨c0, c1, _, _⟩ := HF.out.2 w3 H.out.low
  obtain ⟨w4, c4, hrun4, hB4, hL4⟩ := conv_bytes w3 a
  have HB4 := Lib.hid hB4; have HL4 := Lib.hid hL4; clear hB4 hL4
  go_wp2_with fail
  refine (at_append (H.out.below HB4.out) ⟨#[97]⟩ (by decide) (by decide) _ a.size c4 a.data.toList HL4.out (look_one f [97]) ⟨by rw [K1_left]; have := HSZ.out; omega, by show a.size + ((K1 f).file f).bytes.length ≤ _; rw [K1_f]; have := HSZ.out; show a.size + 0 ≤ _; omega⟩).mono ?_
  rintro x w5 ⟨rfl, h2⟩
  have h2 : At W0 w5 d (K2 f a.data.toList) := h2
  have H := Lib.hid h2; clear h2 hrun4 HB4 HL4 c0 c1
  go_wp2_with fail
  refine (at_sync H.out ⟨#[97]⟩ (by decide) (by decide) (look_one f [97])).mono ?_
  rintro x w6 ⟨rfl, h2⟩
  have h2 : At W0 w6 d (K3 f a.data.toList) := h2
  have H := Lib.hid h2; clear h2
  obtain ⟨c0, c1, _, _⟩ := HF.out.2 w6 H.out.low
  obtain ⟨w7, c7, hrun7, hB7, hL7⟩ := conv_bytes w6 b
  have HB7 := Lib.hid hB7; have HL7 := Lib.hid hL7; clear hB7 hL7
  go_wp2_with fail
  refine (at_append (H.out.below HB7.out) ⟨#[97]⟩ (by decide) (by decide) _ b.size c7 b.data.toList HL7.out (look_one f [97]) ⟨by rw [K3_left, EA.out]; have := HSZ.out; omega, by show b.size + ((K3 f _).file f).bytes.length ≤ _; rw [K3_f]; have := HSZ.out; show b.size + a.data.toList.length ≤ _; rw [EA.out]; omega⟩).mono ?_
  rintro x w8 ⟨rfl, h2⟩
  have h2 : At W0 w8 d (K4 f a.data.toList b.data.toList) := h2
  have H := Lib.hid h2; clear h2 hrun7 HB7 HL7 c0 c1
  obtain ⟨c0, c1, c2, c3⟩ := HF.out.2 w8 H.out.low
  have emin : min (k0 : Int) (k1 : Int) = ((min k0 k1 : Nat) : Int) := by omega
  have emax : max (k0 : Int) (k1 : Int) = ((max k0 k1 : Nat) : Int) := by omega
  have EMN := Lib.hid emin; have EMX := Lib.hid emax; clear emin emax
  have HK := Lib.hid (And.intro hk0 hk1)
  go_wp2_with fail
  rw [EMN.out]
  refine (at_fail_pres H.out (min k0 k1) (by have := HK.out; omega)).mono ?_
  rintro x w9 ⟨dx, Sx, rfl, b9, hx, hsx⟩
  rw [K_pres] at hsx
  have zx : Sx.size = 30000 := hsx.1
  obtain ⟨fx, x1, x2, x3⟩ := fail_one hsx
  rw [K4_f] at x2
  have XLf := Lib.hid ((left_one hx x1 x3).trans (by rw [zx, x2, K_cut]))
  have HX := Lib.hid hx; have X1 := Lib.hid x1; have X2 := Lib.hid x2
  have H := Lib.hid (H.out.below b9)
  clear hx x1 x2 x3 hsx b9 zx c0 c1 c2 c3
  obtain ⟨c0, c1, c2, c3⟩ := HF.out.2 w9 H.out.low
  go_wp2_with fail
  rw [EMX.out]
  refine (at_fail_pres H.out (max k0 k1) (by have := HK.out; omega)).mono ?_
  rintro x w10 ⟨dy, Sy, rfl, b9, hy, hsy⟩
  rw [K_pres] at hsy
  have zy : Sy.size = 30000 := hsy.1
  obtain ⟨fy, y1, y2, y3⟩ := fail_one hsy
  rw [K4_f] at y2
  have YLf := Lib.hid ((left_one hy y1 y3).trans (by rw [zy, y2, K_cut]))
  have HY := Lib.hid hy; have Y1 := Lib.hid y1; have Y2 := Lib.hid y2
  have H := Lib.hid (H.out.below b9); have HX := Lib.hid (HX.out.below b9)
  clear hy y1 y2 y3 hsy b9 zy c0 c1 c2 c3
  obtain ⟨c0, c1, c2, c3⟩ := HF.out.2 w10 H.out.low
  go_wp2_with fail
  refine (at_fail_pres H.out b.size (by have := HSZ.out; omega)).mono ?_
  rintro x w11 ⟨dz, Sz, rfl, b9, hz, hsz⟩
  rw [K_pres] at hsz
  obtain ⟨fz, z1, z2, z3⟩ := fail_one hsz
  rw [K4_f] at z2
  have HZ := Lib.hid hz; have Z1 := Lib.hid z1; have Z2 := Lib.hid z2
  have H := Lib.hid (H.out.below b9); have HX := Lib.hid (HX.out.below b9); have HY := Lib.hid (HY.out.below b9)
  clear hz z1 z2 z3 hsz b9 c0 c1 c2 c3
  go_wp2_with fail
  refine (at_all HX.out ⟨#[97]⟩ (by decide) (by decide) X1.out).mono ?_
  rw [X2.out, K_cut]
  rintro x w12 ⟨rfl, b9⟩
  have HX := Lib.hid (HX.out.below b9); have HY := Lib.hid (HY.out.below b9); have HZ := Lib.hid (HZ.out.below b9)
  clear b9
  go_wp2_with fail
  refine (at_all HY.out ⟨#[97]⟩ (by decide) (by decide) Y1.out).mono ?_
  rw [Y2.out, K_cut]
  rintro x w13 ⟨rfl, b9⟩
  have HX := Lib.hid (HX.out.below b9); have HY := Lib.hid (HY.out.below b9); have HZ := Lib.hid (HZ.out.below b9)
  clear b9
  obtain ⟨P, hP⟩ : ∃ P : ByteArray, P = ⟨(a.data.toList ++ b.data.toList.take (min k0 k1)).toArray⟩ := ⟨_, rfl⟩
  obtain ⟨Q, hQ⟩ : ∃ Q : ByteArray, Q = ⟨(a.data.toList ++ b.data.toList.take (max k0 k1)).toArray⟩ := ⟨_, rfl⟩
  have hPs : P.size = a.size + min (min k0 k1) b.size := by rw [hP]; show (a.data.toList ++ b.data.toList.take (min k0 k1)).toArray.size = _; rw [List.size_toArray, List.length_append, List.length_take, EA.out, EB.out]
  have hQs : Q.size = a.size + min (max k0 k1) b.size := by rw [hQ]; show (a.data.toList ++ b.data.toList.take (max k0 k1)).toArray.size = _; rw [List.size_toArray, List.length_append, List.length_take, EA.out, EB.out]
  have hpre : Q.extract 0 P.size = P := by
    refine txt_same ?_
    rw [Lib.extract_data, List.drop_zero, Nat.sub_zero, hPs, hP, hQ]
    show ((a.data.toList ++ b.data.toList.take (max k0 k1)).toArray.toList).take (a.size + min (min k0 k1) b.size) = (a.data.toList ++ b.data.toList.take (min k0 k1)).toArray.toList
    rw [List.toList_toArray, List.toList_toArray, ← EA.out, List.take_length_add_append, List.take_take, ← EB.out, show min (min (min k0 k1) b.data.toList.length) (max k0 k1) = min (min k0 k1) b.data.toList.length by omega, ← List.take_eq_take_min]
  have hlx : Sx.left = 30000 - P.size := by rw [XLf.out, hPs, List.length_append, List.length_take, EA.out, EB.out]
  have hly : Sy.left = 30000 - Q.size := by rw [YLf.out, hQs, List.length_append, List.length_take, EA.out, EB.out]
  rw [← hP, ← hQ]
  have hPQ : P.size ≤ Q.size := by omega
  have hPa : a.size ≤ P.size := by omega
  have hQ5 : Q.size ≤ 5000 := by have := HSZ.out; omega
  have HLx : Hid (∀ W, Below w13.heap.size w13 W → Calls Try.prog 16 #[dp dx] W fun x w' => x = .returned (.int .i64 (30000 - (P.size : Int))) ∧ Below w13.heap.size w13 w') := fun W hW => (at_left (HX.out.below hW)).mono fun x w' hx => ⟨by rw [hx.1, hlx, show ((30000 - P.size : Nat) : Int) = 30000 - (P.size : Int) by omega], hW.trans (hx.2.mono hW.size)⟩
  have HLy : Hid (∀ W, Below w13.heap.size w13 W → Calls Try.prog 16 #[dp dy] W fun x w' => x = .returned (.int .i64 (30000 - (Q.size : Int))) ∧ Below w13.heap.size w13 w') := fun W hW => (at_left (HY.out.below hW)).mono fun x w' hx => ⟨by rw [hx.1, hly, show ((30000 - Q.size : Nat) : Int) = 30000 - (Q.size : Int) by omega], hW.trans (hx.2.mono hW.size)⟩
  have HAz : Hid (∀ W, Below w13.heap.size w13 W → Calls Try.prog 27 #[dp dz, .string ⟨#[97]⟩] W fun x w' => x = .returned (.string (a ++ b)) ∧ Below w13.heap.size w13 w') := fun W hW => (at_all (HZ.out.below hW) ⟨#[97]⟩ (by decide) (by decide) Z1.out).mono fun x w' hx => ⟨by
    rw [hx.1, Z2.out, K_cut, List.take_of_length_le (by rw [EB.out]; exact Nat.le_refl _)]
    have : (⟨(a.data.toList ++ b.data.toList).toArray⟩ : ByteArray) = a ++ b := txt_same (by simp)
    rw [this], hW.trans (hx.2.mono hW.size)⟩
  have KC : Hid (∀ W, Below w13.heap.size w13 W → W.cell? ⟨w.heap.size, 0, none⟩ = some (.string a) ∧ W.cell? ⟨w.heap.size, 1, none⟩ = some (.string b)) := fun W hW => ⟨(HF.out.2 W (HX.out.below hW).low).1, (HF.out.2 W (HX.out.below hW).low).2.1⟩
  have hd0 : Below w13.heap.size w13 w13.drew := below_any rfl rfl rfl rfl
  have HFin : Hid (∀ W, Below w13.heap.size w13 W → Below w.heap.size w W) := fun W hW => HF.out.1.trans ((HX.out.below hW).low.mono HF.out.1.size)
  have p1 : (P.size : Int) ≤ (Q.size : Int) := by omega
  have p2 : (a.size : Int) ≤ (P.size : Int) := by omega
  have p3 : (Q.size : Int) ≤ 5000 := by omega
  have p5 : a.size + b.size ≤ 9223372036854775807 := by have := HSZ.out; omega
  have hadd : ∀ W, (Op.stringOp .add a b).run Try.prog W = .ok (.string (a ++ b)) W := fun W => run_string_add_sum W a b p5
  have p4 : 30000 - (P.size : Int) - (30000 - (Q.size : Int)) = (Q.size : Int) - (P.size : Int) := by omega
  clear hP hQ hPs hQs hlx hly hPQ hPa hQ5 HX HY HZ X1 X2 Y1 Y2 Z1 Z2 XLf YLf EMN EMX HK hk0 hk1
  go_wp2_with fail
  go_region_held3 (fun W => W.cell? ⟨w.heap.size, 0, none⟩ = some (.string a) ∧ W.cell? ⟨w.heap.size, 1, none⟩ = some (.string b)) (first | exact KC.out _ hd0 | exact KC.out _ hba | exact KC.out _ hbx | exact KC.out _ hby)
    (first
     | (go_at_call 27; refine (HAz.out _ (by first | assumption | exact below_any rfl rfl rfl rfl)).mono ?_; rintro x wa ⟨rfl, hba⟩)
     | (go_at_call 16; with_reducible refine Calls.mono (HLx.out _ (by assumption)) ?_; rintro x wx ⟨rfl, hbx⟩)
     | (go_at_call 16; with_reducible refine Calls.mono (HLy.out _ (by assumption)) ?_; rintro x wy ⟨rfl, hby⟩))
  have HEnd := Lib.hid (HFin.out _ hby)
  go_wp2
  go_ret
  exact ⟨rfl, HEnd.out⟩

theorem filesKeep_walk (a b : ByteArray) (k0 k1 : Nat) (w : World) (ha : a.size ≤ 140737488351232) (hb : b.size ≤ 140737488351232) (hk0 : k0 < 65536) (hk1 : k1 < 65536) :
    Calls Try.prog 11 #[.agg #[.string a, .string b], .agg #[.int .u16 (k0 : Int), .int .u16 (k1 : Int)]] w fun e w' => e = .returned (.bool true) ∧ Below w.heap.size w w' := by
  by_cases h : 5000 < a.size + b.size
  · exact filesKeep_big a b k0 k1 w ha hb h
  · exact filesKeep_small a b k0 k1 w hk0 hk1 (by omega)
end Go.Proofs.Yteelmgmigfeabaa
