/-
  The walk of FilesMoves.
-/
import Derived.Test.YteelmgmigfeabaaAlive5
import Derived.Laws.IdiomStrings
namespace Go.Proofs.Yteelmgmigfeabaa
open Go.RowKit Go.Maps Go.Sort
set_option linter.unusedVariables false
set_option maxRecDepth 20000
set_option linter.unusedSectionVars false

theorem At.look_lt {w0 w : World} {d : Nat} {S : St} (h : At w0 w d S) {k : List UInt8} {f : Nat} (hk : look S.pres k = some f) : f < w.heap.size := by
  obtain ⟨F, ⟨pm, dm, val, hD⟩, _⟩ := h
  exact Go.Proofs.Yteelmgmigfeabaa.look_lt hD (.inl ⟨k, hk⟩)
/-- '[]byte(s)' -/
theorem conv_bytes (w : World) (s : ByteArray) : ∃ w' c, (convert 9 22 (.string s)).run Try.prog w = .ok (.slice (some ⟨w.heap.size, 0, none⟩) s.size c) w' ∧ Below w.heap.size w w' ∧ Lies w' w'.heap.size 1 (some ⟨w.heap.size, 0, none⟩) s.size (s.data.toList.map bv) := by
  refine ⟨_, _, run_bytes_of_string w 9 22 5 s Try.underlying9 Try.underlying22 Try.underlying5, ((Below.refl _ _).drew).alloc (Nat.le_refl _) _, ?_⟩
  generalize grownCap w s.size 0 5 = c
  have hz := alloc_size w.drew (.cells (bytesRow s c) 5 ((bytesRow s c).size, (bytesRow s c).size + 1))
  have h : (w.drew.alloc (.cells (bytesRow s c) 5 ((bytesRow s c).size, (bytesRow s c).size + 1))).heap[w.heap.size]? = some (.cells (bytesRow s c) 5 ((bytesRow s c).size, (bytesRow s c).size + 1)) := heap_alloc_new w.drew _
  have hz2 : w.heap.size + 1 = (w.drew.alloc (.cells (bytesRow s c) 5 ((bytesRow s c).size, (bytesRow s c).size + 1))).heap.size := hz
  refine ⟨by rw [List.length_map, Array.length_toList, Nat.mul_one]; rfl, fun j hj => ?_⟩
  have hj2 : j < s.data.size := by rw [List.length_map, Array.length_toList] at hj; exact hj
  refine ⟨_, bv (s.data[j]), rfl, by show w.heap.size < _; omega, ?_, ?_⟩
  · rw [List.getElem?_map, Array.getElem?_toList, Array.getElem?_eq_getElem hj2]; rfl
  · rw [add_lit, Nat.zero_add, cell_of_row _ w.heap.size j _ _ _ h, bytesRow_at s c j hj2]
def kOld : ByteArray := ⟨#[111, 108, 100]⟩
def kNew : ByteArray := ⟨#[110, 101, 119]⟩
section
variable (b c : Nat) (la lb : List UInt8)
def M1 : St := (St.new 20000).create [111, 108, 100] b
def M2 : St := (M1 b).create [110, 101, 119] c
theorem M2_pres : (M2 b c).pres = .map [(.string [110, 101, 119], .lit (.int .u64 (c : Int))), (.string [111, 108, 100], .lit (.int .u64 (b : Int)))] := rfl
def M3 : St := (M2 b c).append b la
def M4 : St := (M3 b c la).append c lb
def M5 : St := (M4 b c la lb).sync b
def M6 : St := (M5 b c la lb).sync c
def M7 : St := (M6 b c la lb).names
def M8 : St := (M7 b c la lb).rename [110, 101, 119] [111, 108, 100] c
theorem M8_dur : (M8 b c la lb).dur = (M2 b c).pres := rfl
theorem M9_dur : (M8 b c la lb).names.dur = .map [(.string [111, 108, 100], .lit (.int .u64 (c : Int)))] := rfl
theorem M9_pres : (M8 b c la lb).names.pres = .map [(.string [111, 108, 100], .lit (.int .u64 (c : Int)))] := rfl
theorem M8_pres : (M8 b c la lb).pres = .map [(.string [111, 108, 100], .lit (.int .u64 (c : Int)))] := rfl
theorem look_old : look (M2 b c).pres [111, 108, 100] = some b := by
  show look ((M1 b).pres.put _ _) _ = _
  rw [look_put (M1 b).pres ⟨_, rfl⟩, if_neg (show ¬ ([111, 108, 100] : List UInt8) = [110, 101, 119] by decide)]
  exact look_one b [111, 108, 100]
theorem look_new : look (M2 b c).pres [110, 101, 119] = some c := by
  show look ((M1 b).pres.put _ _) _ = _
  rw [look_put (M1 b).pres ⟨_, rfl⟩, if_pos rfl]
theorem look_else (k : List UInt8) (h1 : k ≠ [111, 108, 100]) (h2 : k ≠ [110, 101, 119]) : look (M2 b c).pres k = none := by
  show look ((M1 b).pres.put _ _) _ = _
  rw [look_put (M1 b).pres ⟨_, rfl⟩, if_neg h2]
  exact look_one_not b h1
theorem two_tot (g : Nat → Nat) : tot (M2 b c).pres g = g c + g b := by
  rw [M2_pres]
  show g c + (g b + 0) = _
  omega
variable (hne : b ≠ c)
include hne
theorem M2_fb : (M2 b c).file b = ⟨[], 0⟩ := by simp [M2, M1, St.create, upd, hne]
theorem M2_fc : (M2 b c).file c = ⟨[], 0⟩ := by simp [M2, M1, St.create, upd]
theorem M3_fb : (M3 b c la).file b = ⟨la, 0⟩ := by show upd _ _ _ _ = _; rw [upd_same, M2_fb b c hne]; rfl
theorem M3_fc : (M3 b c la).file c = ⟨[], 0⟩ := by show upd _ _ _ _ = _; rw [upd_other _ _ hne.symm, M2_fc b c hne]
theorem M4_fb : (M4 b c la lb).file b = ⟨la, 0⟩ := by show upd _ _ _ _ = _; rw [upd_other _ _ hne, M3_fb b c la hne]
theorem M4_fc : (M4 b c la lb).file c = ⟨lb, 0⟩ := by show upd _ _ _ _ = _; rw [upd_same, M3_fc b c la hne]; rfl
theorem M5_fb : (M5 b c la lb).file b = ⟨la, la.length⟩ := by show upd _ _ _ _ = _; rw [upd_same, M4_fb b c la lb hne]
theorem M5_fc : (M5 b c la lb).file c = ⟨lb, 0⟩ := by show upd _ _ _ _ = _; rw [upd_other _ _ hne.symm, M4_fc b c la lb hne]
theorem M6_fb : (M6 b c la lb).file b = ⟨la, la.length⟩ := by show upd _ _ _ _ = _; rw [upd_other _ _ hne, M5_fb b c la lb hne]
theorem M6_fc : (M6 b c la lb).file c = ⟨lb, lb.length⟩ := by show upd _ _ _ _ = _; rw [upd_same, M5_fc b c la lb hne]
theorem M2_left : (M2 b c).left = 20000 := by
  show 20000 - tot _ _ = _
  rw [two_tot]; show 20000 - (((M2 b c).file c).bytes.length + ((M2 b c).file b).bytes.length) = 20000
  rw [M2_fb b c hne, M2_fc b c hne]; rfl
theorem M3_left : (M3 b c la).left = 20000 - la.length := by
  show 20000 - tot (M2 b c).pres _ = _
  rw [two_tot]; show 20000 - (((M3 b c la).file c).bytes.length + ((M3 b c la).file b).bytes.length) = _
  rw [M3_fb b c la hne, M3_fc b c la hne]; show 20000 - (0 + la.length) = _; rw [Nat.zero_add]
theorem M8_left : (M8 b c la lb).left = 20000 - lb.length := by
  show 20000 - tot _ _ = _
  rw [M8_pres, one_tot]; show 20000 - ((M6 b c la lb).file c).bytes.length = _
  rw [M6_fc b c la lb hne]
end

theorem at_fail_dur {w0 w : World} {d : Nat} {S : St} (h : At w0 w d S) (keep : Nat) (hk : keep ≤ 9223372036854775807) :
    Calls Try.prog 14 #[dp d, .int .i64 (keep : Int), .bool false] w fun x w' => ∃ d' S', x = .returned (.tuple #[dp d', er 0]) ∧ Below w.heap.size w w' ∧ At w0 w' d' S' ∧ FailSpec S S.dur keep S' := at_fail h keep hk false
theorem at_fail_pres {w0 w : World} {d : Nat} {S : St} (h : At w0 w d S) (keep : Nat) (hk : keep ≤ 9223372036854775807) :
    Calls Try.prog 14 #[dp d, .int .i64 (keep : Int), .bool true] w fun x w' => ∃ d' S', x = .returned (.tuple #[dp d', er 0]) ∧ Below w.heap.size w w' ∧ At w0 w' d' S' ∧ FailSpec S S.pres keep S' := at_fail h keep hk true
theorem cut_sure (m : Nat) (l : List UInt8) : (cutC m ⟨l, l.length⟩).bytes = l := by
  show l.take (l.length + min m (l.length - l.length)) = l
  rw [List.take_of_length_le (by omega)]
/-- what a crash leaves of a disk with two names -/
theorem fail_two {S S' : St} {b c keep : Nat} (h : FailSpec S (M2 b c).pres keep S') : ∃ b' c', look S'.pres [111, 108, 100] = some b' ∧ S'.file b' = cutC keep (S.file b) ∧ look S'.pres [110, 101, 119] = some c' ∧ S'.file c' = cutC keep (S.file c) ∧ ∀ k, k ≠ [111, 108, 100] → k ≠ [110, 101, 119] → look S'.pres k = none := by
  obtain ⟨_, _, h⟩ := h
  obtain ⟨b', h1, h2⟩ := (h _).2 b (look_old b c)
  obtain ⟨c', h3, h4⟩ := (h _).2 c (look_new b c)
  exact ⟨b', c', h1, h2, h3, h4, fun k k1 k2 => (h k).1 (look_else b c k k1 k2)⟩
theorem two_list {w0 w : World} {d : Nat} {S : St} (h : At w0 w d S) {b c : Nat} (h1 : look S.pres [111, 108, 100] = some b) (h2 : look S.pres [110, 101, 119] = some c) (h3 : ∀ k, k ≠ [111, 108, 100] → k ≠ [110, 101, 119] → look S.pres k = none) : S.list.length = 2 := by
  rw [list_is h.presOK h.tidy [[111, 108, 100], [110, 101, 119]] (by decide) (fun k => ?_)]
  · rw [List.length_mergeSort]; rfl
  · by_cases e : k = [111, 108, 100]
    · subst e; simp [h1]
    · by_cases e2 : k = [110, 101, 119]
      · subst e2; simp [h2]
      · rw [h3 k e e2]; simp [e, e2]

set_option maxHeartbeats 4000000 in
theorem filesMoves_big (a b : ByteArray) (sure : Bool) (m : Nat) (w : World) (ha : a.size ≤ 140737488351232) (hb : b.size ≤ 140737488351232) (hbig : 10000 < a.size + b.size) :
    Calls Try.prog 6 #[.agg #[.string a, .string b], .bool sure, .int .u8 (m : Int)] w fun e w' => e = .returned (.bool true) ∧ Below w.heap.size w w' := by
  have i1 : (10000 : Int) < (a.size : Int) + (b.size : Int) := by omega
  go_enter Try.func6, Try.ntmps6
  go_wp2_with fail
  refine (alive5_any _).mono ?_
  rintro x w1 ⟨rfl, hb1⟩
  go_wp2_with fail
  refine (alive5_any _).mono ?_
  rintro x w2 ⟨rfl, hb2⟩
  have HB := (below_a (Below.refl _ w) _).trans ((hb1.mono (by simp)).trans (hb2.mono (Nat.le_trans (by simp) hb1.size)))
  have HBB := Lib.hid HB
  clear hb1 hb2 HB
  go_wp2
  go_ret
  exact ⟨rfl, HBB.out⟩

set_option maxHeartbeats 1500000 in
theorem filesMoves_small (a b : ByteArray) (sure : Bool) (m : Nat) (w : World) (hm : m < 256) (hsz : a.size + b.size ≤ 10000) :
    Calls Try.prog 6 #[.agg #[.string a, .string b], .bool sure, .int .u8 (m : Int)] w fun e w' => e = .returned (.bool true) ∧ Below w.heap.size w w' := by
  have i1 : (a.size : Int) + (b.size : Int) ≤ 10000 := by omega
  go_enter Try.func6, Try.ntmps6
  go_wp2_with fail
  refine (alive5_any _).mono ?_
  rintro x w1 ⟨rfl, hb1⟩
  have H0 := Lib.hid ((below_a (Below.refl _ w) _).trans (hb1.mono (by simp)))
  go_wp2_with fail
  refine (at_new (w0 := w) H0.out 20000 (by decide) (by decide)).mono ?_
  rintro x w2 ⟨d, rfl, h1⟩
  have H := Lib.hid h1; clear h1 hb1
  go_wp2_with fail
  refine (at_create H.out kOld (by decide) (by decide) rfl (by decide)).mono ?_
  rintro x w3 ⟨rfl, b1, hb1, h2⟩
  have h2 : At w w3 d (M1 b1) := h2
  have l1 := h2.look_lt (look_one b1 [111, 108, 100])
  have H := Lib.hid h2; clear h2 hb1
  go_wp2_with fail
  refine (at_create H.out kNew (by decide) (by decide) (look_one_not b1 (by decide)) (by show 1 < 64; decide)).mono ?_
  rintro x w4 ⟨rfl, b2, hb2, h2⟩
  have h2 : At w w4 d (M2 b1 b2) := h2
  have hne : b1 ≠ b2 := by omega
  have H := Lib.hid h2; clear h2 hb2 l1
  have HNe := Lib.hid hne
  have ea : a.data.toList.length = a.size := by rw [Array.length_toList]; rfl
  have eb : b.data.toList.length = b.size := by rw [Array.length_toList]; rfl
  have EA := Lib.hid ea; have EB := Lib.hid eb; have HSZ := Lib.hid hsz
  clear ea eb hsz hne i1
  obtain ⟨w5, c5, hrun5, hB5, hL5⟩ := conv_bytes w4 a
  have HB5 := Lib.hid hB5; have HL5 := Lib.hid hL5; clear hB5 hL5
  go_wp2_with fail
  refine (at_append (H.out.below HB5.out) kOld (by decide) (by decide) _ a.size c5 a.data.toList HL5.out (look_old b1 b2) ⟨by rw [M2_left b1 b2 HNe.out]; have := HSZ.out; omega, by show a.size + ((M2 b1 b2).file b1).bytes.length ≤ _; rw [M2_fb b1 b2 HNe.out]; have := HSZ.out; show a.size + 0 ≤ _; omega⟩).mono ?_
  rintro x w6 ⟨rfl, h2⟩
  have h2 : At w w6 d (M3 b1 b2 a.data.toList) := h2
  have H := Lib.hid h2; clear h2 hrun5 HB5 HL5
  obtain ⟨w7, c7, hrun7, hB7, hL7⟩ := conv_bytes w6 b
  have HB7 := Lib.hid hB7; have HL7 := Lib.hid hL7; clear hB7 hL7
  go_wp2_with fail
  refine (at_append (H.out.below HB7.out) kNew (by decide) (by decide) _ b.size c7 b.data.toList HL7.out (look_new b1 b2) ⟨by rw [M3_left b1 b2 _ HNe.out, EA.out]; have := HSZ.out; omega, by show b.size + ((M3 b1 b2 _).file b2).bytes.length ≤ _; rw [M3_fc b1 b2 _ HNe.out]; have := HSZ.out; show b.size + 0 ≤ _; omega⟩).mono ?_
  rintro x w8 ⟨rfl, h2⟩
  have h2 : At w w8 d (M4 b1 b2 a.data.toList b.data.toList) := h2
  have H := Lib.hid h2; clear h2 hrun7 HB7 HL7
  go_wp2_with fail
  refine (at_sync H.out kOld (by decide) (by decide) (look_old b1 b2)).mono ?_
  rintro x w9 ⟨rfl, h2⟩
  have h2 : At w w9 d (M5 b1 b2 a.data.toList b.data.toList) := h2
  have H := Lib.hid h2; clear h2
  go_wp2_with fail
  refine (at_sync H.out kNew (by decide) (by decide) (look_new b1 b2)).mono ?_
  rintro x w10 ⟨rfl, h2⟩
  have h2 : At w w10 d (M6 b1 b2 a.data.toList b.data.toList) := h2
  have H := Lib.hid h2; clear h2
  go_wp2_with fail
  refine (at_names H.out).mono ?_
  rintro x w11 ⟨rfl, h2⟩
  have h2 : At w w11 d (M7 b1 b2 a.data.toList b.data.toList) := h2
  have H := Lib.hid h2; clear h2
  go_wp2_with fail
  refine (at_rename H.out kNew kOld (by decide) (by decide) (by decide) (by decide) (look_new b1 b2) (by decide)).mono ?_
  rintro x w12 ⟨rfl, h2⟩
  have h2 : At w w12 d (M8 b1 b2 a.data.toList b.data.toList) := h2
  have H := Lib.hid h2; clear h2
  go_wp2_with fail
  refine (at_all H.out kOld (by decide) (by decide) (look_one b2 [111, 108, 100])).mono ?_
  rw [show (M8 b1 b2 a.data.toList b.data.toList).file b2 = ⟨b.data.toList, b.data.toList.length⟩ from M6_fc b1 b2 _ _ HNe.out, str_eq]
  rintro x w13 ⟨rfl, b9⟩
  have H := Lib.hid (H.out.below b9); clear b9
  go_wp2_with fail
  refine (at_left H.out).mono ?_
  rw [M8_left b1 b2 _ _ HNe.out, EB.out]
  rintro x w14 ⟨rfl, b9⟩
  have H := Lib.hid (H.out.below b9); clear b9
  have hle : b.size ≤ 20000 := by have := HSZ.out; omega
  rw [show ((20000 - b.size : Nat) : Int) = 20000 - (b.size : Int) by omega]
  have HM := Lib.hid (show m ≤ 9223372036854775807 by omega)
  cases sure
  · go_wp2_with fail
    refine (at_fail_dur H.out m HM.out).mono ?_
    rintro x w15 ⟨dx, Sx, rfl, b9, hx, hsx⟩
    rw [M8_dur] at hsx
    obtain ⟨bx, cx, o1, o2, n1, n2, ot⟩ := fail_two hsx
    rw [show (M8 b1 b2 a.data.toList b.data.toList).file b1 = ⟨a.data.toList, a.data.toList.length⟩ from M6_fb b1 b2 _ _ HNe.out] at o2
    rw [show (M8 b1 b2 a.data.toList b.data.toList).file b2 = ⟨b.data.toList, b.data.toList.length⟩ from M6_fc b1 b2 _ _ HNe.out] at n2
    have HX := Lib.hid hx; have O1 := Lib.hid o1; have O2 := Lib.hid o2; have N1 := Lib.hid n1; have N2 := Lib.hid n2; have XL := Lib.hid (two_list hx o1 n1 ot)
    have H := Lib.hid (H.out.below b9)
    clear hx o1 o2 n1 n2 ot hsx b9
    go_wp2_with fail
    refine (at_fail_pres H.out m HM.out).mono ?_
    rintro x w16 ⟨dy, Sy, rfl, b9, hy, hsy⟩
    rw [M8_pres] at hsy
    obtain ⟨by_, y1, y2, y3⟩ := fail_one hsy
    rw [show (M8 b1 b2 a.data.toList b.data.toList).file b2 = ⟨b.data.toList, b.data.toList.length⟩ from M6_fc b1 b2 _ _ HNe.out] at y2
    have HY := Lib.hid hy; have Y1 := Lib.hid y1; have Y2 := Lib.hid y2; have YL := Lib.hid (one_list hy y1 y3)
    have HX := Lib.hid (HX.out.below b9)
    clear hy y1 y2 y3 hsy b9
    go_wp2_with fail
    refine (at_all HY.out kOld (by decide) (by decide) Y1.out).mono ?_
    rw [Y2.out, cut_sure, str_eq]
    rintro x w17 ⟨rfl, b9⟩
    have HX := Lib.hid (HX.out.below b9); have HY := Lib.hid (HY.out.below b9)
    clear b9
    go_wp2_with fail
    refine (at_list HY.out).mono ?_
    rw [YL.out]
    rintro x w18 ⟨A1, c1, rfl, _, b9⟩
    have HX := Lib.hid (HX.out.below b9)
    clear b9
    go_wp2_with fail
    refine (at_all HX.out kOld (by decide) (by decide) O1.out).mono ?_
    rw [O2.out, cut_sure, str_eq]
    rintro x w19 ⟨rfl, b9⟩
    have HX := Lib.hid (HX.out.below b9)
    clear b9
    go_wp2_with fail
    refine (at_all HX.out kNew (by decide) (by decide) N1.out).mono ?_
    rw [N2.out, cut_sure, str_eq]
    rintro x w20 ⟨rfl, b9⟩
    have HX := Lib.hid (HX.out.below b9)
    clear b9
    go_wp2_with fail
    refine (at_list HX.out).mono ?_
    rw [XL.out]
    rintro x w21 ⟨A2, c2, rfl, _, b9⟩
    have HX := Lib.hid (HX.out.below b9)
    clear b9
    go_wp2
    go_ret
    exact ⟨rfl, HX.out.low⟩
  · go_wp2_with fail
    refine (at_names H.out).mono ?_
    rintro x w15 ⟨rfl, h2⟩
    have h2 : At w w15 d (M8 b1 b2 a.data.toList b.data.toList).names := h2
    have H := Lib.hid h2; clear h2
    go_wp2_with fail
    refine (at_fail_dur H.out m HM.out).mono ?_
    rintro x w16 ⟨dx, Sx, rfl, b9, hx, hsx⟩
    rw [M9_dur] at hsx
    obtain ⟨bx, x1, x2, x3⟩ := fail_one hsx
    rw [show (M8 b1 b2 a.data.toList b.data.toList).names.file b2 = ⟨b.data.toList, b.data.toList.length⟩ from M6_fc b1 b2 _ _ HNe.out] at x2
    have HX := Lib.hid hx; have X1 := Lib.hid x1; have X2 := Lib.hid x2; have XL := Lib.hid (one_list hx x1 x3)
    have H := Lib.hid (H.out.below b9)
    clear hx x1 x2 x3 hsx b9
    go_wp2_with fail
    refine (at_fail_pres H.out m HM.out).mono ?_
    rintro x w17 ⟨dy, Sy, rfl, b9, hy, hsy⟩
    rw [M9_pres] at hsy
    obtain ⟨by_, y1, y2, y3⟩ := fail_one hsy
    rw [show (M8 b1 b2 a.data.toList b.data.toList).names.file b2 = ⟨b.data.toList, b.data.toList.length⟩ from M6_fc b1 b2 _ _ HNe.out] at y2
    have HY := Lib.hid hy; have Y1 := Lib.hid y1; have Y2 := Lib.hid y2; have YL := Lib.hid (one_list hy y1 y3)
    have HX := Lib.hid (HX.out.below b9); have H := Lib.hid (H.out.below b9)
    clear hy y1 y2 y3 hsy b9
    go_wp2_with fail
    refine (at_all HY.out kOld (by decide) (by decide) Y1.out).mono ?_
    rw [Y2.out, cut_sure, str_eq]
    rintro x w18 ⟨rfl, b9⟩
    have HX := Lib.hid (HX.out.below b9); have HY := Lib.hid (HY.out.below b9); have H := Lib.hid (H.out.below b9)
    clear b9
    go_wp2_with fail
    refine (at_list HY.out).mono ?_
    rw [YL.out]
    rintro x w19 ⟨A1, c1, rfl, _, b9⟩
    have HX := Lib.hid (HX.out.below b9); have H := Lib.hid (H.out.below b9)
    clear b9
    go_wp2_with fail
    refine (at_all HX.out kOld (by decide) (by decide) X1.out).mono ?_
    rw [X2.out, cut_sure, str_eq]
    rintro x w20 ⟨rfl, b9⟩
    have HX := Lib.hid (HX.out.below b9); have H := Lib.hid (H.out.below b9)
    clear b9
    go_wp2_with fail
    refine (at_list HX.out).mono ?_
    rw [XL.out]
    rintro x w21 ⟨A2, c2, rfl, _, b9⟩
    have H := Lib.hid (H.out.below b9)
    clear b9
    go_wp2_with fail
    refine (at_rename_none H.out kNew kOld (by decide) (by decide) (by decide) (by decide) (look_one_not b2 (by decide))).mono ?_
    rintro x w22 ⟨rfl, b9⟩
    have H := Lib.hid (H.out.below b9)
    clear b9
    go_wp2
    go_ret
    exact ⟨rfl, H.out.low⟩

theorem filesMoves_walk (a b : ByteArray) (sure : Bool) (m : Nat) (w : World) (ha : a.size ≤ 140737488351232) (hb : b.size ≤ 140737488351232) (hm : m < 256) :
    Calls Try.prog 6 #[.agg #[.string a, .string b], .bool sure, .int .u8 (m : Int)] w fun e w' => e = .returned (.bool true) ∧ Below w.heap.size w w' := by
  by_cases h : 10000 < a.size + b.size
  · exact filesMoves_big a b sure m w ha hb h
  · exact filesMoves_small a b sure m w hm (by omega)
end Go.Proofs.Yteelmgmigfeabaa
