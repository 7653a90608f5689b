/-
  bucketlinelaw05's alive answers true.
-/
import Derived.Test.YteelmgmigfeabaaAt
import Derived.Lib.SlBytesConst
namespace Go.Proofs.Yteelmgmigfeabaa
open Go.RowKit Go.Maps Go.Sort
set_option linter.unusedVariables false
set_option linter.unusedSimpArgs false

theorem lits_bytes (w : World) (l : List UInt8) (t : TypeId) (fr : Nat × Nat) : Lies (w.alloc (.cells (l.map bv).toArray t fr)) (w.alloc (.cells (l.map bv).toArray t fr)).heap.size 1 (some ⟨w.heap.size, 0, none⟩) l.length (l.map bv) := by
  rw [← alloc_size]
  refine ⟨by simp, fun j hj => ⟨_, (l.map bv)[j], rfl, by simp, List.getElem?_eq_getElem hj, ?_⟩⟩
  rw [add_lit]
  have h : (w.alloc (.cells (l.map bv).toArray t fr)).heap[w.heap.size]? = some (.cells (l.map bv).toArray t fr) := heap_alloc_new w _
  rw [Nat.zero_add, cell_of_row _ w.heap.size j (l.map bv).toArray t fr h, List.getElem?_toArray]
  exact List.getElem?_eq_getElem hj

section
variable (b : Nat)
def L1 : St := (St.new 10).create [97] b
def L2 : St := (L1 b).append b [97, 98, 99, 100, 101]
def L3 : St := (L2 b).sync b
def L4 : St := (L3 b).append b [102, 103]
def L5 : St := (L4 b).names
def L6 : St := (L5 b).rename [97] [98] b
theorem L1_pres : (L1 b).pres = .map [(.string [97], .lit (.int .u64 (b : Int)))] := rfl
theorem L6_pres : (L6 b).pres = .map [(.string [98], .lit (.int .u64 (b : Int)))] := rfl
theorem L6_dur : (L6 b).dur = .map [(.string [97], .lit (.int .u64 (b : Int)))] := rfl
theorem L1_file : (L1 b).file b = ⟨[], 0⟩ := upd_same _ _ _
theorem L2_file : (L2 b).file b = ⟨[97, 98, 99, 100, 101], 0⟩ := by show upd _ _ _ _ = _; rw [upd_same, L1_file]; rfl
theorem L3_file : (L3 b).file b = ⟨[97, 98, 99, 100, 101], 5⟩ := by show upd _ _ _ _ = _; rw [upd_same, L2_file]; rfl
theorem L4_file : (L4 b).file b = ⟨[97, 98, 99, 100, 101, 102, 103], 5⟩ := by show upd _ _ _ _ = _; rw [upd_same, L3_file]; rfl
theorem L6_file : (L6 b).file b = ⟨[97, 98, 99, 100, 101, 102, 103], 5⟩ := L4_file b
theorem one_tot (k : List UInt8) (g : Nat → Nat) : tot (.map [(.string k, .lit (.int .u64 (b : Int)))]) g = g b := by
  show g b + 0 = g b
  omega
theorem L1_left : (L1 b).left = 10 := by show 10 - tot _ _ = _; rw [L1_pres, one_tot]; show 10 - ((L1 b).file b).bytes.length = 10; rw [L1_file]; rfl
theorem L3_left : (L3 b).left = 5 := by show 10 - tot _ _ = _; rw [show (L3 b).pres = (L1 b).pres from rfl, L1_pres, one_tot]; show 10 - ((L3 b).file b).bytes.length = 5; rw [L3_file]; rfl
theorem L6_left : (L6 b).left = 3 := by show 10 - tot _ _ = _; rw [L6_pres, one_tot]; show 10 - ((L6 b).file b).bytes.length = 3; rw [L6_file]; rfl
theorem L1_len : (L1 b).len b = 0 := by show ((L1 b).file b).bytes.length = 0; rw [L1_file]; rfl
theorem L3_len : (L3 b).len b = 5 := by show ((L3 b).file b).bytes.length = 5; rw [L3_file]; rfl
theorem L6_len : (L6 b).len b = 7 := by show ((L6 b).file b).bytes.length = 7; rw [L6_file]; rfl
theorem look_one (k : List UInt8) : look (.map [(.string k, .lit (.int .u64 (b : Int)))]) k = some b := by
  have := look_put (.map []) ⟨[], rfl⟩ k k b
  rw [if_pos rfl] at this
  exact this
theorem look_one_not {k k' : List UInt8} (h : k' ≠ k) : look (.map [(.string k, .lit (.int .u64 (b : Int)))]) k' = none := by
  have := look_put (.map []) ⟨[], rfl⟩ k k' b
  rw [if_neg h] at this
  exact this
end
/-- what a crash leaves of a disk with one name -/
theorem fail_one {S S' : St} {k : List UInt8} {f keep : Nat} (h : FailSpec S (.map [(.string k, .lit (.int .u64 (f : Int)))]) keep S') : ∃ b, look S'.pres k = some b ∧ S'.file b = cutC keep (S.file f) ∧ ∀ k', k' ≠ k → look S'.pres k' = none := by
  obtain ⟨_, _, h⟩ := h
  obtain ⟨b, h1, h2⟩ := (h k).2 f (look_one f k)
  exact ⟨b, h1, h2, fun k' hk => (h k').1 (look_one_not f hk)⟩
theorem one_list {w0 w : World} {d : Nat} {S : St} (h : At w0 w d S) {k : List UInt8} {b : Nat} (h1 : look S.pres k = some b) (h2 : ∀ k', k' ≠ k → look S.pres k' = none) : S.list = [k] := by
  rw [list_is h.presOK h.tidy [k] (by simp) (fun k' => ?_)]
  · exact List.mergeSort_singleton _
  · by_cases e : k' = k
    · subst e; simp [h1]
    · rw [h2 k' e]; simp [e]

/-- SameTexts of a disk's names and of one text -/
theorem texts_one {w : World} {A : Option Addr} {c : Nat} (k k' : List UInt8) (t : TypeId) (h : Lies w w.heap.size 1 A 1 ([k].map sv)) :
    Calls Try.prog 28 #[.slice A 1 c, .slice (some ⟨w.heap.size, 0, none⟩) 1 1] (w.alloc (.cells #[sv k'] t)) fun e w' => e = .returned (.bool (decide (k = k'))) ∧ Below w.heap.size w w' := by
  have hs := alloc_size w (.cells #[sv k'] t)
  have h2 := one_lies (w := w) rfl (sv k') t
  have h1 : Lies (w.alloc (.cells #[sv k'] t)) (w.heap.size + 1) 1 A 1 ([k].map sv) := (h.alloc (Nat.le_refl _) _).more (by omega)
  refine (texts_any A (some ⟨w.heap.size, 0, none⟩) 1 1 c 1 (w.heap.size + 1) [k] [k'] _ h1 h2 (by decide)).mono fun e w' hx => ?_
  obtain ⟨hx, q, rfl⟩ := hx
  refine ⟨hx.trans ?_, (below_a (Below.refl _ w) _).trans (by exact ⟨rfl, rfl, rfl, Nat.le_refl _, fun _ _ => rfl⟩)⟩
  unfold sameT
  simp

set_option maxRecDepth 20000 in
set_option maxHeartbeats 4000000 in
theorem alive5_any (w : World) : Calls Try.prog 23 #[] w fun e w' => e = .returned (.bool true) ∧ Below w.heap.size w w' := by
  have kc := fun (w : World) (C : Array Value) (n c : Nat) => Lib.run_convert_bytes_const (P := Try.prog) w 22 5 C n c Try.underlying22 Try.underlying5
  have hms : ∀ w, (Instr.makeSlice 22 (.int .i64 4) (.int .i64 4)).run Try.prog w = .ok (.slice (some ⟨w.heap.size, 0, none⟩) 4 4) (w.alloc (.cells #[.int .u8 0, .int .u8 0, .int .u8 0, .int .u8 0] 5)) := fun _ => by kernel_rfl
  have HN := Lib.hid (at_new (w0 := w) (Below.refl _ w) 10 (by decide) (by decide))
  go_enter Try.func23, Try.ntmps23
  go_wp2_with fail
  refine HN.out.mono ?_
  rintro x w1 ⟨d, rfl, h1⟩
  have H := Lib.hid h1; clear h1
  go_wp2_with fail
  refine (at_create H.out ⟨#[97]⟩ (by decide) (by decide) rfl (by decide)).mono ?_
  rintro x w2 ⟨rfl, b, hb, h2⟩
  have h2 : At w w2 d (L1 b) := h2
  have H := Lib.hid h2; clear h2 hb
  go_wp2_with fail
  refine (at_append (H.out.below (below_a (Below.refl _ w2) _)) ⟨#[97]⟩ (by decide) (by decide) _ 5 _ [97, 98, 99, 100, 101] (lits_bytes w2 [97, 98, 99, 100, 101] _ _) (look_one b [97]) ⟨by rw [L1_left]; decide, by rw [L1_len]; decide⟩).mono ?_
  rintro x w3 ⟨rfl, h3⟩
  have h3 : At w w3 d (L2 b) := h3
  have H := Lib.hid h3; clear h3
  go_wp2_with fail
  refine (at_sync H.out ⟨#[97]⟩ (by decide) (by decide) (look_one b [97])).mono ?_
  rintro x w4 ⟨rfl, h4⟩
  have h4 : At w w4 d (L3 b) := h4
  have H := Lib.hid h4; clear h4
  go_wp2_with fail
  refine (at_append (H.out.below (below_a (Below.refl _ w4) _)) ⟨#[97]⟩ (by decide) (by decide) _ 2 _ [102, 103] (lits_bytes w4 [102, 103] _ _) (look_one b [97]) ⟨by rw [L3_left]; decide, by rw [L3_len]; decide⟩).mono ?_
  rintro x w5 ⟨rfl, h5⟩
  have h5 : At w w5 d (L4 b) := h5
  have H := Lib.hid h5; clear h5
  go_wp2_with fail
  refine (at_names H.out).mono ?_
  rintro x w6 ⟨rfl, h6⟩
  have h6 : At w w6 d (L5 b) := h6
  have H := Lib.hid h6; clear h6
  go_wp2_with fail
  refine (at_rename H.out ⟨#[97]⟩ ⟨#[98]⟩ (by decide) (by decide) (by decide) (by decide) (look_one b [97]) (by decide)).mono ?_
  rintro x w7 ⟨rfl, h7⟩
  have h7 : At w w7 d (L6 b) := h7
  have H := Lib.hid h7; clear h7
  go_wp2_with fail
  refine (at_left H.out).mono ?_
  rintro x w8 ⟨rfl, b8⟩
  rw [L6_left]
  have H := Lib.hid (H.out.below b8); clear b8
  go_wp2_with fail
  refine (at_fail H.out 1 (by decide) false).mono ?_
  rintro x w9 ⟨dx, Sx, rfl, b9, hx9, hsx⟩
  have hsx : FailSpec (L6 b) (L6 b).dur 1 Sx := hsx
  rw [L6_dur] at hsx
  obtain ⟨bx, lx1, lx2, lx3⟩ := fail_one hsx
  rw [L6_file] at lx2
  have HX := Lib.hid hx9; have H := Lib.hid (H.out.below b9); have LX1 := Lib.hid lx1; have LX2 := Lib.hid lx2; have LX3 := Lib.hid (one_list hx9 lx1 lx3)
  clear b9 hx9 hsx lx1 lx2 lx3
  go_wp2_with fail
  refine (at_fail H.out 0 (by decide) true).mono ?_
  rintro x w10 ⟨dy, Sy, rfl, b9, hx9, hsx⟩
  have hsx : FailSpec (L6 b) (L6 b).pres 0 Sy := hsx
  rw [L6_pres] at hsx
  obtain ⟨b2, lx1, lx2, lx3⟩ := fail_one hsx
  rw [L6_file] at lx2
  have HY := Lib.hid hx9; have H := Lib.hid (H.out.below b9); have HX := Lib.hid (HX.out.below b9); have LY1 := Lib.hid lx1; have LY2 := Lib.hid lx2; have LY3 := Lib.hid (one_list hx9 lx1 lx3)
  clear b9 hx9 hsx lx1 lx2 lx3
  go_wp2_with fail
  refine (at_read_short H.out ⟨#[98]⟩ (by decide) (by decide) 5 3 (by decide) (look_one b [98]) (by rw [L6_len]; decide)).mono ?_
  rintro x w11 ⟨rfl, b9⟩
  have H := Lib.hid (H.out.below b9); have HX := Lib.hid (HX.out.below b9); have HY := Lib.hid (HY.out.below b9); clear b9
  go_wp2_with fail
  refine (at_read_none H.out ⟨#[97]⟩ (by decide) (by decide) 0 0 (look_one_not b (by decide))).mono ?_
  rintro x w12 ⟨rfl, b9⟩
  have H := Lib.hid (H.out.below b9); have HX := Lib.hid (HX.out.below b9); have HY := Lib.hid (HY.out.below b9); clear b9
  go_wp2_with fail
  refine (at_list HX.out).mono ?_
  rw [LX3.out]
  rintro x w13 ⟨A1, c1, rfl, ly, b9⟩
  have H := Lib.hid (H.out.below b9); have HX := Lib.hid (HX.out.below b9); have HY := Lib.hid (HY.out.below b9); have HL := Lib.hid ly; clear b9 ly
  go_wp2_with fail
  refine (texts_one [97] [97] _ HL.out).mono ?_
  rintro x w14 ⟨rfl, b9⟩
  have H := Lib.hid (H.out.below b9); have HX := Lib.hid (HX.out.below b9); have HY := Lib.hid (HY.out.below b9); clear b9
  go_wp2_with fail
  refine (at_all HX.out ⟨#[97]⟩ (by decide) (by decide) LX1.out).mono ?_
  rw [LX2.out, show (cutC 1 ⟨[97, 98, 99, 100, 101, 102, 103], 5⟩).bytes = [97, 98, 99, 100, 101, 102] from rfl]
  rintro x w15 ⟨rfl, b9⟩
  have H := Lib.hid (H.out.below b9); have HX := Lib.hid (HX.out.below b9); have HY := Lib.hid (HY.out.below b9); clear b9
  go_wp2_with fail
  refine (at_list HY.out).mono ?_
  rw [LY3.out]
  rintro x w16 ⟨A2, c2, rfl, ly, b9⟩
  have H := Lib.hid (H.out.below b9); have HY := Lib.hid (HY.out.below b9); have HL := Lib.hid ly; clear b9 ly
  go_wp2_with fail
  refine (texts_one [98] [98] _ HL.out).mono ?_
  rintro x w17 ⟨rfl, b9⟩
  have H := Lib.hid (H.out.below b9); have HY := Lib.hid (HY.out.below b9); clear b9
  go_wp2_with fail
  refine (at_all HY.out ⟨#[98]⟩ (by decide) (by decide) LY1.out).mono ?_
  rw [LY2.out, show (cutC 0 ⟨[97, 98, 99, 100, 101, 102, 103], 5⟩).bytes = [97, 98, 99, 100, 101] from rfl]
  rintro x w18 ⟨rfl, b9⟩
  have H := Lib.hid (H.out.below b9); clear b9
  go_wp2_with fail
  refine (at_append_full (H.out.below (below_a (Below.refl _ w18) _)) ⟨#[98]⟩ (by decide) (by decide) _ 4 _ (by decide) (look_one b [98]) (fun hh => by rw [L6_left] at hh; exact absurd hh.1 (by decide))).mono ?_
  rintro x w19 ⟨rfl, b9⟩
  have H := Lib.hid ((H.out.below (below_a (Below.refl _ w18) _)).below b9); clear b9
  go_wp2_with fail
  refine (at_create_no H.out ⟨#[65]⟩ (by decide) 1 (by rw [show argErr [okName (⟨#[65]⟩ : ByteArray).data.toList] = 1 from by decide]; rfl) (by decide)).mono ?_
  rintro x w20 ⟨rfl, b9⟩
  have H := Lib.hid (H.out.below b9); clear b9
  go_wp2_with fail
  refine (at_create_no H.out ⟨#[98]⟩ (by decide) 8 (by rw [show argErr [okName (⟨#[98]⟩ : ByteArray).data.toList] = 0 from by decide, show look (L6 b).pres (⟨#[98]⟩ : ByteArray).data.toList = some b from look_one b [98]]; rfl) (by decide)).mono ?_
  rintro x w21 ⟨rfl, b9⟩
  have H := Lib.hid (H.out.below b9); clear b9
  go_wp2
  go_ret
  exact ⟨rfl, H.out.low⟩
end Go.Proofs.Yteelmgmigfeabaa
