/-
  Contracts of package journals: Open of a new file, Add, Sync, at a disk of the caller's own.
  Contracts of package journals: Add and Sync, at a disk of the caller's own.
  Contracts of package journals: Sync, and Add where it is refused, at a disk of the caller's own.
-/
import Derived.Test.YtopcnlophmplgaaPartH
import Derived.Test.YtopcnlophmplgaaPartG
namespace Go.Proofs.Ytopcnlophmplgaa
open Go.RowKit Go.Maps Go.Sort
set_option linter.unusedVariables false
set_option maxRecDepth 100000

theorem reads_nil {rs : List (List UInt8)} {e : Nat} (h : Jr.Reads [] rs e) : rs = [] ∧ e = 0 := (h.one Jr.WF.nil.reads)
section
variable {w0 w : World} {d : Nat} {S : St} (h : At w0 w d S)
include h
theorem open_new (s : ByteArray) (hs : s.size ≤ 140737488355328) (hn : okName s.data.toList = true) (hk : look S.pres s.data.toList = none) (hz : Maps.size S.pres < 64) :
    Calls Try.prog 19 #[dp d, .string s] w fun x w' => ∃ p A c b, x = .returned (.tuple #[jp p, .slice A 0 c, er 0]) ∧ JAt w0 w' d (S.create s.data.toList b) p s 0 ∧ w.heap.size ≤ b := by
  have HH := Lib.hid h
  go_enter Try.func19, Try.ntmps19
  go_wp2_with fail
  refine (content_none HH.out s hs hn hk).mono ?_
  rintro x w1 ⟨rfl, hb1⟩
  have HB := Lib.hid hb1
  have HC := Lib.hid (at_create (HH.out.below hb1) s hs hn hk hz)
  clear hb1
  go_wp2_with fail
  refine HC.out.mono ?_
  rintro x w2 ⟨rfl, b, hb, h2⟩
  have hsw : w.heap.size ≤ b := Nat.le_trans HB.out.size hb
  have HR := Lib.hid (read_any none 0 0 [] w2 (Lies.none_ _ _ _ _) (by decide) (by decide) (by decide))
  have H2 := Lib.hid h2
  clear HC h2 hb
  go_wp2_with fail
  refine HR.out.mono ?_
  rintro x w3 ⟨vr, rs, fin, rfl, hrd, hrec, hb3⟩
  obtain ⟨hr0, rfl⟩ := reads_nil hrd
  obtain rfl : rs = [] := List.map_eq_nil_iff.1 hr0
  obtain ⟨Ar, cr, rfl, _⟩ := own_shape hrec.row
  have hJ := AtP.made (H2.out.below hb3) (jrow d s 0) 80
  have HJ := Lib.hid hJ
  clear hrd hrec hr0 hb3 hJ HR
  go_wp2
  obtain ⟨W5, hW5⟩ : ∃ W5, w3.alloc (.cells (jrow d s 0) 80) = W5 := ⟨_, rfl⟩
  change bodyPost _ _ _ _ _ (w3.alloc (.cells (jrow d s 0) 80))
  rw [hW5] at HJ ⊢
  exact bodyPost_ret (results_tmp3 rfl _ _ _) rfl ⟨w3.heap.size, Ar, cr, b, rfl, HJ.out, hsw⟩
end

section
variable {w0 w : World} {d p fin : Nat} {S : St} {s : ByteArray} (h : JAt w0 w d S p s fin)
include h
theorem exists_any : Calls Try.prog 37 #[jp p] w fun x w' => x = .returned (.bool true) ∧ w' = w := by
  have c0 : w.cell? ⟨p, 0, none⟩ = some (dp d) := h.cell rfl
  go_enter Try.func37, Try.ntmps37
  go_wp2
  go_ret
  exact ⟨rfl, rfl⟩
theorem add_limit (A : Option Addr) (n c : Nat) (hn : 65536 < n) (hn2 : n ≤ 9223372036854775807) :
    Calls Try.prog 14 #[jp p, .slice A n c] w fun x w' => x = .returned (er 3) ∧ w' = w := by
  have HE := Lib.hid (exists_any h)
  have hi : (65536 : Int) < (n : Int) := by omega
  go_enter Try.func14, Try.ntmps14
  go_wp2_with fail
  refine HE.out.mono ?_
  rintro x w1 ⟨rfl, hw⟩
  obtain rfl := hw.symm
  go_wp2
  go_ret
  exact ⟨rfl, rfl⟩
theorem add_size (A : Option Addr) (n c : Nat) (hn : n ≤ 65536) (hs : s.size ≤ 140737488355328) (zv : Value) (e : Int) (hsz : ∀ W, Below w.heap.size w W → Calls Try.prog 15 #[dp d, .string s] W fun x w' => x = .returned (.tuple #[.int .i64 0, er e]) ∧ Below W.heap.size W w') (he : e ≠ 0) :
    Calls Try.prog 14 #[jp p, .slice A n c] w fun x w' => x = .returned (er e) ∧ Below w.heap.size w w' := by
  have HE := Lib.hid (exists_any h)
  have hi : ¬ (65536 : Int) < (n : Int) := by omega
  have KA : Hid (∀ W, Below w.heap.size w W → W.cell? ⟨p, 0, none⟩ = some (dp d) ∧ W.cell? ⟨p, 1, none⟩ = some (.string s)) := fun W hW => ⟨(h.below hW).cell rfl, (h.below hW).cell rfl⟩
  have hd0 : Below w.heap.size w w.drew := below_drew (Below.refl _ _)
  have HS := Lib.hid hsz
  clear hsz
  go_enter Try.func14, Try.ntmps14
  go_wp2_with fail
  refine HE.out.mono ?_
  rintro x w1 ⟨rfl, hw⟩
  obtain rfl := hw.symm
  go_wp2_with fail
  go_region_held3 (fun W => W.cell? ⟨p, 0, none⟩ = some (dp d) ∧ W.cell? ⟨p, 1, none⟩ = some (.string s)) (first | exact KA.out _ hd0 | exact KA.out _ hb2)
    (first
      | (go_at_call 15; refine (HS.out _ hd0).mono ?_; rintro x w2 ⟨rfl, hb2'⟩; have hb2 := hd0.trans hb2')
      | fail)
  have HB2 := Lib.hid hb2
  clear hb2 hb2' hd0
  go_wp2
  go_ret
  exact ⟨rfl, HB2.out⟩
end
end Go.Proofs.Ytopcnlophmplgaa

namespace Go.Proofs.Ytopcnlophmplgaa
open Go.RowKit Go.Maps Go.Sort
set_option linter.unusedVariables false
set_option maxRecDepth 100000

section
variable {w0 w : World} {d p fin : Nat} {S : St} {s : ByteArray} (h : JAt w0 w d S p s fin)
include h
theorem add_state (A : Option Addr) (n c : Nat) (hn : n ≤ 65536) (hs : s.size ≤ 140737488355328) (hnm : okName s.data.toList = true) {f : Nat} (hk : look S.pres s.data.toList = some f) (hf : S.len f ≠ fin) :
    Calls Try.prog 14 #[jp p, .slice A n c] w fun x w' => x = .returned (er 9) ∧ Below w.heap.size w w' := by
  have HE := Lib.hid (exists_any h)
  have hi : ¬ (65536 : Int) < (n : Int) := by omega
  have hfi : ¬ (S.len f : Int) = (fin : Int) := by omega
  have KA : Hid (∀ W, Below w.heap.size w W → W.cell? ⟨p, 0, none⟩ = some (dp d) ∧ W.cell? ⟨p, 1, none⟩ = some (.string s)) := fun W hW => ⟨(h.below hW).cell rfl, (h.below hW).cell rfl⟩
  have hd0 : Below w.heap.size w w.drew := below_drew (Below.refl _ _)
  have HS := Lib.hid (at_size (h.below hd0).at_ s hs hnm hk)
  have HH := Lib.hid h
  go_enter Try.func14, Try.ntmps14
  go_wp2_with fail
  refine HE.out.mono ?_
  rintro x w1 ⟨rfl, hw⟩
  obtain rfl := hw.symm
  go_wp2_with fail
  go_region_held3 (fun W => W.cell? ⟨p, 0, none⟩ = some (dp d) ∧ W.cell? ⟨p, 1, none⟩ = some (.string s)) (first | exact KA.out _ hd0 | exact KA.out _ hb2)
    (first
      | (go_at_call 15; refine HS.out.mono ?_; rintro x w2 ⟨rfl, hb2'⟩; have hb2 := hd0.trans hb2')
      | fail)
  have HB2 := Lib.hid hb2
  have c2 : w2.cell? ⟨p, 2, none⟩ = some (.int .i64 (fin : Int)) := (HH.out.below hb2).cell rfl
  clear hb2 hb2' hd0 h
  go_wp2
  all_goals go_ret
  all_goals exact ⟨rfl, HB2.out⟩
theorem add_app (A : Option Addr) (n c : Nat) (r : List UInt8) (hL : Lies w w.heap.size 1 A n (r.map bv)) (hn : n ≤ 65536) (hnc : n ≤ c) (hcc : c ≤ 9223372036854775807) (hs : s.size ≤ 140737488355328) (hnm : okName s.data.toList = true) {f : Nat} (hk : look S.pres s.data.toList = some f) (hf : S.len f = fin) (hfb : fin ≤ 16777216)
    (hsp : (Jr.wr fin r).length ≤ S.left ∧ (Jr.wr fin r).length + S.len f ≤ 1048576) :
    Calls Try.prog 14 #[jp p, .slice A n c] w fun x w' => x = .returned (er 0) ∧ JAt w0 w' d (S.append f (Jr.wr fin r)) p s (fin + (Jr.wr fin r).length) := by
  have HE := Lib.hid (exists_any h)
  have hi : ¬ (65536 : Int) < (n : Int) := by omega
  have KA : Hid (∀ W, Below w.heap.size w W → W.cell? ⟨p, 0, none⟩ = some (dp d) ∧ W.cell? ⟨p, 1, none⟩ = some (.string s)) := fun W hW => ⟨(h.below hW).cell rfl, (h.below hW).cell rfl⟩
  have hd0 : Below w.heap.size w w.drew := below_drew (Below.refl _ _)
  have HS0 := at_size (h.below hd0).at_ s hs hnm hk
  rw [hf] at HS0
  have HS := Lib.hid HS0
  have HH := Lib.hid h
  have HL := Lib.hid hL
  clear HS0 hL
  obtain ⟨nw, hnw⟩ : ∃ nw, (Jr.wr fin r).length = nw := ⟨_, rfl⟩
  rw [hnw] at hsp ⊢
  go_enter Try.func14, Try.ntmps14
  go_wp2_with fail
  refine HE.out.mono ?_
  rintro x w1 ⟨rfl, hw⟩
  obtain rfl := hw.symm
  go_wp2_with fail
  go_region_held3 (fun W => W.cell? ⟨p, 0, none⟩ = some (dp d) ∧ W.cell? ⟨p, 1, none⟩ = some (.string s)) (first | exact KA.out _ hd0 | exact KA.out _ hb2)
    (first
      | (go_at_call 15; refine HS.out.mono ?_; rintro x w2 ⟨rfl, hb2'⟩; have hb2 := hd0.trans hb2')
      | fail)
  have H2 := Lib.hid (HH.out.below hb2)
  have c2 : w2.cell? ⟨p, 2, none⟩ = some (.int .i64 (fin : Int)) := H2.out.cell rfl
  have HW := Lib.hid (written_any fin n c A r w2 ((HL.out.below hb2).more hb2.size) hnc hcc (by omega))
  rw [hnw] at HW
  clear hb2 hb2' hd0 h KA HS HE
  go_wp2_with fail
  refine HW.out.mono ?_
  rintro x w3 ⟨v3, rfl, hown3, hb3⟩
  obtain ⟨A3, c3, rfl, _⟩ := own_shape hown3
  have H3 := Lib.hid (H2.out.below hb3)
  have KB : Hid (∀ S' W, JAt w0 W d S' p s fin → W.cell? ⟨p, 0, none⟩ = some (dp d) ∧ W.cell? ⟨p, 1, none⟩ = some (.string s)) := fun S' W hW => ⟨hW.cell rfl, hW.cell rfl⟩
  have hd3 : JAt w0 w3.drew d S p s fin := H3.out.below (below_drew (Below.refl _ _))
  have HA := Lib.hid (p_append hd3 s hs hnm A3 nw c3 (Jr.wr fin r) (Lies.of_own hown3) hk hsp)
  clear hown3 hb3 HW c2
  go_wp2_with fail
  go_region_held3 (fun W => W.cell? ⟨p, 0, none⟩ = some (dp d) ∧ W.cell? ⟨p, 1, none⟩ = some (.string s)) (first | exact KB.out _ _ hd3 | exact KB.out _ _ h4)
    (first
      | (go_at_call 18; refine HA.out.mono ?_; rintro x w4 ⟨rfl, h4⟩)
      | fail)
  have H4 := Lib.hid h4
  have c4 : w4.cell? ⟨p, 2, none⟩ = some (.int .i64 (fin : Int)) := h4.cell rfl
  have f4 := h4.thaw 2
  have h5 := h4.set 2 (.int .i64 ((fin + nw : Nat) : Int))
  have H5 : Hid (JAt w0 (w4.setCell ⟨p, 2, none⟩ (.int .i64 ((fin + nw : Nat) : Int))) d (S.append f (Jr.wr fin r)) p s (fin + nw)) := h5
  have hnwb : nw ≤ 1048576 := by omega
  have hwrap : IntKind.i64.wrap ((fin : Int) + (nw : Int)) = ((fin + nw : Nat) : Int) := by rw [(IntWalk.i64_left _).trans (IntWalk.wrap64_in _ ⟨by omega, by omega⟩)]; omega
  clear h4 h5 hd3 KB HA
  go_wp2
  go_ret
  refine ⟨rfl, ?_⟩
  first
    | exact H5.out
    | (have := H5.out; rw [Int.natCast_add] at this; exact this)
end
end Go.Proofs.Ytopcnlophmplgaa

namespace Go.Proofs.Ytopcnlophmplgaa
open Go.RowKit Go.Maps Go.Sort
set_option linter.unusedVariables false
set_option maxRecDepth 100000

section
variable {w0 w : World} {d p fin : Nat} {S : St} {s : ByteArray} (h : JAt w0 w d S p s fin)
include h
/-- Sync is the disk's -/
theorem sync_as (e : Int) (R : World → Prop) (hR : ∀ W, R W → W.cell? ⟨p, 0, none⟩ = some (dp d) ∧ W.cell? ⟨p, 1, none⟩ = some (.string s))
    (hsy : ∀ W, JAt w0 W d S p s fin → Below w.heap.size w W → Calls Try.prog 65 #[dp d, .string s] W fun x w' => x = .returned (er e) ∧ R w') :
    Calls Try.prog 34 #[jp p] w fun x w' => x = .returned (er e) ∧ R w' := by
  have HE := Lib.hid (exists_any h)
  have KA : Hid (∀ W, Below w.heap.size w W → W.cell? ⟨p, 0, none⟩ = some (dp d) ∧ W.cell? ⟨p, 1, none⟩ = some (.string s)) := fun W hW => ⟨(h.below hW).cell rfl, (h.below hW).cell rfl⟩
  have hd0 : Below w.heap.size w w.drew := below_drew (Below.refl _ _)
  have HS := Lib.hid (hsy _ (h.below hd0) hd0)
  have HR := Lib.hid hR
  clear hsy hR
  go_enter Try.func34, Try.ntmps34
  go_wp2_with fail
  refine HE.out.mono ?_
  rintro x w1 ⟨rfl, hw⟩
  obtain rfl := hw.symm
  go_wp2_with fail
  go_region_held3 (fun W => W.cell? ⟨p, 0, none⟩ = some (dp d) ∧ W.cell? ⟨p, 1, none⟩ = some (.string s)) (first | exact KA.out _ hd0 | exact HR.out _ hr2)
    (first
      | (go_at_call 65; refine HS.out.mono ?_; rintro x w2 ⟨rfl, hr2⟩)
      | fail)
  have HB2 := Lib.hid hr2
  clear hr2 hd0
  go_wp2
  go_ret
  exact ⟨rfl, HB2.out⟩
end
end Go.Proofs.Ytopcnlophmplgaa

