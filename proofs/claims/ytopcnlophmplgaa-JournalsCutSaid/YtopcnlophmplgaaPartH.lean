/-
  Contracts of package journals: content, exists, Open, Sync, at a disk of the caller's own.
-/
import Derived.Test.YtopcnlophmplgaaPartE
import Derived.Test.YtopcnlophmplgaaAtP
import Derived.Deep.RegionHeld3
namespace Go.Proofs.Ytopcnlophmplgaa
open Go.RowKit Go.Maps Go.Sort
set_option linter.unusedVariables false
set_option maxRecDepth 100000

/-- a journal on a disk of the caller's own -/
abbrev jrow (d : Nat) (s : ByteArray) (fin : Nat) : Array Value := #[dp d, .string s, .int .i64 (fin : Int)]
abbrev JAt (w0 w : World) (d : Nat) (S : St) (p : Nat) (s : ByteArray) (fin : Nat) : Prop := AtP w0 w d S p (jrow d s fin) 80
abbrev jp (p : Nat) : Value := .pointer (some ⟨p, 0, none⟩)
section
variable {w0 w : World} {d : Nat} {S : St} (h : At w0 w d S)
include h
theorem at_size_none (s : ByteArray) (hs : s.size ≤ 140737488355328) (hn : okName s.data.toList = true) (hk : look S.pres s.data.toList = none) :
    Calls Try.prog 15 #[dp d, .string s] w fun x w' => x = .returned (.tuple #[.int .i64 0, er 7]) ∧ Below w.heap.size w w' := by
  obtain ⟨F, ⟨pm, dm, val, hD⟩, hF, hB⟩ := h
  exact size_fails _ s w hs 0 7 7 hD.gives (fun _ _ => by have := hD.leads hs; rw [hk] at this; exact this) (by rw [argOK1 hn]; rfl) (by decide)
theorem at_size_bad (s : ByteArray) (hs : s.size ≤ 140737488355328) (hn : okName s.data.toList = false) :
    Calls Try.prog 15 #[dp d, .string s] w fun x w' => x = .returned (.tuple #[.int .i64 0, er 1]) ∧ Below w.heap.size w w' := by
  obtain ⟨F, ⟨pm, dm, val, hD⟩, hF, hB⟩ := h
  have ha : argErr [okName s.data.toList] = 1 := argErr_no (by simp [hn])
  exact size_fails _ s w hs 0 0 1 hD.gives (fun _ h1 => by rw [ha] at h1; cases h1) (by rw [ha]; rfl) (by decide)
theorem at_sync_none (s : ByteArray) (hs : s.size ≤ 140737488355328) (hn : okName s.data.toList = true) (hk : look S.pres s.data.toList = none) :
    Calls Try.prog 65 #[dp d, .string s] w fun x w' => x = .returned (er 7) ∧ Below w.heap.size w w' := by
  obtain ⟨F, ⟨pm, dm, val, hD⟩, hF, hB⟩ := h
  exact sync_fails _ s w hs 0 7 7 hD.gives (fun _ _ => by have := hD.leads hs; rw [hk] at this; exact this) (by rw [argOK1 hn]; rfl) (by decide)
theorem at_readOwn (s : ByteArray) (hs : s.size ≤ 140737488355328) (hn : okName s.data.toList = true) {f : Nat} (hk : look S.pres s.data.toList = some f) :
    Calls Try.prog 16 #[dp d, .string s, .int .i64 0, .int .i64 (S.len f : Int)] w fun x w' => ∃ A c, x = .returned (.tuple #[.slice A (S.len f) c, er 0]) ∧ Lies w' w'.heap.size 1 A (S.len f) ((S.file f).bytes.map bv) ∧ S.len f ≤ c ∧ c ≤ 9223372036854775807 ∧ Below w.heap.size w w' := by
  obtain ⟨F, ⟨pm, dm, val, hD⟩, hF, hB⟩ := h
  have hA3 : argErr [okName s.data.toList, decide ((0 : Int) ≤ ((0 : Nat) : Int)), decide ((0 : Int) ≤ (S.len f : Int))] = 0 := argErr_ok (by simp [hn])
  refine (read_ok hD s hs 0 (S.len f) (by decide) hA3 hk (by omega)).mono fun x w' ⟨v, hx, ho, hb⟩ => ?_
  obtain ⟨A, c, rfl, h1, h2, _⟩ := own_shape ho
  have hl := Lies.of_own ho
  rw [List.drop_zero, List.take_of_length_le (by exact Nat.le_refl _)] at hl
  exact ⟨A, c, hx, hl, h1, h2, hb⟩

theorem content_ok (s : ByteArray) (hs : s.size ≤ 140737488355328) (hn : okName s.data.toList = true) {f : Nat} (hk : look S.pres s.data.toList = some f) :
    Calls Try.prog 49 #[dp d, .string s] w fun x w' => ∃ A c, x = .returned (.tuple #[.slice A (S.len f) c, er 0]) ∧ Lies w' w'.heap.size 1 A (S.len f) ((S.file f).bytes.map bv) ∧ S.len f ≤ c ∧ c ≤ 9223372036854775807 ∧ Below w.heap.size w w' := by
  have HH := Lib.hid h
  go_enter Try.func49, Try.ntmps49
  go_wp2_with fail
  refine (at_size HH.out s hs hn hk).mono ?_
  rintro x w1 ⟨rfl, hb1⟩
  have HB := Lib.hid hb1
  have HR := Lib.hid (at_readOwn (HH.out.below hb1) s hs hn hk)
  clear hb1
  go_wp2_with fail
  refine HR.out.mono ?_
  rintro x w2 ⟨A, c, rfl, hl, h1, h2, hb2⟩
  have HL := Lib.hid hl; have HB2 := Lib.hid (HB.out.trans (hb2.mono HB.out.size))
  clear hl hb2 HR HB
  go_wp2
  go_ret2
  exact ⟨A, c, rfl, HL.out, h1, h2, HB2.out⟩
theorem content_none (s : ByteArray) (hs : s.size ≤ 140737488355328) (hn : okName s.data.toList = true) (hk : look S.pres s.data.toList = none) :
    Calls Try.prog 49 #[dp d, .string s] w fun x w' => x = .returned (.tuple #[.slice none 0 0, er 7]) ∧ Below w.heap.size w w' := by
  have HH := Lib.hid h
  go_enter Try.func49, Try.ntmps49
  go_wp2_with fail
  refine (at_size_none HH.out s hs hn hk).mono ?_
  rintro x w1 ⟨rfl, hb1⟩
  have HB := Lib.hid hb1
  clear hb1
  go_wp2
  go_ret2
  exact ⟨rfl, HB.out⟩
theorem content_bad (s : ByteArray) (hs : s.size ≤ 140737488355328) (hn : okName s.data.toList = false) :
    Calls Try.prog 49 #[dp d, .string s] w fun x w' => x = .returned (.tuple #[.slice none 0 0, er 1]) ∧ Below w.heap.size w w' := by
  have HH := Lib.hid h
  go_enter Try.func49, Try.ntmps49
  go_wp2_with fail
  refine (at_size_bad HH.out s hs hn).mono ?_
  rintro x w1 ⟨rfl, hb1⟩
  have HB := Lib.hid hb1
  clear hb1
  go_wp2
  go_ret2
  exact ⟨rfl, HB.out⟩

theorem open_has (s : ByteArray) (hs : s.size ≤ 140737488355328) (hn : okName s.data.toList = true) {f : Nat} (hk : look S.pres s.data.toList = some f) (hlen : S.len f ≤ 2097152) :
    Calls Try.prog 19 #[dp d, .string s] w fun x w' => ∃ p vr rs fin, x = .returned (.tuple #[jp p, vr, er 0]) ∧ Jr.Reads (S.file f).bytes (rs.map Rcd.l) fin ∧ RecsAt w' w.heap.size vr (.slice none 0 0) rs [] ∧ JAt w0 w' d S p s fin ∧ Below w.heap.size w w' ∧ w.heap.size ≤ p := by
  have HH := Lib.hid h
  go_enter Try.func19, Try.ntmps19
  go_wp2_with fail
  refine (content_ok HH.out s hs hn hk).mono ?_
  rintro x w1 ⟨A, c, rfl, hl, h1, h2, hb1⟩
  have HB := Lib.hid hb1
  have HR := Lib.hid (read_any A (S.len f) c (S.file f).bytes w1 hl h1 h2 hlen)
  clear hb1 hl
  go_wp2_with fail
  refine HR.out.mono ?_
  rintro x w2 ⟨vr, rs, fin, rfl, hrd, hrec, hb2⟩
  obtain ⟨Ar, cr, rfl, _⟩ := own_shape hrec.row
  have hb12 := HB.out.trans (hb2.mono HB.out.size)
  have hJ := AtP.made (HH.out.below hb12) (jrow d s fin) 80
  have hb3 : Below w.heap.size w (w2.alloc (.cells (jrow d s fin) 80)) := hb12.alloc hb12.size _
  have hrec3 := (hrec.keep (S := fun _ => False) (Wrote.of_below ((Below.refl w2.heap.size w2).alloc (Nat.le_refl _) (.cells (jrow d s fin) 80))) (fun i hi => hi.elim)).done HB.out.size
  have HRd := Lib.hid hrd; have HJ := Lib.hid hJ; have HB3 := Lib.hid hb3; have HRec := Lib.hid hrec3; have HS := Lib.hid hb12.size
  clear hrd hrec hb2 hb12 hJ hb3 hrec3 HB HR
  go_wp2
  obtain ⟨W5, hW5⟩ : ∃ W5, w2.alloc (.cells (jrow d s fin) 80) = W5 := ⟨_, rfl⟩
  change bodyPost _ _ _ _ _ (w2.alloc (.cells (jrow d s fin) 80))
  rw [hW5] at HJ HB3 HRec ⊢
  refine bodyPost_ret (results_tmp3 rfl _ _ _) rfl ⟨w2.heap.size, _, rs, fin, rfl, HRd.out, HRec.out, HJ.out, HB3.out, HS.out⟩
theorem open_bad (s : ByteArray) (hs : s.size ≤ 140737488355328) (hn : okName s.data.toList = false) :
    Calls Try.prog 19 #[dp d, .string s] w fun x w' => x = .returned (.tuple #[.pointer none, .slice none 0 0, er 1]) ∧ Below w.heap.size w w' := by
  have HH := Lib.hid h
  go_enter Try.func19, Try.ntmps19
  go_wp2_with fail
  refine (content_bad HH.out s hs hn).mono ?_
  rintro x w1 ⟨rfl, hb1⟩
  have HB := Lib.hid hb1
  clear hb1
  go_wp2
  exact bodyPost_ret (results_tmp3 rfl _ _ _) rfl ⟨rfl, HB.out⟩
end
end Go.Proofs.Ytopcnlophmplgaa
