/-
  Contracts of the laws' helpers over strings: SameTexts; All of package bucketlinelaw05.
  Rename of package files, where every check passes.
  The methods of package files, at a disk that a law made: 'At w0 w d S': since w0, a disk S was made; its struct lies in block d; nothing that was there was written.
  The methods that write to a disk of package files, whatever comes of them: some disk is there afterwards; and with another disk beside it.
-/
import Derived.Test.YtbpdonnneleeeaaGreatDoorFailZ
import Derived.Test.YtbpdonnneleeeaaGreatDoorMemZ
namespace Go.Proofs.YtbpdonnneleeeaaGreatDoor
open Go.RowKit Go.Maps Go.Sort
set_option maxRecDepth 100000
set_option linter.unusedVariables false

abbrev sv (x : List UInt8) : Value := encStr x
theorem Lies.text {w : World} {B n k : Nat} {A : Option Addr} {l : List (List UInt8)} (h : Lies w B 1 A n (l.map sv)) (hk : k < n) :
    ∃ b o x, A = some ⟨b, o, none⟩ ∧ b < B ∧ l[k]? = some x ∧ w.cell? ⟨b, o + k, none⟩ = some (.string ⟨x.toArray⟩) := by
  obtain ⟨b, o, u, e, hb, hu, hc⟩ := h.at_ hk
  rw [List.getElem?_map] at hu
  cases hx : l[k]? with
  | none => rw [hx] at hu; cases hu
  | some x =>
    rw [hx] at hu
    injection hu with hu
    subst hu
    exact ⟨b, o, x, e, hb, rfl, hc⟩
theorem Lies.tlen {w : World} {B n : Nat} {A : Option Addr} {l : List (List UInt8)} (h : Lies w B 1 A n (l.map sv)) : l.length = n := by have := h.len; simp at this; exact this
/-- are two lists of bytes the same? -/
def sameT (a b : List (List UInt8)) : Bool := decide (a = b)
theorem sameT_self (a : List (List UInt8)) : sameT a a = true := by simp [sameT]

set_option maxHeartbeats 2000000 in
theorem texts_any (A A2 : Option Addr) (n m c c2 B : Nat) (l l2 : List (List UInt8)) (w : World) (h1 : Lies w B 1 A n (l.map sv)) (h2 : Lies w B 1 A2 m (l2.map sv)) (hn : n ≤ 4611686018427387904) :
    Calls Tryz.prog 61 #[.slice A n c, .slice A2 m c2] w fun e w' => e = .returned (.bool (sameT l l2)) ∧ ∃ q, w' = w.drewN q := by
  have H1 := Lib.hid h1; clear h1
  have H2 := Lib.hid h2; clear h2
  by_cases hnm : n = m
  · subst hnm
    have hne : ((n : Int) != (n : Int)) = false := by simp
    go_enter Tryz.func61, Tryz.ntmps61
    go_wp2
    go_loopw [5] (fun i wr => ∃ k q : Nat, k ≤ n ∧ i = .int .i64 (k : Int) ∧ l.take k = l2.take k ∧ wr = w.drewN q) (fun i _ => n - (intOf i).toNat)
    case atStart => exact ⟨0, 0, Nat.zero_le _, rfl, by simp, rfl⟩
    case round =>
      obtain ⟨k, q, hk, rfl, heq, rfl⟩ := hrel
      have HE := Lib.hid heq; clear heq
      by_cases hlt : k < n
      · obtain ⟨b, o, x, rfl, _, hx, hc1⟩ := H1.out.text hlt
        obtain ⟨b2, o2, y, rfl, _, hy, hc2⟩ := H2.out.text hlt
        have g1 : (w.drewN q).cell? ⟨b, o + k, none⟩ = some (.string ⟨x.toArray⟩) := hc1
        have g2 : (w.drewN q).cell? ⟨b2, o2 + k, none⟩ = some (.string ⟨y.toArray⟩) := hc2
        have HX := Lib.hid hx; have HY := Lib.hid hy
        clear hx hy
        have hi : (k : Int) < (n : Int) := by omega
        have hi0 : (0 : Int) ≤ (k : Int) := by omega
        by_cases hxy : x = y
        · have hbq : ((⟨x.toArray⟩ : ByteArray).toList == (⟨y.toArray⟩ : ByteArray).toList) = true := by rw [hxy]; exact beq_self_eq_true _
          have HT := Lib.hid (show l.take (k + 1) = l2.take (k + 1) from by rw [List.take_add_one, List.take_add_one, HE.out, HX.out, HY.out, hxy])
          generalize (⟨x.toArray⟩ : ByteArray) = xn at *
          generalize (⟨y.toArray⟩ : ByteArray) = yn at *
          clear hxy HX HY
          go_wp2
          go_quiet (fail)
          go_wp2
          go_roundw
          case rel => exact ⟨k + 1, _, hlt, by go_num, HT.out, by first | rfl | (rw [World.drewN_drewN])⟩
          case measure => simp [intOf]; omega
        · have hbq : ((⟨x.toArray⟩ : ByteArray).toList == (⟨y.toArray⟩ : ByteArray).toList) = false := by
            rw [Lib.toList_data, Lib.toList_data]
            exact beq_eq_false_iff_ne.2 (fun h => hxy (by simpa using h))
          have HT := Lib.hid (show sameT l l2 = false from by
            unfold sameT
            have : l ≠ l2 := by
              rintro rfl
              rw [HX.out] at HY
              have := HY.out
              injection this with this
              exact hxy this
            simp [this])
          generalize (⟨x.toArray⟩ : ByteArray) = xn at *
          generalize (⟨y.toArray⟩ : ByteArray) = yn at *
          clear hxy HX HY
          go_wp2
          go_quiet (fail)
          go_wp2
          go_ret
          exact ⟨by rw [HT.out]; rfl, _, by first | rfl | (rw [World.drewN_drewN])⟩
      · have HT := Lib.hid (show sameT l l2 = true from by
          have e := HE.out
          rw [List.take_of_length_le (by have := H1.out.tlen; omega), List.take_of_length_le (by have := H2.out.tlen; omega)] at e
          rw [e]; exact sameT_self _)
        go_wp2
        go_ret
        exact ⟨by rw [HT.out]; rfl, _, rfl⟩
  · have hne : ((n : Int) != (m : Int)) = true := by simp; omega
    have HT := Lib.hid (show sameT l l2 = false from by
      unfold sameT
      have : l ≠ l2 := by
        rintro rfl
        have := H1.out.tlen
        have := H2.out.tlen
        omega
      simp [this])
    go_enter Tryz.func61, Tryz.ntmps61
    go_wp2
    go_ret
    exact ⟨by rw [HT.out]; rfl, 0, rfl⟩


theorem str_eq {s : ByteArray} : (⟨s.data.toList.toArray⟩ : ByteArray) = s := by simp
end Go.Proofs.YtbpdonnneleeeaaGreatDoor

namespace Go.Proofs.YtbpdonnneleeeaaGreatDoor
open Go.RowKit Go.Maps Go.Sort
set_option maxRecDepth 100000
set_option linter.unusedVariables false

theorem txt_same {a b : ByteArray} (h : a.data.toList = b.data.toList) : a = b := by
  cases a; cases b; simp_all [Array.toList_inj]

set_option maxHeartbeats 4000000 in
theorem rename_same {w : World} {F : Nat → Prop} {d pm dm : Nat} {S : St} {val : Nat → Value} (h : DiskAt w F d pm dm S val) (s t : ByteArray) (hs_s : s.size ≤ 140737488355328) (hs_t : t.size ≤ 140737488355328) (hn : argErr [okName s.data.toList, okName t.data.toList] = 0) {f : Nat} (hk : look S.pres s.data.toList = some f) (he : s = t) :
    Calls Tryz.prog 13 #[.pointer (some ⟨d, 0, none⟩), .string s, .string t] w fun x w' => x = .returned (er 0) ∧ Below w.heap.size w w' := by
  have hmf := hmk
  have G2 := h.leads hs_s
  have hf : firstErr [0, argErr [okName s.data.toList, okName t.data.toList], noneErr (look S.pres s.data.toList)] = 0 := errs3 rfl hn (by rw [hk]; rfl)
  have hD := h
  have hq : (s.toList == t.toList) = true := by rw [Lib.toList_data, Lib.toList_data]; rw [he]; exact beq_self_eq_true _
  have HhD := Lib.hid hD; have HG2 := Lib.hid G2; have Hhf := Lib.hid hf; have Hhs_s := Lib.hid hs_s; have Hhs_t := Lib.hid hs_t; have Hhk := Lib.hid hk; have Hhe := Lib.hid he; have Hhq := Lib.hid hq
  clear hD G2 hf hs_s hs_t hk he hq
  clear h hn
  go_enter Tryz.func13, Tryz.ntmps13
  go_wp2_with fail
  refine (isName_any s _ Hhs_s.out).mono ?_
  rintro x w2 ⟨rfl, hw2⟩
  obtain rfl := hw2.symm
  go_wp2_with fail
  refine (isName_any t _ Hhs_t.out).mono ?_
  rintro x w2 ⟨rfl, hw2⟩
  obtain rfl := hw2.symm
  go_wp2_with fail
  refine (args_lits (w := w) rfl 2 _ _ [okName s.data.toList, okName t.data.toList] rfl (by decide)).mono ?_
  rintro x w3 ⟨q1, rfl, hb3, g1⟩
  have HB3 := Lib.hid hb3; have HG1 := Lib.hid g1
  clear hb3 g1
  go_wp2_with (go_at_call 52; refine (leads_makes _ _ _).mono ?_; rintro x w4 ⟨a0, b0, rfl, ka0, kb0, hb4⟩)
  have HC4 := Lib.hid (HB3.out.trans (hb4.mono HB3.out.size))
  have HG1 := Lib.hid (HG1.out.below hb4)
  have Ka0 := Lib.hid ka0; have Kb0 := Lib.hid kb0
  clear hb4 ka0 kb0
  go_wp2_with fail
  refine (first3 rfl _ _ (HhD.out.gives.below HC4.out) (fun _ => HG1.out) (fun _ _ => HG2.out w4 a0 b0 HC4.out Ka0.out Kb0.out)).mono ?_
  rintro x w9 ⟨rfl, hb9⟩
  rw [Hhf.out]
  have HB9 := Lib.hid (HC4.out.trans (hb9.mono HC4.out.size))
  clear hb9
  have hq := Hhq.out
  go_wp2
  go_ret
  exact ⟨rfl, HB9.out⟩

set_option maxHeartbeats 4000000 in
theorem rename_ok {w : World} {F : Nat → Prop} {d pm dm : Nat} {S : St} {val : Nat → Value} (h : DiskAt w F d pm dm S val) (s t : ByteArray) (hs_s : s.size ≤ 140737488355328) (hs_t : t.size ≤ 140737488355328) (hn : argErr [okName s.data.toList, okName t.data.toList] = 0) {f : Nat} (hk : look S.pres s.data.toList = some f) (he : s ≠ t) :
    Calls Tryz.prog 13 #[.pointer (some ⟨d, 0, none⟩), .string s, .string t] w fun x w' => x = .returned (er 0) ∧ Left5 F d w w' (S.rename s.data.toList t.data.toList f) := by
  have hmf := hmk
  have G2 := h.leads hs_s
  have hf : firstErr [0, argErr [okName s.data.toList, okName t.data.toList], noneErr (look S.pres s.data.toList)] = 0 := errs3 rfl hn (by rw [hk]; rfl)
  have hD := h
  have hq : (s.toList == t.toList) = false := by rw [Lib.toList_data, Lib.toList_data]; exact beq_eq_false_iff_ne.2 (fun h => he (txt_same h))
  have HhD := Lib.hid hD; have HG2 := Lib.hid G2; have Hhf := Lib.hid hf; have Hhs_s := Lib.hid hs_s; have Hhs_t := Lib.hid hs_t; have Hhk := Lib.hid hk; have Hhe := Lib.hid he; have Hhq := Lib.hid hq
  clear hD G2 hf hs_s hs_t hk he hq
  clear h hn
  go_enter Tryz.func13, Tryz.ntmps13
  go_wp2_with fail
  refine (isName_any s _ Hhs_s.out).mono ?_
  rintro x w2 ⟨rfl, hw2⟩
  obtain rfl := hw2.symm
  go_wp2_with fail
  refine (isName_any t _ Hhs_t.out).mono ?_
  rintro x w2 ⟨rfl, hw2⟩
  obtain rfl := hw2.symm
  go_wp2_with fail
  refine (args_lits (w := w) rfl 2 _ _ [okName s.data.toList, okName t.data.toList] rfl (by decide)).mono ?_
  rintro x w3 ⟨q1, rfl, hb3, g1⟩
  have HB3 := Lib.hid hb3; have HG1 := Lib.hid g1
  clear hb3 g1
  go_wp2_with (go_at_call 52; refine (leads_makes _ _ _).mono ?_; rintro x w4 ⟨a0, b0, rfl, ka0, kb0, hb4⟩)
  have HC4 := Lib.hid (HB3.out.trans (hb4.mono HB3.out.size))
  have HG1 := Lib.hid (HG1.out.below hb4)
  have Ka0 := Lib.hid ka0; have Kb0 := Lib.hid kb0
  clear hb4 ka0 kb0
  go_wp2_with fail
  refine (first3 rfl _ _ (HhD.out.gives.below HC4.out) (fun _ => HG1.out) (fun _ _ => HG2.out w4 a0 b0 HC4.out Ka0.out Kb0.out)).mono ?_
  rintro x w9 ⟨rfl, hb9⟩
  rw [Hhf.out]
  have HB9 := Lib.hid (HC4.out.trans (hb9.mono HC4.out.size))
  clear hb9
  have hq := Hhq.out
  have D9 := HhD.out.below HB9.out
  have c1 := D9.c1
  have hlk : (Instr.lookup 83 (.map (some pm)) (.string s) false).run Tryz.prog w9.drew = .ok (.pointer (some ⟨f, 0, none⟩)) w9.drew := by
    have := OwnD.lookup1 (w := w9.drew) D9.pres.drew Hhs_s.out
    rw [Hhk.out] at this
    exact this
  obtain ⟨w10, hmu, hown10, hg10⟩ := World.ownsMap.update (t := 83) (w := w9.drew) D9.pres.drew keyLaw Tryz.underlying83 (by decide) (keyOf_s Hhs_t.out) (pE_some f)
  have hne : d ≠ pm := box_ne D9 (F' := F) (w' := w9) (fun _ h => h) D9.lt D9.pres
  have c10 : w10.cell? ⟨d, 1, none⟩ = some (.map (some pm)) := by
    have hb := hg10.block d (D9.lt d D9.fd) (fun e => hne (by injection e))
    rw [cell_of_row w10 d 1 _ _ (0, 0) (hb.trans D9.box)]; rfl
  have HG := Lib.hid hg10; have HO := Lib.hid hown10
  clear D9 hown10 hg10 hne
  go_wp2
  go_region
  go_wp2_with (at_delete; refine wpList_delete_own _ rfl _ _ 83 9 rfl 94 keyLaw Tryz.underlying83 pE pm 65 (S.pres.put (.string t.data.toList) (.lit (.int .u64 (f : Int)))) rfl HO.out _ (.string s.data.toList) rfl (keyOf_s Hhs_s.out) ?_; intro w11 hown11 hg11)
  go_ret
  have hgg := hg11.grown
  refine ⟨rfl, rename_done HhD.out HB9.out (w4 := w11) (Nat.le_trans HG.out.size hgg.size) (hgg.os.trans HG.out.os) (hgg.tape.trans HG.out.tape) (hgg.output.trans HG.out.output) (fun i hi hne => ?_) hown11 Hhk.out (fun e => Hhe.out (txt_same e))⟩
  exact (hgg.block i (Nat.lt_of_lt_of_le hi HG.out.size) (fun e => hne (by injection e))).trans (HG.out.block i hi (fun e => hne (by injection e)))

end Go.Proofs.YtbpdonnneleeeaaGreatDoor

namespace Go.Proofs.YtbpdonnneleeeaaGreatDoor
open Go.RowKit Go.Maps Go.Sort
set_option maxRecDepth 100000
set_option linter.unusedVariables false

def At (w0 w : World) (d : Nat) (S : St) : Prop := ∃ F, Disk w F d S ∧ (∀ i, F i → w0.heap.size ≤ i) ∧ Below w0.heap.size w0 w
abbrev dp (d : Nat) : Value := .pointer (some ⟨d, 0, none⟩)
theorem At.low {w0 w : World} {d : Nat} {S : St} (h : At w0 w d S) : Below w0.heap.size w0 w := h.choose_spec.2.2
theorem At.below {w0 w w' : World} {d : Nat} {S : St} (h : At w0 w d S) (hb : Below w.heap.size w w') : At w0 w' d S := by
  obtain ⟨F, hD, hF, hB⟩ := h
  exact ⟨F, hD.below hb, hF, hB.trans (hb.mono hB.size)⟩
theorem At.step {w0 w w' : World} {d : Nat} {S' : St} {F : Nat → Prop} (hF : ∀ i, F i → w0.heap.size ≤ i) (hB : Below w0.heap.size w0 w) (h : Left5 F d w w' S') : At w0 w' d S' :=
  ⟨_, h.2, fun i hi => by rcases hi with hi | hi; exact hF i hi; exact Nat.le_trans hB.size hi.1, hB.trans (h.1.below hB.size hF)⟩
theorem at_new {w0 w : World} (hB : Below w0.heap.size w0 w) (n : Nat) (h1 : 1 ≤ n) (h2 : n ≤ 8388608) :
    Calls Tryz.prog 6 #[.int .i64 (n : Int)] w fun x w' => ∃ d, x = .returned (.tuple #[dp d, er 0]) ∧ At w0 w' d (St.new n) :=
  (new_ok n w h1 h2).mono fun x w' ⟨d, hx, hb, hD⟩ => ⟨d, hx, _, hD, fun i hi => Nat.le_trans hB.size hi.1, hB.trans (hb.mono hB.size)⟩
theorem argOK1 {s : ByteArray} (h : okName s.data.toList = true) : argErr [okName s.data.toList] = 0 := argErr_ok (by simp [h])

section
variable {w0 w : World} {d : Nat} {S : St} (h : At w0 w d S)
include h
theorem at_create (s : ByteArray) (hs : s.size ≤ 140737488355328) (hn : okName s.data.toList = true) (hk : look S.pres s.data.toList = none) (hz : Maps.size S.pres < 64) :
    Calls Tryz.prog 9 #[dp d, .string s] w fun x w' => x = .returned (er 0) ∧ ∃ b, w.heap.size ≤ b ∧ At w0 w' d (S.create s.data.toList b) := by
  obtain ⟨F, ⟨pm, dm, val, hD⟩, hF, hB⟩ := h
  exact (create_ok hD s hs (argOK1 hn) hk hz).mono fun x w' ⟨hx, b, hb, hl⟩ => ⟨hx, b, hb, At.step hF hB hl⟩
theorem at_remove (s : ByteArray) (hs : s.size ≤ 140737488355328) (hn : okName s.data.toList = true) {f : Nat} (hk : look S.pres s.data.toList = some f) :
    Calls Tryz.prog 11 #[dp d, .string s] w fun x w' => x = .returned (er 0) ∧ At w0 w' d (S.remove s.data.toList) := by
  obtain ⟨F, ⟨pm, dm, val, hD⟩, hF, hB⟩ := h
  exact (remove_ok hD s hs (argOK1 hn) hk).mono fun x w' ⟨hx, hl⟩ => ⟨hx, At.step hF hB hl⟩
theorem at_rename (s t : ByteArray) (hs : s.size ≤ 140737488355328) (ht : t.size ≤ 140737488355328) (hn : okName s.data.toList = true) (hn2 : okName t.data.toList = true) {f : Nat} (hk : look S.pres s.data.toList = some f) (he : s ≠ t) :
    Calls Tryz.prog 13 #[dp d, .string s, .string t] w fun x w' => x = .returned (er 0) ∧ At w0 w' d (S.rename s.data.toList t.data.toList f) := by
  obtain ⟨F, ⟨pm, dm, val, hD⟩, hF, hB⟩ := h
  exact (rename_ok hD s t hs ht (argErr_ok (by simp [hn, hn2])) hk he).mono fun x w' ⟨hx, hl⟩ => ⟨hx, At.step hF hB hl⟩
theorem at_sync (s : ByteArray) (hs : s.size ≤ 140737488355328) (hn : okName s.data.toList = true) {f : Nat} (hk : look S.pres s.data.toList = some f) :
    Calls Tryz.prog 21 #[dp d, .string s] w fun x w' => x = .returned (er 0) ∧ At w0 w' d (S.sync f) := by
  obtain ⟨F, ⟨pm, dm, val, hD⟩, hF, hB⟩ := h
  exact (sync_ok hD s hs (argOK1 hn) hk).mono fun x w' ⟨hx, hl⟩ => ⟨hx, At.step hF hB hl⟩
theorem at_append (s : ByteArray) (hs : s.size ≤ 140737488355328) (hn : okName s.data.toList = true) (A : Option Addr) (n c : Nat) (l : List UInt8) (hl : Lies w w.heap.size 1 A n (l.map bv)) {f : Nat} (hk : look S.pres s.data.toList = some f) (hsp : n ≤ S.left ∧ n + S.len f ≤ 1048576) :
    Calls Tryz.prog 15 #[dp d, .string s, .slice A n c] w fun x w' => x = .returned (er 0) ∧ At w0 w' d (S.append f l) := by
  obtain ⟨F, ⟨pm, dm, val, hD⟩, hF, hB⟩ := h
  exact (append_ok hD s hs A n c l hl (by omega) (argOK1 hn) hk hsp).mono fun x w' ⟨hx, hl⟩ => ⟨hx, At.step hF hB hl⟩
theorem at_names : Calls Tryz.prog 23 #[dp d] w fun x w' => x = .returned (er 0) ∧ At w0 w' d S.names := by
  obtain ⟨F, ⟨pm, dm, val, hD⟩, hF, hB⟩ := h
  exact (names_ok hD).mono fun x w' ⟨hx, hl⟩ => ⟨hx, At.step hF hB hl⟩
theorem at_left : Calls Tryz.prog 30 #[dp d] w fun x w' => x = .returned (.int .i64 (S.left : Int)) ∧ Below w.heap.size w w' := by
  obtain ⟨F, ⟨pm, dm, val, hD⟩, hF, hB⟩ := h
  exact left_ok hD
theorem at_list : Calls Tryz.prog 60 #[dp d] w fun x w' => ∃ A c, x = .returned (.slice A S.list.length c) ∧ Lies w' w'.heap.size 1 A S.list.length (S.list.map sv) ∧ Below w.heap.size w w' := by
  obtain ⟨F, ⟨pm, dm, val, hD⟩, hF, hB⟩ := h
  refine (list_ok hD).mono fun x w' ⟨v, hx, ho, hb⟩ => ?_
  obtain ⟨A, c, rfl, _⟩ := own_shape ho
  exact ⟨A, c, hx, Lies.of_own ho, hb⟩
theorem at_fail (keep : Nat) (hk : keep ≤ 9223372036854775807) (names : Bool) :
    Calls Tryz.prog 25 #[dp d, .int .i64 (keep : Int), .bool names] w fun x w' => ∃ d' S', x = .returned (.tuple #[dp d', er 0]) ∧ Below w.heap.size w w' ∧ At w0 w' d' S' ∧ FailSpec S (if names then S.pres else S.dur) keep S' := by
  obtain ⟨F, ⟨pm, dm, val, hD⟩, hF, hB⟩ := h
  cases names
  · exact (fail_ok_false hD keep hk).mono fun x w' ⟨d', S', hx, hb, hd, hs⟩ => ⟨d', S', hx, hb, ⟨_, hd, fun i hi => Nat.le_trans hB.size hi.1, hB.trans (hb.mono hB.size)⟩, hs⟩
  · exact (fail_ok_true hD keep hk).mono fun x w' ⟨d', S', hx, hb, hd, hs⟩ => ⟨d', S', hx, hb, ⟨_, hd, fun i hi => Nat.le_trans hB.size hi.1, hB.trans (hb.mono hB.size)⟩, hs⟩
/-- calls that are refused -/
theorem at_create_no (s : ByteArray) (hs : s.size ≤ 140737488355328) (e : Int) (he : firstErr [0, argErr [okName s.data.toList], thereErr (look S.pres s.data.toList), fullErr S.pres] = e) (hne : e ≠ 0) :
    Calls Tryz.prog 9 #[dp d, .string s] w fun x w' => x = .returned (er e) ∧ Below w.heap.size w w' := by
  obtain ⟨F, ⟨pm, dm, val, hD⟩, hF, hB⟩ := h
  exact create_fails _ s w hs 0 _ _ e hD.gives (fun _ _ => hD.free hs) (fun _ _ _ => hD.freeName) he hne
theorem at_append_full (s : ByteArray) (hs : s.size ≤ 140737488355328) (hn : okName s.data.toList = true) (A : Option Addr) (n c : Nat) (hn47 : n ≤ 140737488355328) {f : Nat} (hk : look S.pres s.data.toList = some f) (hsp : ¬ (n ≤ S.left ∧ n + S.len f ≤ 1048576)) :
    Calls Tryz.prog 15 #[dp d, .string s, .slice A n c] w fun x w' => x = .returned (er 6) ∧ Below w.heap.size w w' := by
  obtain ⟨F, ⟨pm, dm, val, hD⟩, hF, hB⟩ := h
  exact append_fails _ s A n c w hs 0 0 6 6 hD.gives (fun _ _ => by have := hD.leads hs; rw [hk] at this; exact this) (fun _ _ _ => by have := hD.space hs hk n hn47; rw [spaceErr_no hsp] at this; exact this) (by rw [argOK1 hn]; rfl) (by decide)
theorem at_read_short (s : ByteArray) (hs : s.size ≤ 140737488355328) (hn : okName s.data.toList = true) (a n : Nat) (ha : a ≤ 9223372036854775807) {f : Nat} (hk : look S.pres s.data.toList = some f) (hsp : S.len f < a + n) :
    Calls Tryz.prog 17 #[dp d, .string s, .int .i64 (a : Int), .int .i64 (n : Int)] w fun x w' => x = .returned (.tuple #[.slice none 0 0, er 5]) ∧ Below w.heap.size w w' := by
  obtain ⟨F, ⟨pm, dm, val, hD⟩, hF, hB⟩ := h
  have hA3 : argErr [okName s.data.toList, decide ((0 : Int) ≤ (a : Int)), decide ((0 : Int) ≤ (n : Int))] = 0 := argErr_ok (by simp [hn])
  exact read_fails _ s a n w hs 0 0 5 5 hD.gives (fun _ _ => by have := hD.leads hs; rw [hk] at this; exact this) (fun _ _ _ => by have := hD.reach hs hk (a : Int) (n : Int) (by omega) (by omega); rw [shortErr_no (by omega)] at this; exact this) (by rw [hA3]; rfl) (by decide)
theorem at_read_none (s : ByteArray) (hs : s.size ≤ 140737488355328) (hn : okName s.data.toList = true) (a n : Nat) (hk : look S.pres s.data.toList = none) :
    Calls Tryz.prog 17 #[dp d, .string s, .int .i64 (a : Int), .int .i64 (n : Int)] w fun x w' => x = .returned (.tuple #[.slice none 0 0, er 7]) ∧ Below w.heap.size w w' := by
  obtain ⟨F, ⟨pm, dm, val, hD⟩, hF, hB⟩ := h
  have hA3 : argErr [okName s.data.toList, decide ((0 : Int) ≤ (a : Int)), decide ((0 : Int) ≤ (n : Int))] = 0 := argErr_ok (by simp [hn])
  exact read_fails _ s a n w hs 0 7 0 7 hD.gives (fun _ _ => by have := hD.leads hs; rw [hk] at this; exact this) (fun _ _ h7 => by cases h7) (by rw [hA3]; rfl) (by decide)
theorem at_read (s : ByteArray) (hs : s.size ≤ 140737488355328) (hn : okName s.data.toList = true) (a n : Nat) (ha : a ≤ 9223372036854775807) {f : Nat} (hk : look S.pres s.data.toList = some f) (hr : a + n ≤ S.len f) :
    Calls Tryz.prog 17 #[dp d, .string s, .int .i64 (a : Int), .int .i64 (n : Int)] w fun x w' => ∃ A c, x = .returned (.tuple #[.slice A n c, er 0]) ∧ Lies w' w'.heap.size 1 A n ((((S.file f).bytes.drop a).take n).map bv) ∧ Below w.heap.size w w' := by
  obtain ⟨F, ⟨pm, dm, val, hD⟩, hF, hB⟩ := h
  have hA3 : argErr [okName s.data.toList, decide ((0 : Int) ≤ (a : Int)), decide ((0 : Int) ≤ (n : Int))] = 0 := argErr_ok (by simp [hn])
  refine (read_ok hD s hs a n ha hA3 hk hr).mono fun x w' ⟨v, hx, ho, hb⟩ => ?_
  obtain ⟨A, c, rfl, _⟩ := own_shape ho
  exact ⟨A, c, hx, Lies.of_own ho, hb⟩
theorem at_rename_none (s t : ByteArray) (hs : s.size ≤ 140737488355328) (ht : t.size ≤ 140737488355328) (hn : okName s.data.toList = true) (hn2 : okName t.data.toList = true) (hk : look S.pres s.data.toList = none) :
    Calls Tryz.prog 13 #[dp d, .string s, .string t] w fun x w' => x = .returned (er 7) ∧ Below w.heap.size w w' := by
  obtain ⟨F, ⟨pm, dm, val, hD⟩, hF, hB⟩ := h
  exact rename_fails _ s t w hs ht 0 7 7 hD.gives (fun _ _ => by have := hD.leads hs; rw [hk] at this; exact this) (by rw [show argErr [okName s.data.toList, okName t.data.toList] = 0 from argErr_ok (by simp [hn, hn2])]; rfl) (by decide)
theorem At.hi : S.size ≤ 8388608 := by obtain ⟨F, ⟨pm, dm, val, hD⟩, _⟩ := h; exact hD.hi
theorem At.presOK : DirOK S.pres := by obtain ⟨F, ⟨pm, dm, val, hD⟩, _⟩ := h; exact hD.presOK
theorem At.tidy : Tidy S.pres := by obtain ⟨F, ⟨pm, dm, val, hD⟩, _⟩ := h; exact hD.tidy
end

/-! which names there are, by which of them lead to files -/
theorem key_look {D : Dir} (hD : DirOK D) (hT : Tidy D) (k : List UInt8) : k ∈ strKeys D ↔ (look D k).isSome = true := by
  obtain ⟨es, rfl, hp⟩ := hT
  constructor
  · intro hk
    obtain ⟨e, he, rfl⟩ := List.mem_map.1 hk
    obtain ⟨k', b, h1, h2⟩ := hD e he
    have hf : (es.find? fun p => p.1.sameKey (.string k')) = some e := by
      refine List.find?_eq_some_iff_getElem.2 ⟨by rw [h1]; exact WideAt.sameKey_self (isKey k'), ?_⟩
      obtain ⟨i, hi, hie⟩ := List.getElem_of_mem he
      refine ⟨i, hi, hie, fun j hj => ?_⟩
      have := List.pairwise_iff_getElem.1 hp j i (by omega) hi hj
      rw [hie, h1] at this
      rw [sameKey_ne this]; rfl
    have hs : strOf e.1 = k' := by rw [h1]; rfl
    rw [hs]
    show (blk _).isSome = true
    simp only [DataW.atKey, hf, h2]
    rfl
  · intro hl
    cases hf : es.find? fun p => p.1.sameKey (.string k) with
    | none =>
      have : look (.map es) k = none := by unfold look; simp only [DataW.atKey, hf]; rfl
      rw [this] at hl; cases hl
    | some e =>
      have h1 := WideAt.sameKey_eq (List.find?_some (p := fun p : Lit × DataW Unit => p.1.sameKey (.string k)) hf)
      exact List.mem_map.2 ⟨e, List.mem_of_find?_eq_some hf, by rw [h1]; rfl⟩
theorem keys_nodup {D : Dir} (hD : DirOK D) (hT : Tidy D) : (strKeys D).Nodup := by
  obtain ⟨es, rfl, hp⟩ := hT
  show (es.map fun p => strOf p.1).Nodup
  rw [List.Nodup, List.pairwise_map]
  refine List.Pairwise.imp_of_mem (fun {a b} ha hb hne => ?_) hp
  obtain ⟨k1, b1, h1, _⟩ := hD a ha
  obtain ⟨k2, b2, h2, _⟩ := hD b hb
  intro e
  rw [h1, h2] at e hne
  exact hne (by have e : k1 = k2 := e; rw [e])
/-- the names are the ones of a list without repeats, sorted -/
theorem list_is {S : St} (hD : DirOK S.pres) (hT : Tidy S.pres) (l : List (List UInt8)) (hn : l.Nodup) (h : ∀ k, k ∈ l ↔ (look S.pres k).isSome = true) : S.list = l.mergeSort fun x y => decide (x ≤ y) :=
  sorts_same ((List.perm_ext_iff_of_nodup (keys_nodup hD hT) hn).2 fun k => by rw [key_look hD hT, h])
end Go.Proofs.YtbpdonnneleeeaaGreatDoor

namespace Go.Proofs.YtbpdonnneleeeaaGreatDoor
open Go.RowKit Go.Maps Go.Sort
set_option maxRecDepth 100000
set_option linter.unusedVariables false

theorem all_zero3 {a b c : Int} (h : firstErr [a, b, c] = 0) : a = 0 ∧ b = 0 ∧ c = 0 := by
  unfold firstErr at h; split at h
  · unfold firstErr at h; split at h
    · unfold firstErr at h; split at h
      · exact ⟨by assumption, by assumption, by assumption⟩
      · exact absurd h (by assumption)
    · exact absurd h (by assumption)
  · exact absurd h (by assumption)
theorem all_zero4 {a b c d : Int} (h : firstErr [a, b, c, d] = 0) : a = 0 ∧ b = 0 ∧ c = 0 ∧ d = 0 := by
  have h1 : a = 0 := by
    unfold firstErr at h; split at h
    · assumption
    · exact absurd h (by assumption)
  subst h1
  exact ⟨rfl, all_zero3 h⟩
theorem there_no {o : Option Nat} (h : thereErr o = 0) : o = none := by
  cases o with
  | none => rfl
  | some f => exact absurd (show (8 : Int) = 0 from h) (by decide)
theorem none_some {o : Option Nat} (h : noneErr o = 0) : ∃ f, o = some f := by
  cases o with
  | none => exact absurd h (by decide)
  | some f => exact ⟨f, rfl⟩
theorem full_lt {D : Dir} (h : fullErr D = 0) : Maps.size D < 64 := by
  unfold fullErr at h; split at h
  · assumption
  · cases h
theorem space_ok {S : St} {l n : Nat} (h : spaceErr S l n = 0) : n ≤ S.left ∧ n + l ≤ 1048576 := by
  unfold spaceErr at h; split at h
  · assumption
  · cases h

section
variable {w : World} {F : Nat → Prop} {d : Nat} {S : St} (h : Disk w F d S)
include h
/-- some error, some disk -/
theorem any_create (s : ByteArray) (hs : s.size ≤ 140737488355328) : Calls Tryz.prog 9 #[dp d, .string s] w fun x w' => ∃ e S', x = .returned (er e) ∧ Left5 F d w w' S' := by
  obtain ⟨pm, dm, val, hD⟩ := h
  by_cases he : firstErr [0, argErr [okName s.data.toList], thereErr (look S.pres s.data.toList), fullErr S.pres] = 0
  · obtain ⟨_, h1, h2, h3⟩ := all_zero4 he
    exact (create_ok hD s hs h1 (there_no h2) (full_lt h3)).mono fun x w' ⟨hx, b, hb, hl⟩ => ⟨_, _, hx, hl⟩
  · exact (create_fails _ s w hs 0 _ _ _ hD.gives (fun _ _ => hD.free hs) (fun _ _ _ => hD.freeName) rfl he).mono fun x w' ⟨hx, hb⟩ => ⟨_, S, hx, left_same ⟨pm, dm, val, hD⟩ hb⟩
theorem any_remove (s : ByteArray) (hs : s.size ≤ 140737488355328) : Calls Tryz.prog 11 #[dp d, .string s] w fun x w' => ∃ e S', x = .returned (er e) ∧ Left5 F d w w' S' := by
  obtain ⟨pm, dm, val, hD⟩ := h
  by_cases he : firstErr [0, argErr [okName s.data.toList], noneErr (look S.pres s.data.toList)] = 0
  · obtain ⟨_, h1, h2⟩ := all_zero3 he
    obtain ⟨f, hf⟩ := none_some h2
    exact (remove_ok hD s hs h1 hf).mono fun x w' ⟨hx, hl⟩ => ⟨_, _, hx, hl⟩
  · exact (remove_fails _ s w hs 0 _ _ hD.gives (fun _ _ => hD.leads hs) rfl he).mono fun x w' ⟨hx, hb⟩ => ⟨_, S, hx, left_same ⟨pm, dm, val, hD⟩ hb⟩
theorem any_sync (s : ByteArray) (hs : s.size ≤ 140737488355328) : Calls Tryz.prog 21 #[dp d, .string s] w fun x w' => ∃ e S', x = .returned (er e) ∧ Left5 F d w w' S' := by
  obtain ⟨pm, dm, val, hD⟩ := h
  by_cases he : firstErr [0, argErr [okName s.data.toList], noneErr (look S.pres s.data.toList)] = 0
  · obtain ⟨_, h1, h2⟩ := all_zero3 he
    obtain ⟨f, hf⟩ := none_some h2
    exact (sync_ok hD s hs h1 hf).mono fun x w' ⟨hx, hl⟩ => ⟨_, _, hx, hl⟩
  · exact (sync_fails _ s w hs 0 _ _ hD.gives (fun _ _ => hD.leads hs) rfl he).mono fun x w' ⟨hx, hb⟩ => ⟨_, S, hx, left_same ⟨pm, dm, val, hD⟩ hb⟩
theorem any_rename (s t : ByteArray) (hs : s.size ≤ 140737488355328) (ht : t.size ≤ 140737488355328) : Calls Tryz.prog 13 #[dp d, .string s, .string t] w fun x w' => ∃ e S', x = .returned (er e) ∧ Left5 F d w w' S' := by
  obtain ⟨pm, dm, val, hD⟩ := h
  by_cases he : firstErr [0, argErr [okName s.data.toList, okName t.data.toList], noneErr (look S.pres s.data.toList)] = 0
  · obtain ⟨_, h1, h2⟩ := all_zero3 he
    obtain ⟨f, hf⟩ := none_some h2
    by_cases hst : s = t
    · exact (rename_same hD s t hs ht h1 hf hst).mono fun x w' ⟨hx, hb⟩ => ⟨_, S, hx, left_same ⟨pm, dm, val, hD⟩ hb⟩
    · exact (rename_ok hD s t hs ht h1 hf hst).mono fun x w' ⟨hx, hl⟩ => ⟨_, _, hx, hl⟩
  · exact (rename_fails _ s t w hs ht 0 _ _ hD.gives (fun _ _ => hD.leads hs) rfl he).mono fun x w' ⟨hx, hb⟩ => ⟨_, S, hx, left_same ⟨pm, dm, val, hD⟩ hb⟩
theorem any_names : Calls Tryz.prog 23 #[dp d] w fun x w' => ∃ e S', x = .returned (er e) ∧ Left5 F d w w' S' := by
  obtain ⟨pm, dm, val, hD⟩ := h
  exact (names_ok hD).mono fun x w' ⟨hx, hl⟩ => ⟨_, _, hx, hl⟩
theorem any_append (s : ByteArray) (hs : s.size ≤ 140737488355328) (A : Option Addr) (n c : Nat) (l : List UInt8) (hl : Lies w w.heap.size 1 A n (l.map bv)) (hn : n ≤ 140737488355328) :
    Calls Tryz.prog 15 #[dp d, .string s, .slice A n c] w fun x w' => ∃ e S', x = .returned (er e) ∧ Left5 F d w w' S' := by
  obtain ⟨pm, dm, val, hD⟩ := h
  cases hlk : look S.pres s.data.toList with
  | none =>
    have hne : firstErr [0, argErr [okName s.data.toList], 7, 0] ≠ 0 := fun he => by have := (all_zero4 he).2.2.1; cases this
    exact (append_fails _ s A n c w hs 0 7 0 _ hD.gives (fun _ _ => by have := hD.leads hs; rw [hlk] at this; exact this) (fun _ _ h7 => by cases h7) rfl hne).mono fun x w' ⟨hx, hb⟩ => ⟨_, S, hx, left_same ⟨pm, dm, val, hD⟩ hb⟩
  | some f =>
    by_cases he : firstErr [0, argErr [okName s.data.toList], 0, spaceErr S (S.len f) n] = 0
    · obtain ⟨_, h1, _, h3⟩ := all_zero4 he
      exact (append_ok hD s hs A n c l hl hn h1 hlk (space_ok h3)).mono fun x w' ⟨hx, hl⟩ => ⟨_, _, hx, hl⟩
    · exact (append_fails _ s A n c w hs 0 0 _ _ hD.gives (fun _ _ => by have := hD.leads hs; rw [hlk] at this; exact this) (fun _ _ _ => hD.space hs hlk n hn) rfl he).mono fun x w' ⟨hx, hb⟩ => ⟨_, S, hx, left_same ⟨pm, dm, val, hD⟩ hb⟩
end

/-- two disks, apart from each other -/
def Pair (w0 w : World) (d : Nat) (S : St) (e : Nat) (T : St) : Prop :=
  ∃ F G, Disk w F d S ∧ Disk w G e T ∧ (∀ i, G i → ¬ F i) ∧ (∀ i, F i → w0.heap.size ≤ i) ∧ (∀ i, G i → w0.heap.size ≤ i) ∧ Below w0.heap.size w0 w
theorem Pair.fst {w0 w : World} {d e : Nat} {S T : St} (h : Pair w0 w d S e T) : At w0 w d S := by
  obtain ⟨F, G, h1, _, _, h2, _, h3⟩ := h; exact ⟨F, h1, h2, h3⟩
theorem Pair.snd {w0 w : World} {d e : Nat} {S T : St} (h : Pair w0 w d S e T) : At w0 w e T := by
  obtain ⟨F, G, _, h1, _, _, h2, h3⟩ := h; exact ⟨G, h1, h2, h3⟩
theorem Pair.below {w0 w w' : World} {d e : Nat} {S T : St} (h : Pair w0 w d S e T) (hb : Below w.heap.size w w') : Pair w0 w' d S e T := by
  obtain ⟨F, G, h1, h2, h3, h4, h5, h6⟩ := h
  exact ⟨F, G, h1.below hb, h2.below hb, h3, h4, h5, h6.trans (hb.mono h6.size)⟩
/-- a call on the first of them leaves the second one as it was -/
theorem Pair.run {w0 w : World} {d e : Nat} {S T : St} (h : Pair w0 w d S e T) {f : FuncId} {args : Array Value} {Q : Ending → St → Prop} (hc : ∀ F, Disk w F d S → Calls Tryz.prog f args w fun x w' => ∃ S', Q x S' ∧ Left5 F d w w' S') :
    Calls Tryz.prog f args w fun x w' => ∃ S', Q x S' ∧ Pair w0 w' d S' e T := by
  obtain ⟨F, G, h1, h2, h3, h4, h5, h6⟩ := h
  refine (hc F h1).mono fun x w' ⟨S', hq, hT, hD⟩ => ⟨S', hq, _, G, hD, h2.other hT h3, fun i hg hm => ?_, fun i hi => ?_, h5, h6.trans (hT.below h6.size h4)⟩
  · rcases hm with hm | hm
    · exact h3 i hg hm
    · have := h2.lt i hg; omega
  · rcases hi with hi | hi
    · exact h4 i hi
    · exact Nat.le_trans h6.size hi.1
/-- what a crash leaves is a disk beside the one that failed -/
theorem pair_fail {w0 w : World} {d : Nat} {S : St} (h : At w0 w d S) (keep : Nat) (hk : keep ≤ 9223372036854775807) (names : Bool) :
    Calls Tryz.prog 25 #[dp d, .int .i64 (keep : Int), .bool names] w fun x w' => ∃ d' S', x = .returned (.tuple #[dp d', er 0]) ∧ Below w.heap.size w w' ∧ Pair w0 w' d S d' S' ∧ FailSpec S (if names then S.pres else S.dur) keep S' := by
  obtain ⟨F, ⟨pm, dm, val, hD⟩, hF, hB⟩ := h
  have key : ∀ {d' : Nat} {S' : St} {w' : World}, Below w.heap.size w w' → Disk w' (since w w') d' S' → Pair w0 w' d S d' S' := fun {d' S' w'} hb hd =>
    ⟨F, _, ⟨pm, dm, val, hD.below hb⟩, hd, fun i hi hf => by have := hD.lt i hf; have := hi.1; omega, hF, fun i hi => Nat.le_trans hB.size hi.1, hB.trans (hb.mono hB.size)⟩
  cases names
  · exact (fail_ok_false hD keep hk).mono fun x w' ⟨d', S', hx, hb, hd, hs⟩ => ⟨d', S', hx, hb, key hb hd, hs⟩
  · exact (fail_ok_true hD keep hk).mono fun x w' ⟨d', S', hx, hb, hd, hs⟩ => ⟨d', S', hx, hb, key hb hd, hs⟩
end Go.Proofs.YtbpdonnneleeeaaGreatDoor

