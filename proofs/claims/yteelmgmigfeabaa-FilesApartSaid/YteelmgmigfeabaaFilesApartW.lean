/-
  The walk of FilesApart.
-/
import Derived.Test.YteelmgmigfeabaaApart
import Derived.Deep.RegionHeld3
namespace Go.Proofs.Yteelmgmigfeabaa
open Go.RowKit Go.Maps Go.Sort
set_option linter.unusedVariables false
set_option maxRecDepth 20000

def kw1 (a b : ByteArray) (w : World) : World := w.alloc (.cells #[.string a, .string b] 45)
theorem kw1_facts (a b : ByteArray) (w : World) : Below w.heap.size w (kw1 a b w) ∧ ∀ W, Below (kw1 a b w).heap.size (kw1 a b w) W → W.cell? ⟨w.heap.size, 0, none⟩ = some (.string a) ∧ W.cell? ⟨w.heap.size, 1, none⟩ = some (.string b) := by
  unfold kw1
  have s1 := alloc_size w (.cells #[.string a, .string b] 45)
  have h1 : (w.alloc (.cells #[.string a, .string b] 45)).heap[w.heap.size]? = some (.cells #[.string a, .string b] 45) := heap_alloc_new w _
  have hb1 := below_a (Below.refl w.heap.size w) (.cells #[.string a, .string b] 45)
  generalize w.alloc (.cells #[.string a, .string b] 45) = w1 at *
  refine ⟨hb1, fun W hW => ⟨?_, ?_⟩⟩
  · rw [cell_of_row W w.heap.size 0 _ _ (0, 0) ((hW.block _ (by omega)).trans h1)]; rfl
  · rw [cell_of_row W w.heap.size 1 _ _ (0, 0) ((hW.block _ (by omega)).trans h1)]; rfl

def RA (W0 : World) (d e f g : Nat) (la lb : List UInt8) (l : List ByteArray) (T : St) (n : Nat) (i : Value) (wr : World) : Prop :=
  ∃ (k : Nat) (S : St), k ≤ n ∧ i = .int .i64 (k : Int) ∧ Pair W0 wr d S e T ∧ Inv f g la lb S (sizes (l.take k)).sum

set_option maxHeartbeats 4000000 in
theorem filesApart_small (a b : ByteArray) (A : Option Addr) (n c : Nat) (l : List ByteArray) (kp : Nat) (w : World) (hl : Lies w w.heap.size 1 A n (l.map Value.string)) (hu : ∀ s ∈ l, s.size ≤ 140737488351232) (hkp : kp < 256) (hsz : a.size + b.size ≤ 5000) (hn : n ≤ 30)
    (hts : ∀ W : World, Below w.heap.size w W → Calls Try.prog 29 #[.slice A n c] W fun e w' => e = .returned (.int .i64 ((n + (sizes l).sum : Nat) : Int)) ∧ w' = W) (hsum : n + (sizes l).sum ≤ 10000) :
    Calls Try.prog 10 #[.agg #[.string a, .string b], .slice A n c, .int .u8 (kp : Int)] w fun e w' => e = .returned (.bool true) ∧ Below w.heap.size w w' := by
  have i1 : (a.size : Int) + (b.size : Int) ≤ 5000 := by omega
  have i2 : (n : Int) ≤ 30 := by omega
  have i3 : ((n + (sizes l).sum : Nat) : Int) ≤ 10000 := by omega
  have HF := Lib.hid (kw1_facts a b w)
  have ea : a.data.toList.length = a.size := by rw [Array.length_toList]; rfl
  have eb : b.data.toList.length = b.size := by rw [Array.length_toList]; rfl
  have EA := Lib.hid ea; have EB := Lib.hid eb; have HSZ := Lib.hid hsz; have HL := Lib.hid hl; have HU := Lib.hid hu; have HT := Lib.hid hts; have HSum := Lib.hid hsum; have HKp := Lib.hid (show kp ≤ 9223372036854775807 by omega)
  clear ea eb hsz hl hu hts hsum
  generalize hvs : n + (sizes l).sum = vs at *
  have HVS := Lib.hid hvs; clear hvs
  go_enter Try.func10, Try.ntmps10
  go_wp2_with fail
  change Calls _ _ _ (kw1 a b w) _
  generalize kw1 a b w = W0 at *
  refine (alive5_any W0).mono ?_
  rintro x w1 ⟨rfl, hb1⟩
  obtain ⟨c0, c1⟩ := HF.out.2 w1 hb1
  have HB1 := Lib.hid hb1; clear hb1
  go_wp2_with fail
  refine (HT.out w1 (HF.out.1.trans (HB1.out.mono HF.out.1.size))).mono ?_
  rintro x w1' ⟨rfl, hw1⟩
  obtain rfl := hw1.symm
  go_wp2_with fail
  refine (at_new (w0 := W0) HB1.out 30000 (by decide) (by decide)).mono ?_
  rintro x w2 ⟨d, rfl, h2⟩
  have H := Lib.hid h2; clear h2 c0 c1
  go_wp2_with fail
  refine (at_create H.out sOne (by decide) (by decide) rfl (by decide)).mono ?_
  rintro x w3 ⟨rfl, f, _, h2⟩
  have h2 : At W0 w3 d (A1 f) := h2
  have l1 := h2.look_lt (look_one f [111, 110, 101])
  have H := Lib.hid h2; clear h2
  go_wp2_with fail
  refine (at_create H.out sOther (by decide) (by decide) (look_one_not f (by decide)) (by show 1 < 64; decide)).mono ?_
  rintro x w4 ⟨rfl, g, hg, h2⟩
  have h2 : At W0 w4 d (A2 f g) := h2
  have hne : f ≠ g := by omega
  have HNe := Lib.hid hne
  have H := Lib.hid h2; clear h2 hg l1 hne
  obtain ⟨c0, c1⟩ := HF.out.2 w4 H.out.low
  obtain ⟨w5, c5, hrun5, hB5, hL5⟩ := conv_bytes w4 a
  have HB5 := Lib.hid hB5; have HL5 := Lib.hid hL5; clear hB5 hL5
  go_wp2_with fail
  refine (at_append (H.out.below HB5.out) sOne (by decide) (by decide) _ a.size c5 a.data.toList HL5.out (D2_one f g) ⟨by rw [A2_left f g HNe.out]; have := HSZ.out; omega, by show a.size + ((A2 f g).file f).bytes.length ≤ _; rw [A2_f f g HNe.out]; have := HSZ.out; show a.size + 0 ≤ _; omega⟩).mono ?_
  rintro x w6 ⟨rfl, h2⟩
  have h2 : At W0 w6 d (A3 f g a.data.toList) := h2
  have H := Lib.hid h2; clear h2 hrun5 HB5 HL5 c0 c1
  go_wp2_with fail
  refine (at_sync H.out sOne (by decide) (by decide) (D2_one f g)).mono ?_
  rintro x w7 ⟨rfl, h2⟩
  have h2 : At W0 w7 d (A4 f g a.data.toList) := h2
  have H := Lib.hid h2; clear h2
  obtain ⟨c0, c1⟩ := HF.out.2 w7 H.out.low
  obtain ⟨w8, c8, hrun8, hB8, hL8⟩ := conv_bytes w7 b
  have HB8 := Lib.hid hB8; have HL8 := Lib.hid hL8; clear hB8 hL8
  go_wp2_with fail
  refine (at_append (H.out.below HB8.out) sOne (by decide) (by decide) _ b.size c8 b.data.toList HL8.out (D2_one f g) ⟨by rw [A4_left f g _ HNe.out, EA.out]; have := HSZ.out; omega, by show b.size + ((A4 f g _).file f).bytes.length ≤ _; rw [A4_f f g _ HNe.out]; have := HSZ.out; show b.size + a.data.toList.length ≤ _; rw [EA.out]; omega⟩).mono ?_
  rintro x w9 ⟨rfl, h2⟩
  have h2 : At W0 w9 d (A5 f g a.data.toList b.data.toList) := h2
  have H := Lib.hid h2; clear h2 hrun8 HB8 HL8 c0 c1
  go_wp2_with fail
  refine (at_names H.out).mono ?_
  rintro x w10 ⟨rfl, h2⟩
  have h2 : At W0 w10 d (A6 f g a.data.toList b.data.toList) := h2
  have H := Lib.hid h2; clear h2
  go_wp2_with fail
  refine (pair_fail H.out kp HKp.out false).mono ?_
  rintro x w11 ⟨e, T, rfl, _, hp, hs⟩
  obtain ⟨t, ht1, ht2⟩ := Inv.fail f g _ _ HNe.out (A6_inv f g a.data.toList b.data.toList HNe.out) hs
  have R1 : RA W0 d e f g a.data.toList b.data.toList l T n (.int .i64 0) w11 := ⟨0, _, Nat.zero_le _, rfl, hp, by simpa [sizes] using A6_inv f g a.data.toList b.data.toList HNe.out⟩
  have R0 := Lib.hid R1; have T1 := Lib.hid ht1; have T2 := Lib.hid ht2
  clear R1 ht1 ht2 hs hp H
  go_wp2
  go_loopw [11] (fun i wr => RA W0 d e f g a.data.toList b.data.toList l T n i wr) (fun i _ => n - (intOf i).toNat)
  case atStart => exact R0.out
  case round =>
    clear R0
    obtain ⟨k, S, hk, rfl, hpr, hinv⟩ := hrel
    have HP := Lib.hid hpr; have HI := Lib.hid hinv
    clear hpr hinv
    by_cases hlt : k < n
    · have hbw : Below w.heap.size w wr := HF.out.1.trans (HP.out.fst.low.mono HF.out.1.size)
      obtain ⟨bb, o, u, hA, _, hu, hcell⟩ := (HL.out.below hbw).at_ hlt
      rw [List.getElem?_map] at hu
      obtain ⟨s, hs, rfl⟩ := Option.map_eq_some_iff.1 hu
      have hsum1 : (sizes (l.take (k + 1))).sum = (sizes (l.take k)).sum + s.size := by
        rw [List.take_add_one, hs]; simp [sizes]
      have hsum2 : (sizes (l.take (k + 1))).sum ≤ (sizes l).sum := by
        have := sums_le (sizes l) (k + 1)
        rw [show sizes (l.take (k + 1)) = (sizes l).take (k + 1) from List.map_take]; exact this
      have hs5 : (sizes (l.take k)).sum + s.size ≤ 10000 := by have := HVS.out; have := HSum.out; omega
      obtain ⟨w12, c12, hrun12, hB12, hL12⟩ := conv_bytes wr s
      have HC := Lib.hid (Pair.run (HP.out.below hB12) (f := 20) (args := #[dp d, .string sOther, .slice (some ⟨wr.heap.size, 0, none⟩) s.size c12]) (Q := fun x S' => x = .returned (er 0) ∧ Inv f g a.data.toList b.data.toList S' (sizes (l.take (k + 1))).sum) (fun F hD => by
        obtain ⟨pm, dm, val, hD⟩ := hD
        refine (append_ok hD sOther (by decide) _ s.size c12 s.data.toList hL12 (by omega) (argOK1 (by decide)) (f := g) (by rw [HI.out.pres]; exact D2_other f g) ⟨?_, ?_⟩).mono fun x w' ⟨hx, hl⟩ => ⟨_, ⟨hx, ?_⟩, hl⟩
        · rw [Inv.left f g _ _ HNe.out HI.out, EA.out, EB.out]; have := HSZ.out; omega
        · rw [HI.out.other]; omega
        · rw [hsum1]; have := Inv.app f g _ _ HNe.out HI.out s.data.toList; rw [Array.length_toList] at this; exact this))
      clear hbw hu hs hsum1 hsum2 hs5 hB12 hL12 HP HI
      subst hA
      have hpar : k % 2 = 1 ∨ k % 2 = 0 := by omega
      rcases hpar with hpar | hpar
      · have m1 : (k : Int) % 2 = 1 := by omega
        have m2 : Int.tmod (k : Int) 2 = 1 := by rw [Int.tmod_eq_emod_of_nonneg (by omega)]; exact m1
        go_wp2_with fail
        refine HC.out.mono ?_
        rintro x w13 ⟨S1, ⟨rfl, hi1⟩, hp1⟩
        have HI := Lib.hid hi1
        have HC2 := Lib.hid (Pair.run hp1 (f := 21) (args := #[dp d, .string sOther]) (Q := fun x S' => x = .returned (er 0) ∧ Inv f g a.data.toList b.data.toList S' (sizes (l.take (k + 1))).sum) (fun F hD => by
          obtain ⟨pm, dm, val, hD⟩ := hD
          exact (sync_ok hD sOther (by decide) (argOK1 (by decide)) (f := g) (by rw [HI.out.pres]; exact D2_other f g)).mono fun x w' ⟨hx, hl⟩ => ⟨_, ⟨hx, Inv.syn f g _ _ HNe.out HI.out⟩, hl⟩))
        clear hi1 hp1
        go_wp2_with fail
        refine HC2.out.mono ?_
        rintro x w14 ⟨S2, ⟨rfl, hi2⟩, hp2⟩
        have HI2 := Lib.hid hi2; have HP2 := Lib.hid hp2; clear hi2 hp2
        go_wp2
        go_roundw
        case rel => exact ⟨k + 1, S2, hlt, by go_num, HP2.out, HI2.out⟩
        case measure => simp [intOf]; omega
      · have m1 : (k : Int) % 2 = 0 := by omega
        have m2 : Int.tmod (k : Int) 2 = 0 := by rw [Int.tmod_eq_emod_of_nonneg (by omega)]; exact m1
        go_wp2_with fail
        refine HC.out.mono ?_
        rintro x w13 ⟨S1, ⟨rfl, hi1⟩, hp1⟩
        have HI := Lib.hid hi1; have HP2 := Lib.hid hp1; clear hi1 hp1
        go_wp2
        go_roundw
        case rel => exact ⟨k + 1, S1, hlt, by go_num, HP2.out, HI.out⟩
        case measure => simp [intOf]; omega
    · obtain rfl : n = k := by omega
      go_wp2_with fail
      refine (at_fail_dur HP.out.fst kp HKp.out).mono ?_
      rintro x w15 ⟨dy, Sy, rfl, b9, hy, hsy⟩
      obtain ⟨y, hy1, hy2⟩ := Inv.fail f g _ _ HNe.out HI.out hsy
      have HY := Lib.hid hy; have Y1 := Lib.hid hy1; have Y2 := Lib.hid hy2; have HP := Lib.hid (HP.out.below b9)
      clear hy hy1 hy2 hsy b9
      obtain ⟨Z, hZ⟩ : ∃ Z : ByteArray, Z = ⟨(a.data.toList ++ b.data.toList.take kp).toArray⟩ := ⟨_, rfl⟩
      have hcat : a ++ b.extract 0 (min kp b.size) = Z := by
        refine txt_same ?_
        rw [hZ]
        show (a ++ b.extract 0 (min kp b.size)).data.toList = a.data.toList ++ b.data.toList.take kp
        rw [show (a ++ b.extract 0 (min kp b.size)).data.toList = a.data.toList ++ (b.extract 0 (min kp b.size)).data.toList by simp, Lib.extract_data, List.drop_zero, Nat.sub_zero, ← EB.out, ← List.take_eq_take_min]
      have hsub : (b.extract 0 (min kp b.size)).size ≤ b.size := by rw [ByteArray.size_extract]; omega
      have KC : Hid (∀ W, Below w15.heap.size w15 W → W.cell? ⟨w.heap.size, 0, none⟩ = some (.string a) ∧ W.cell? ⟨w.heap.size, 1, none⟩ = some (.string b)) := fun W hW => HF.out.2 W (HP.out.fst.below hW).low
      have HAd : Hid (∀ W, Below w15.heap.size w15 W → Calls Try.prog 27 #[dp d, .string ⟨#[111, 110, 101]⟩] W fun x w' => x = .returned (.string (a ++ b)) ∧ Below w15.heap.size w15 w') := fun W hW => (at_all (HP.out.fst.below hW) sOne (by decide) (by decide) (f := f) (by rw [HI.out.pres]; exact D2_one f g)).mono fun x w' hx => ⟨by
        rw [hx.1, HI.out.one]
        have : (⟨(a.data.toList ++ b.data.toList).toArray⟩ : ByteArray) = a ++ b := txt_same (by simp)
        rw [this], hW.trans (hx.2.mono hW.size)⟩
      have HAx : Hid (∀ W, Below w15.heap.size w15 W → Calls Try.prog 27 #[dp e, .string ⟨#[111, 110, 101]⟩] W fun x w' => x = .returned (.string Z) ∧ Below w15.heap.size w15 w') := fun W hW => (at_all (HP.out.snd.below hW) sOne (by decide) (by decide) T1.out).mono fun x w' hx => ⟨by rw [hx.1, T2.out, hZ], hW.trans (hx.2.mono hW.size)⟩
      have HAy : Hid (∀ W, Below w15.heap.size w15 W → Calls Try.prog 27 #[dp dy, .string ⟨#[111, 110, 101]⟩] W fun x w' => x = .returned (.string Z) ∧ Below w15.heap.size w15 w') := fun W hW => (at_all (HY.out.below hW) sOne (by decide) (by decide) Y1.out).mono fun x w' hx => ⟨by rw [hx.1, Y2.out, hZ], hW.trans (hx.2.mono hW.size)⟩
      have hd0 : Below w15.heap.size w15 w15.drew := below_any rfl rfl rfl rfl
      have HFin : Hid (∀ W, Below w15.heap.size w15 W → Below w.heap.size w W) := fun W hW => HF.out.1.trans ((HP.out.fst.below hW).low.mono HF.out.1.size)
      have p5 : a.size + b.size ≤ 9223372036854775807 := by have := HSZ.out; omega
      have p7 : a.size + (b.extract 0 (min kp b.size)).size ≤ 9223372036854775807 := by have := HSZ.out; omega
      have hadd : ∀ W, (Op.stringOp .add a b).run Try.prog W = .ok (.string (a ++ b)) W := fun W => run_string_add_sum W a b p5
      have hadd2 : ∀ W, (Op.stringOp .add a (b.extract 0 (min kp b.size))).run Try.prog W = .ok (.string Z) W := fun W => by rw [← hcat]; exact run_string_add_sum W a _ p7
      have hwk : IntKind.i64.wrap (kp : Int) = (kp : Int) := (IntWalk.i64_left _).trans (IntWalk.wrap64_in _ ⟨by omega, by omega⟩)
      have h0 : (0 : Int) ≤ min (kp : Int) (b.size : Int) := by omega
      have h1 : min (kp : Int) (b.size : Int) ≤ (b.size : Int) := by omega
      have htn : (min (kp : Int) (b.size : Int)).toNat = min kp b.size := by omega
      have hadd3 : ∀ W, (Op.stringOp .add a (b.extract 0 (min (kp : Int) (b.size : Int)).toNat)).run Try.prog W = .ok (.string Z) W := fun W => by rw [htn]; exact hadd2 W
      have hslC : ∀ W, (Instr.slice 9 (.string b) none (some (.int .i64 (min (kp : Int) (b.size : Int)))) none).run Try.prog W = .ok (.string (b.extract 0 (min (kp : Int) (b.size : Int)).toNat)) W := fun W => by
        rw [run_slice_string_to_if W _ _ _ _ Try.underlying9, if_pos ⟨h0, h1⟩]
      clear htn
      clear hZ hcat hsub p7 HY Y1 Y2 HP HI T1 T2 HT HL HU
      go_wp2_with fail
      go_region_held3 (fun W => W.cell? ⟨w.heap.size, 0, none⟩ = some (.string a) ∧ W.cell? ⟨w.heap.size, 1, none⟩ = some (.string b)) (first | exact KC.out _ hd0 | exact KC.out _ hbd | exact KC.out _ hbx | exact KC.out _ hby)
        (first
         | (go_at_call 27; with_reducible refine Calls.mono (HAd.out _ (by assumption)) ?_; rintro x wd ⟨rfl, hbd⟩)
         | (go_at_call 27; with_reducible refine Calls.mono (HAx.out _ (by assumption)) ?_; rintro x wx ⟨rfl, hbx⟩)
         | (go_at_call 27; with_reducible refine Calls.mono (HAy.out _ (by assumption)) ?_; rintro x wy ⟨rfl, hby⟩))
      all_goals (
        go_wp2
        go_ret
        exact ⟨rfl, by first | exact HFin.out _ hby | exact HFin.out _ hbx | exact HFin.out _ hbd⟩)

set_option maxHeartbeats 2000000 in
theorem filesApart_big (a b : ByteArray) (A : Option Addr) (n c : Nat) (kp : Nat) (w : World) (ha : a.size ≤ 140737488351232) (hb : b.size ≤ 140737488351232) (hn : n ≤ 140737488351232)
    (hcase : 5000 < a.size + b.size ∨ 30 < n ∨ ∀ W : World, Below w.heap.size w W → Calls Try.prog 29 #[.slice A n c] W fun e w' => ∃ v : Nat, e = .returned (.int .i64 (v : Int)) ∧ 10000 < v ∧ v ≤ 281474976710656 ∧ w' = W) :
    Calls Try.prog 10 #[.agg #[.string a, .string b], .slice A n c, .int .u8 (kp : Int)] w fun e w' => e = .returned (.bool true) ∧ Below w.heap.size w w' := by
  have HF := Lib.hid (kw1_facts a b w)
  have HCs := Lib.hid hcase
  clear hcase
  go_enter Try.func10, Try.ntmps10
  go_wp2_with fail
  change Calls _ _ _ (kw1 a b w) _
  generalize kw1 a b w = W0 at *
  refine (alive5_any W0).mono ?_
  rintro x w1 ⟨rfl, hb1⟩
  obtain ⟨c0, c1⟩ := HF.out.2 w1 hb1
  have HB1 := Lib.hid hb1; clear hb1
  have HBw := Lib.hid (HF.out.1.trans (HB1.out.mono HF.out.1.size))
  by_cases h1 : 5000 < a.size + b.size
  · have i1 : (5000 : Int) < (a.size : Int) + (b.size : Int) := by omega
    go_wp2_with fail
    refine (alive5_any w1).mono ?_
    rintro x w2 ⟨rfl, hb2⟩
    have HB := Lib.hid (HBw.out.trans (hb2.mono HBw.out.size))
    clear hb2 c0 c1
    go_wp2
    go_ret
    exact ⟨rfl, HB.out⟩
  · have i1 : (a.size : Int) + (b.size : Int) ≤ 5000 := by omega
    by_cases h2 : 30 < n
    · have i2 : (30 : Int) < (n : Int) := by omega
      go_wp2_with fail
      refine (alive5_any w1).mono ?_
      rintro x w2 ⟨rfl, hb2⟩
      have HB := Lib.hid (HBw.out.trans (hb2.mono HBw.out.size))
      clear hb2 c0 c1
      go_wp2
      go_ret
      exact ⟨rfl, HB.out⟩
    · have i2 : (n : Int) ≤ 30 := by omega
      have HT := Lib.hid ((HCs.out.resolve_left h1).resolve_left h2)
      go_wp2_with fail
      refine (HT.out w1 HBw.out).mono ?_
      rintro x w1' ⟨v, rfl, hv, hv2, hw1⟩
      obtain rfl := hw1.symm
      have i3 : (10000 : Int) < (v : Int) := by omega
      go_wp2_with fail
      refine (alive5_any w1).mono ?_
      rintro x w2 ⟨rfl, hb2⟩
      have HB := Lib.hid (HBw.out.trans (hb2.mono HBw.out.size))
      clear hb2 c0 c1
      go_wp2
      go_ret
      exact ⟨rfl, HB.out⟩

theorem filesApart_walk (a b : ByteArray) (A : Option Addr) (n c : Nat) (l : List ByteArray) (kp : Nat) (w : World) (ha : a.size ≤ 140737488351232) (hb : b.size ≤ 140737488351232) (y : Lies w w.heap.size 1 A n (l.map Value.string)) (hu : ∀ s ∈ l, s.size ≤ 140737488351232) (hnc : n ≤ c) (hc : c ≤ 140737488351232) (hkp : kp < 256) :
    Calls Try.prog 10 #[.agg #[.string a, .string b], .slice A n c, .int .u8 (kp : Int)] w fun e w' => e = .returned (.bool true) ∧ Below w.heap.size w w' := by
  by_cases h1 : 5000 < a.size + b.size
  · exact filesApart_big a b A n c kp w ha hb (by omega) (.inl h1)
  by_cases h2 : 30 < n
  · exact filesApart_big a b A n c kp w ha hb (by omega) (.inr (.inl h2))
  have hts := fun (W : World) (hW : Below w.heap.size w W) => textsSize_any A n c W.heap.size l W ((y.below hW).more hW.size) hu (by omega)
  by_cases h3 : n + (sizes l).sum ≤ 10000
  · exact filesApart_small a b A n c l kp w y hu hkp (by omega) (by omega) (fun W hW => (hts W hW).mono fun e w' ⟨v, he, h4, h5, _, h6⟩ => by
      have : v = n + (sizes l).sum := h4 (by omega)
      exact ⟨by rw [he, this], h6.symm⟩) h3
  · exact filesApart_big a b A n c kp w ha hb (by omega) (.inr (.inr fun W hW => (hts W hW).mono fun e w' ⟨v, he, h4, h5, h7, h6⟩ => ⟨v, he, by
      by_cases hv : v ≤ 1048576
      · have := h4 hv; omega
      · omega, h7, h6.symm⟩))
end Go.Proofs.Yteelmgmigfeabaa
