/-
  The walk of FilesBytes.
-/
import Derived.Test.YteelmgmigfeabaaBytes
import Derived.Deep.RegionHeld3
namespace Go.Proofs.Yteelmgmigfeabaa
open Go.RowKit Go.Maps Go.Sort
set_option linter.unusedVariables false
set_option maxRecDepth 20000

def kc1 (k0 k1 : Nat) (w : World) : World := w.alloc (.cells #[.int .u16 (k0 : Int), .int .u16 (k1 : Int)] 55)
theorem kc1_facts (k0 k1 : Nat) (w : World) : Below w.heap.size w (kc1 k0 k1 w) ∧ ∀ W, Below (kc1 k0 k1 w).heap.size (kc1 k0 k1 w) W → W.cell? ⟨w.heap.size, 0, none⟩ = some (.int .u16 (k0 : Int)) ∧ W.cell? ⟨w.heap.size, 1, none⟩ = some (.int .u16 (k1 : Int)) := by
  unfold kc1
  have s1 := alloc_size w (.cells #[.int .u16 (k0 : Int), .int .u16 (k1 : Int)] 55)
  have h1 : (w.alloc (.cells #[.int .u16 (k0 : Int), .int .u16 (k1 : Int)] 55)).heap[w.heap.size]? = some (.cells #[.int .u16 (k0 : Int), .int .u16 (k1 : Int)] 55) := heap_alloc_new w _
  have hb1 := below_a (Below.refl w.heap.size w) (.cells #[.int .u16 (k0 : Int), .int .u16 (k1 : Int)] 55)
  generalize w.alloc (.cells #[.int .u16 (k0 : Int), .int .u16 (k1 : Int)] 55) = w1 at *
  refine ⟨hb1, fun W hW => ⟨?_, ?_⟩⟩
  · rw [cell_of_row W w.heap.size 0 _ _ (0, 0) ((hW.block _ (by omega)).trans h1)]; rfl
  · rw [cell_of_row W w.heap.size 1 _ _ (0, 0) ((hW.block _ (by omega)).trans h1)]; rfl

def RB (W0 : World) (d f g : Nat) (l : List ByteArray) (n : Nat) (a b i : Value) (wr : World) : Prop :=
  ∃ (k : Nat) (S : St) (sa sb : ByteArray), k ≤ n ∧ i = .int .i64 (k : Int) ∧ a = .string sa ∧ b = .string sb ∧ At W0 wr d S ∧ IB f g sa.data.toList sb.data.toList S ∧ sa.size + sb.size = (sizes (l.take k)).sum

set_option maxHeartbeats 4000000 in
theorem filesBytes_small (A : Option Addr) (n c : Nat) (l : List ByteArray) (A' : Option Addr) (c' : Nat) (lt : List Bool) (k0 k1 : Nat) (w : World) (hl : Lies w w.heap.size 1 A n (l.map Value.string)) (hl' : Lies w w.heap.size 1 A' n (lt.map Value.bool))
    (hk0 : k0 < 65536) (hk1 : k1 < 65536) (hn : n ≤ 30)
    (hts : ∀ W : World, Below w.heap.size w W → Calls Try.prog 29 #[.slice A n c] W fun e w' => e = .returned (.int .i64 ((n + (sizes l).sum : Nat) : Int)) ∧ w' = W) (hsum : n + (sizes l).sum ≤ 20000) :
    Calls Try.prog 5 #[.slice A n c, .slice A' n c', .agg #[.int .u16 (k0 : Int), .int .u16 (k1 : Int)]] w fun e w' => e = .returned (.bool true) ∧ Below w.heap.size w w' := by
  have i2 : (n : Int) ≤ 30 := by omega
  have i3 : ((n + (sizes l).sum : Nat) : Int) ≤ 20000 := by omega
  have HF := Lib.hid (kc1_facts k0 k1 w)
  have HL := Lib.hid hl; have HL' := Lib.hid hl'; have HT := Lib.hid hts; have HSum := Lib.hid hsum; have HK := Lib.hid (And.intro hk0 hk1)
  clear hl hl' hts hsum hk0 hk1
  generalize hvs : n + (sizes l).sum = vs at *
  have HVS := Lib.hid hvs; clear hvs
  go_enter Try.func5, Try.ntmps5
  go_wp2_with fail
  change Calls _ _ _ (kc1 k0 k1 w) _
  generalize kc1 k0 k1 w = W0 at *
  refine (alive5_any W0).mono ?_
  rintro x w1 ⟨rfl, hb1⟩
  have HB1 := Lib.hid hb1; clear hb1
  go_wp2_with fail
  refine (HT.out w1 (HF.out.1.trans (HB1.out.mono HF.out.1.size))).mono ?_
  rintro x w1' ⟨rfl, hw1⟩
  obtain rfl := hw1.symm
  go_wp2_with fail
  refine (at_new (w0 := W0) HB1.out 30000 (by decide) (by decide)).mono ?_
  rintro x w2 ⟨d, rfl, h2⟩
  have H := Lib.hid h2; clear h2
  go_wp2_with fail
  refine (at_create H.out sA (by decide) (by decide) rfl (by decide)).mono ?_
  rintro x w3 ⟨rfl, f, _, h2⟩
  have h2 : At W0 w3 d (B1 f) := h2
  have l1 := h2.look_lt (look_one f [97])
  have H := Lib.hid h2; clear h2
  go_wp2_with fail
  refine (at_create H.out sB (by decide) (by decide) (look_one_not f (by decide)) (by show 1 < 64; decide)).mono ?_
  rintro x w4 ⟨rfl, g, hg, h2⟩
  have h2 : At W0 w4 d (B2 f g) := h2
  have hne : f ≠ g := by omega
  have HNe := Lib.hid hne
  have R1 : RB W0 d f g l n (.string ⟨#[]⟩) (.string ⟨#[]⟩) (.int .i64 0) w4 := ⟨0, _, ⟨#[]⟩, ⟨#[]⟩, Nat.zero_le _, rfl, rfl, rfl, h2, B2_inv f g hne, rfl⟩
  have R0 := Lib.hid R1
  clear R1 h2 hg l1 hne H
  go_wp2
  go_loopw [9, 10, 11] (fun a b i wr => RB W0 d f g l n a b i wr) (fun _ _ i _ => n - (intOf i).toNat)
  case atStart => exact R0.out
  case round =>
    clear R0
    obtain ⟨k, S, sa, sb, hk, rfl, rfl, rfl, hat, hinv, hsz⟩ := hrel
    have HA := Lib.hid hat; have HI := Lib.hid hinv; have HZ := Lib.hid hsz
    clear hat hinv hsz
    by_cases hlt : k < n
    · have hbw : Below w.heap.size w wr := HF.out.1.trans (HA.out.low.mono HF.out.1.size)
      obtain ⟨bb, o, u, hA, _, hu, hcell⟩ := (HL.out.below hbw).at_ hlt
      rw [List.getElem?_map] at hu
      obtain ⟨s, hs, rfl⟩ := Option.map_eq_some_iff.1 hu
      obtain ⟨bb', o', u', hA', _, hu', hcell'⟩ := (HL'.out.below hbw).at_ hlt
      rw [List.getElem?_map] at hu'
      obtain ⟨bt, hbt, rfl⟩ := Option.map_eq_some_iff.1 hu'
      have hsum1 : (sizes (l.take (k + 1))).sum = (sizes (l.take k)).sum + s.size := by
        rw [List.take_add_one, hs]; simp [sizes]
      have hsum2 : (sizes (l.take (k + 1))).sum ≤ (sizes l).sum := by
        have := sums_le (sizes l) (k + 1)
        rw [show sizes (l.take (k + 1)) = (sizes l).take (k + 1) from List.map_take]; exact this
      have hs5 : (sizes (l.take k)).sum + s.size ≤ 20000 := by have := HVS.out; have := HSum.out; omega
      have hz := HZ.out
      obtain ⟨w12, c12, hrun12, hB12, hL12⟩ := conv_bytes wr s
      have HS1 := Lib.hid hsum1
      have HB12 := Lib.hid hB12; have HL12 := Lib.hid hL12
      have hlen : sa.data.toList.length = sa.size := len_data sa
      have hlenb : sb.data.toList.length = sb.size := len_data sb
      have HSp : Hid (s.size ≤ S.left ∧ s.size + S.len f ≤ 1048576 ∧ s.size + S.len g ≤ 1048576) := by
        refine ⟨?_, ?_, ?_⟩
        · rw [HI.out.left f g HNe.out, hlen, hlenb]; omega
        · rw [HI.out.len_a f g HNe.out, hlen]; omega
        · rw [HI.out.len_b f g HNe.out, hlenb]; omega
      have hpa : sa.size + s.size ≤ 9223372036854775807 := by omega
      have hpb : sb.size + s.size ≤ 9223372036854775807 := by omega
      clear hbw hu hs hsum1 hsum2 hs5 hB12 hL12 hu' hbt hz hlen hlenb
      subst hA hA'
      cases bt with
      | false =>
        have hadd : ∀ W, (Op.stringOp .add sa s).run Try.prog W = .ok (.string (sa ++ s)) W := fun W => run_string_add_sum W sa s hpa
        have HE : Hid ((sa ++ s).data.toList = sa.data.toList ++ s.data.toList ∧ (sa ++ s).size = sa.size + s.size) := ⟨cat_data sa s, ByteArray.size_append⟩
        clear hpa hpb
        go_wp2_with fail
        refine (at_append (HA.out.below HB12.out) sA (by decide) (by decide) _ s.size c12 s.data.toList HL12.out (f := f) (by rw [HI.out.pres]; exact DB_a f g) ⟨HSp.out.1, HSp.out.2.1⟩).mono ?_
        rintro x w13 ⟨rfl, h2⟩
        have HA := Lib.hid h2
        have HI : Hid (IB f g (sa ++ s).data.toList sb.data.toList (S.append f s.data.toList)) := by have := HI.out.app_a f g HNe.out s.data.toList; rw [← HE.out.1] at this; exact this
        clear h2 hrun12 hcell hcell'
        go_wp2
        go_roundw
        case rel => exact ⟨k + 1, _, sa ++ s, sb, hlt, by go_num, rfl, rfl, HA.out, HI.out, by rw [HS1.out, HE.out.2, ← HZ.out]; omega⟩
        case measure => simp [intOf]; omega
      | true =>
        have hadd : ∀ W, (Op.stringOp .add sb s).run Try.prog W = .ok (.string (sb ++ s)) W := fun W => run_string_add_sum W sb s hpb
        have HE : Hid ((sb ++ s).data.toList = sb.data.toList ++ s.data.toList ∧ (sb ++ s).size = sb.size + s.size) := ⟨cat_data sb s, ByteArray.size_append⟩
        clear hpa hpb
        go_wp2_with fail
        refine (at_append (HA.out.below HB12.out) sB (by decide) (by decide) _ s.size c12 s.data.toList HL12.out (f := g) (by rw [HI.out.pres]; exact DB_b f g) ⟨HSp.out.1, HSp.out.2.2⟩).mono ?_
        rintro x w13 ⟨rfl, h2⟩
        have HA := Lib.hid h2
        have HI : Hid (IB f g sa.data.toList (sb ++ s).data.toList (S.append g s.data.toList)) := by have := HI.out.app_b f g HNe.out s.data.toList; rw [← HE.out.1] at this; exact this
        clear h2 hrun12 hcell hcell'
        go_wp2
        go_roundw
        case rel => exact ⟨k + 1, _, sa, sb ++ s, hlt, by go_num, rfl, rfl, HA.out, HI.out, by rw [HS1.out, HE.out.2, ← HZ.out]; omega⟩
        case measure => simp [intOf]; omega
    · obtain rfl : n = k := by omega
      obtain ⟨c0, c1⟩ := HF.out.2 wr HA.out.low
      obtain ⟨p, hp⟩ : ∃ p : Nat, p = k0 % (sa.size + 1) := ⟨_, rfl⟩
      obtain ⟨q, hq⟩ : ∃ q : Nat, q = k1 % (sa.size + 3) := ⟨_, rfl⟩
      have hple : p ≤ sa.size := by have := Nat.mod_lt k0 (show 0 < sa.size + 1 by omega); omega
      have hqle : q < sa.size + 3 := by have := Nat.mod_lt k1 (show 0 < sa.size + 3 by omega); omega
      have hp1 : (k0 : Int) % ((sa.size : Int) + 1) = (p : Int) := by rw [hp]; exact (Int.natCast_emod k0 (sa.size + 1)).symm
      have hq1 : (k1 : Int) % ((sa.size : Int) + 3) = (q : Int) := by rw [hq]; exact (Int.natCast_emod k1 (sa.size + 3)).symm
      have hp2 : Int.tmod (k0 : Int) ((sa.size : Int) + 1) = (p : Int) := by rw [Int.tmod_eq_emod_of_nonneg (by omega)]; exact hp1
      have hq2 : Int.tmod (k1 : Int) ((sa.size : Int) + 3) = (q : Int) := by rw [Int.tmod_eq_emod_of_nonneg (by omega)]; exact hq1
      have hzz : sa.size + sb.size ≤ 20000 := by
        have h1 := HZ.out
        rw [h1]
        have := sums_le (sizes l) n
        rw [show sizes (l.take n) = (sizes l).take n from List.map_take]
        have := HVS.out; have := HSum.out; omega
      have hk0 := HK.out.1; have hk1 := HK.out.2
      have e1 : (sa.size : Int) ≤ 20000 := by omega
      have e2 : (sb.size : Int) ≤ 20000 := by omega
      have e3 : (sa.size : Int) + (sb.size : Int) ≤ 20000 := by omega
      have HFin : Hid (∀ W, Below wr.heap.size wr W → Below w.heap.size w W) := fun W hW => HF.out.1.trans ((HA.out.below hW).low.mono HF.out.1.size)
      have HAa : Hid (∀ W, Below wr.heap.size wr W → Calls Try.prog 27 #[dp d, .string ⟨#[97]⟩] W fun x w' => x = .returned (.string sa) ∧ Below wr.heap.size wr w') := fun W hW => (at_all (HA.out.below hW) sA (by decide) (by decide) (f := f) (by rw [HI.out.pres]; exact DB_a f g)).mono fun x w' hx => ⟨by rw [hx.1, HI.out.one, str_eq], hW.trans (hx.2.mono hW.size)⟩
      have HAb : Hid (∀ W, Below wr.heap.size wr W → Calls Try.prog 27 #[dp d, .string ⟨#[98]⟩] W fun x w' => x = .returned (.string sb) ∧ Below wr.heap.size wr w') := fun W hW => (at_all (HA.out.below hW) sB (by decide) (by decide) (f := g) (by rw [HI.out.pres]; exact DB_b f g)).mono fun x w' hx => ⟨by rw [hx.1, HI.out.two, str_eq], hW.trans (hx.2.mono hW.size)⟩
      have HLf : Hid (∀ W, Below wr.heap.size wr W → Calls Try.prog 16 #[dp d] W fun x w' => x = .returned (.int .i64 (30000 - (sa.size : Int) - (sb.size : Int))) ∧ Below wr.heap.size wr w') := fun W hW => (at_left (HA.out.below hW)).mono fun x w' hx => ⟨by rw [hx.1, HI.out.left f g HNe.out, len_data, len_data, show ((30000 - (sa.size + sb.size) : Nat) : Int) = 30000 - (sa.size : Int) - (sb.size : Int) by omega], hW.trans (hx.2.mono hW.size)⟩
      have HFn : Hid (S.len f = sa.size) := by show _ = _; rw [HI.out.len_a f g HNe.out, len_data]
      have HBy : Hid ((S.file f).bytes = sa.data.toList) := HI.out.one
      have HPr : Hid (look S.pres [97] = some f) := by show _ = _; rw [HI.out.pres]; exact DB_a f g
      have HP := Lib.hid hp; have HQ := Lib.hid hq
      clear hp hq HI HZ HVS HSum HT HL HL' hzz i3
      by_cases hs : sa.size < p + q
      · have j1 : (sa.size : Int) - (p : Int) < (q : Int) := by omega
        clear hs
        have HRd := Lib.hid (at_read_short HA.out sA (by decide) (by decide) p q (by omega) HPr.out (by rw [HFn.out]; omega))
        go_wp2_with fail
        refine HRd.out.mono ?_
        rintro x w14 ⟨rfl, hb14⟩
        have HB := Lib.hid hb14; clear hb14 c0 c1
        go_wp2_with fail
        refine (HAa.out w14 HB.out).mono ?_
        rintro x w15 ⟨rfl, hb⟩
        have HB := Lib.hid hb; clear hb
        go_wp2_with fail
        refine (HAb.out w15 HB.out).mono ?_
        rintro x w16 ⟨rfl, hb⟩
        have HB := Lib.hid hb; clear hb
        go_wp2_with fail
        refine (HLf.out w16 HB.out).mono ?_
        rintro x w17 ⟨rfl, hb⟩
        have HB := Lib.hid (HFin.out _ hb); clear hb
        go_wp2
        go_ret
        exact ⟨rfl, HB.out⟩
      · have j1 : (q : Int) ≤ (sa.size : Int) - (p : Int) := by omega
        have hs2 : p + q ≤ sa.size := by omega
        clear hs
        have HRd := Lib.hid (at_read HA.out sA (by decide) (by decide) p q (by omega) HPr.out (by rw [HFn.out]; omega))
        go_wp2_with fail
        refine HRd.out.mono ?_
        rintro x w14 ⟨A9, c9, rfl, hl9, hb14⟩
        have HB := Lib.hid hb14; clear hb14 c0 c1
        rw [HBy.out] at hl9
        have hst : ∀ m, (convert 22 9 (.slice A9 q c9)).run Try.prog (w14.drewN m) = .ok (.string (sa.extract p (p + q))) (w14.drewN m) := fun m => by
          have := run_str (P := Try.prog) (w14.drewN m) 22 9 5 Try.underlying22 Try.underlying5 Try.underlying9 c9 (hl9.drewN m)
          rw [this]
          congr 2
          refine txt_same ?_
          rw [Lib.extract_data, show p + q - p = q by omega]
        have hsl : ∀ W, (Instr.slice 9 (.string sa) (some (.int .i64 (p : Int))) (some (.int .i64 ((p : Int) + (q : Int)))) none).run Try.prog W = .ok (.string (sa.extract p (p + q))) W := fun W => by
          rw [run_slice_string_if W _ _ _ _ _ _ Try.underlying9, if_pos ⟨by omega, by omega⟩, if_pos ⟨by omega, by omega⟩, show ((p : Int) + (q : Int)).toNat = p + q by omega]
          rfl
        have hwr : IntKind.i64.wrap ((p : Int) + (q : Int)) = (p : Int) + (q : Int) := (IntWalk.i64_left _).trans (IntWalk.wrap64_in _ ⟨by omega, by omega⟩)
        have HBq : Hid (∀ nq, Below wr.heap.size wr (w14.drewN nq)) := fun nq => below_drewN HB.out nq
        clear hl9 HB
        go_wp2
        go_quiet (fail)
        go_wp2_with fail
        refine (HAa.out _ (HBq.out _)).mono ?_
        rintro x w15 ⟨rfl, hb⟩
        have HB := Lib.hid hb; clear hb
        go_wp2_with fail
        refine (HAb.out w15 HB.out).mono ?_
        rintro x w16 ⟨rfl, hb⟩
        have HB := Lib.hid hb; clear hb
        go_wp2_with fail
        refine (HLf.out w16 HB.out).mono ?_
        rintro x w17 ⟨rfl, hb⟩
        have HB := Lib.hid (HFin.out _ hb); clear hb
        go_wp2
        go_ret
        exact ⟨rfl, HB.out⟩

set_option maxHeartbeats 2000000 in
theorem filesBytes_big (A : Option Addr) (n c : Nat) (A' : Option Addr) (n' c' : Nat) (k0 k1 : Nat) (w : World) (hn : n ≤ 140737488351232) (hn' : n' ≤ 140737488351232)
    (hcase : 30 < n ∨ n' ≠ n ∨ ∀ W : World, Below w.heap.size w W → Calls Try.prog 29 #[.slice A n c] W fun e w' => ∃ v : Nat, e = .returned (.int .i64 (v : Int)) ∧ 20000 < v ∧ v ≤ 281474976710656 ∧ w' = W) :
    Calls Try.prog 5 #[.slice A n c, .slice A' n' c', .agg #[.int .u16 (k0 : Int), .int .u16 (k1 : Int)]] w fun e w' => e = .returned (.bool true) ∧ Below w.heap.size w w' := by
  have HF := Lib.hid (kc1_facts k0 k1 w)
  have HCs := Lib.hid hcase
  clear hcase
  go_enter Try.func5, Try.ntmps5
  go_wp2_with fail
  change Calls _ _ _ (kc1 k0 k1 w) _
  generalize kc1 k0 k1 w = W0 at *
  refine (alive5_any W0).mono ?_
  rintro x w1 ⟨rfl, hb1⟩
  have HB1 := Lib.hid hb1; clear hb1
  have HBw := Lib.hid (HF.out.1.trans (HB1.out.mono HF.out.1.size))
  by_cases h1 : 30 < n
  · have i2 : (30 : Int) < (n : Int) := by omega
    go_wp2_with fail
    refine (alive5_any w1).mono ?_
    rintro x w2 ⟨rfl, hb2⟩
    have HB := Lib.hid (HBw.out.trans (hb2.mono HBw.out.size))
    clear hb2
    go_wp2
    go_ret
    exact ⟨rfl, HB.out⟩
  · have i2 : (n : Int) ≤ 30 := by omega
    by_cases h2 : n' = n
    · have HT := Lib.hid ((HCs.out.resolve_left h1).resolve_left (fun h => h h2))
      subst h2
      go_wp2_with fail
      refine (HT.out w1 HBw.out).mono ?_
      rintro x w1' ⟨v, rfl, hv, hv2, hw1⟩
      obtain rfl := hw1.symm
      have i3 : (20000 : Int) < (v : Int) := by omega
      go_wp2_with fail
      refine (alive5_any w1).mono ?_
      rintro x w2 ⟨rfl, hb2⟩
      have HB := Lib.hid (HBw.out.trans (hb2.mono HBw.out.size))
      clear hb2
      go_wp2
      go_ret
      exact ⟨rfl, HB.out⟩
    · have i4 : ((n' : Int) != (n : Int)) = true := by simp; omega
      have i5 : (n' != n) = true := by simp; omega
      go_wp2_with fail
      refine (alive5_any w1).mono ?_
      rintro x w2 ⟨rfl, hb2⟩
      have HB := Lib.hid (HBw.out.trans (hb2.mono HBw.out.size))
      clear hb2
      go_wp2
      go_ret
      exact ⟨rfl, HB.out⟩

theorem filesBytes_walk (A : Option Addr) (n c : Nat) (l : List ByteArray) (A' : Option Addr) (n' c' : Nat) (lt : List Bool) (k0 k1 : Nat) (w : World) (y : Lies w w.heap.size 1 A n (l.map Value.string)) (hu : ∀ s ∈ l, s.size ≤ 140737488351232) (hnc : n ≤ c) (hc : c ≤ 140737488351232)
    (y' : Lies w w.heap.size 1 A' n' (lt.map Value.bool)) (hnc' : n' ≤ c') (hc' : c' ≤ 140737488351232) (hk0 : k0 < 65536) (hk1 : k1 < 65536) :
    Calls Try.prog 5 #[.slice A n c, .slice A' n' c', .agg #[.int .u16 (k0 : Int), .int .u16 (k1 : Int)]] w fun e w' => e = .returned (.bool true) ∧ Below w.heap.size w w' := by
  by_cases h1 : 30 < n
  · exact filesBytes_big A n c A' n' c' k0 k1 w (by omega) (by omega) (.inl h1)
  by_cases h2 : n' = n
  · subst h2
    have hts := fun (W : World) (hW : Below w.heap.size w W) => textsSize_any A n' c W.heap.size l W ((y.below hW).more hW.size) hu (by omega)
    by_cases h3 : n' + (sizes l).sum ≤ 20000
    · exact filesBytes_small A n' c l A' c' lt k0 k1 w y y' hk0 hk1 (by omega) (fun W hW => (hts W hW).mono fun e w' ⟨v, he, h4, h5, _, h6⟩ => by
        have : v = n' + (sizes l).sum := h4 (by omega)
        exact ⟨by rw [he, this], h6.symm⟩) h3
    · exact filesBytes_big A n' c A' n' c' k0 k1 w (by omega) (by omega) (.inr (.inr fun W hW => (hts W hW).mono fun e w' ⟨v, he, h4, h5, h7, h6⟩ => ⟨v, he, by
        by_cases hv : v ≤ 1048576
        · have := h4 hv; omega
        · omega, h7, h6.symm⟩))
  · exact filesBytes_big A n c A' n' c' k0 k1 w (by omega) (by omega) (.inr (.inl h2))
end Go.Proofs.Yteelmgmigfeabaa
