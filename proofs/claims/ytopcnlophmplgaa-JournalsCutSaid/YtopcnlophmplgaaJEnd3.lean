/-
  bucketlinelaw06's alive answers true.
  What the laws of layer 6 share: how long what is written is; lists of records.
-/
import Derived.Test.YtopcnlophmplgaaJEnd2
import Derived.Test.YtopcnlophmplgaaCopy
import Derived.Lib.SlBytesConst
import Derived.Test.YtopcnlophmplgaaRecs
namespace Go.Proofs.Ytopcnlophmplgaa
open Go.RowKit Go.Maps Go.Sort
set_option linter.unusedVariables false
set_option linter.unusedSimpArgs false
set_option maxRecDepth 100000

theorem mkZ_ex (w : World) (n : Nat) (b : n ≤ 1099511627776) : ∃ w', (Instr.makeSlice 33 (.int .i64 (n : Int)) (.int .i64 (n : Int))).run Try.prog w = .ok (.slice (some ⟨w.heap.size, 0, none⟩) n n) w' ∧
    Lies w' w'.heap.size 1 (some ⟨w.heap.size, 0, none⟩) n ((List.replicate n (0 : UInt8)).map bv) ∧ Below w.heap.size w w' := by
  obtain ⟨i0, hi, hz0, hz1, hz2⟩ := info_parts byte_info
  obtain ⟨w', hrun, r1, r2⟩ := run_make_full (P := Try.prog) (w := w) w.heap.size 33 5 i0 _ 1 Try.underlying33 hi hz0 hz1 .i64 .i64 n (by rw [hz2]; omega) (by unfold maxLen; omega) (Nat.le_refl _)
  have e : (madeCells (Value.int .u8 0).cells (n * 1)).toList = (List.replicate n (0 : UInt8)).map bv := by
    rw [Nat.mul_one]
    refine (toList_madeCells_one (.int .u8 0) n).trans ?_
    rw [List.map_replicate]; rfl
  rw [e] at r1
  exact ⟨w', hrun, Lies.of_own r1, (Below.refl _ _).grown r2 (Nat.le_refl _) (fun k e => by cases e)⟩
/-- the memory behind 'make([]byte, n)' -/
noncomputable def mkZ (w : World) (n : Nat) : World := if h : n ≤ 1099511627776 then (mkZ_ex w n h).choose else w
theorem mkZ_is (w : World) (n : Nat) (b : n ≤ 1099511627776) : (Instr.makeSlice 33 (.int .i64 (n : Int)) (.int .i64 (n : Int))).run Try.prog w = .ok (.slice (some ⟨w.heap.size, 0, none⟩) n n) (mkZ w n) ∧
    Lies (mkZ w n) (mkZ w n).heap.size 1 (some ⟨w.heap.size, 0, none⟩) n ((List.replicate n (0 : UInt8)).map bv) ∧ Below w.heap.size w (mkZ w n) := by
  unfold mkZ
  rw [dif_pos b]
  exact (mkZ_ex w n b).choose_spec

theorem wr_len1 : (Jr.wr 0 []).length = 7 := by
  unfold Jr.wr
  rw [show Jr.nextP 0 = 0 from by decide, Jr.enc_last true (by decide), Jr.bytesOf_cons, List.length_append, List.length_append, Jr.partB_len]
  rfl
theorem wr_len2 : (Jr.wr 7 [97]).length = 8 := by
  unfold Jr.wr
  rw [show Jr.nextP 7 = 7 from by decide, Jr.enc_last true (by decide), Jr.bytesOf_cons, List.length_append, List.length_append, Jr.partB_len]
  rfl
theorem wr_len3 (r : List UInt8) (hr : r.length = 200) : (Jr.wr 15 r).length = 214 := by
  unfold Jr.wr
  have h1 : Jr.room 15 = 113 := by decide
  rw [show Jr.nextP 15 = 15 from by decide, Jr.enc_more true (by rw [h1, hr]; decide) (by rw [h1]; decide), Jr.bytesOf_cons, List.length_append, List.length_append, Jr.partB_len,
    Jr.enc_last false (by rw [Jr.room_add, List.length_drop, h1, hr]; decide), Jr.bytesOf_cons, List.length_append, Jr.partB_len, List.length_take, List.length_drop, h1, hr]
  rfl
theorem reads_tail {f : List UInt8} {rs : List (List UInt8)} (h : Jr.WF f rs) (g : List UInt8) (hg : g.length < 7) : Jr.Reads (f ++ g) rs f.length := by
  obtain ⟨ps, hp, hs⟩ := h
  have hge := Jr.next_ge f.length
  refine ⟨ps, f.length, _, hp.more (List.prefix_append _ _), hs, rfl, rfl, .inl (Jr.getP_none ?_)⟩
  rw [List.length_append]; omega

theorem one_lits (w : World) (x : UInt8) (t : TypeId) : Lies (w.alloc (.cells #[bv x] t (0, 0))) (w.alloc (.cells #[bv x] t (0, 0))).heap.size 1 (some ⟨w.heap.size, 0, none⟩) 1 ([x].map bv) := lits_bytes w [x] t (0, 0)

set_option maxHeartbeats 8000000 in
theorem alive6_any (w : World) : Calls Try.prog 11 #[] w fun e w' => e = .returned (.bool true) ∧ Below w.heap.size w w' := by
  have kc := fun (w : World) (C : Array Value) (n c : Nat) => Lib.run_convert_bytes_const (P := Try.prog) w 33 5 C n c Try.underlying33 Try.underlying5
  have hm1 : ∀ w, (Instr.makeSlice 33 (.int .i64 200) (.int .i64 200)).run Try.prog w = .ok (.slice (some ⟨w.heap.size, 0, none⟩) 200 200) (mkZ w 200) := fun w => (mkZ_is w 200 (by decide)).1
  have hm2 : ∀ w, (Instr.makeSlice 33 (.int .i64 65537) (.int .i64 65537)).run Try.prog w = .ok (.slice (some ⟨w.heap.size, 0, none⟩) 65537 65537) (mkZ w 65537) := fun w => (mkZ_is w 65537 (by decide)).1
  have HO := Lib.hid (opened_any (Below.refl w.heap.size w))
  go_enter Try.func11, Try.ntmps11
  go_wp2_with fail
  refine HO.out.mono ?_
  rintro x w1 ⟨d, p, f, rfl, hJ⟩
  have HJ := Lib.hid hJ; clear hJ HO
  go_wp2_with fail
  refine (jn_add HJ.out none 0 0 [] (Lies.none_ _ _ _ _) (by decide) (by decide) (by decide) (by show 0 + (Jr.wr 0 []).length ≤ 1000000; rw [wr_len1]; decide)).mono ?_
  rintro x w2 ⟨rfl, hJ⟩
  obtain ⟨b1, hb1⟩ : ∃ b1, [] ++ Jr.wr ([] : List UInt8).length [] = b1 := ⟨_, rfl⟩
  have hl1 : b1.length = 7 := by rw [← hb1]; exact wr_len1
  generalize (S1 f).append f _ = S2 at hJ
  rw [hb1] at hJ
  have HJ := Lib.hid hJ; clear hJ hb1
  go_wp2_with fail
  refine (jn_add (HJ.out.below (below_a (Below.refl _ w2) _)) (some ⟨w2.heap.size, 0, none⟩) 1 1 [97] (lits_bytes w2 [97] _ _) (by decide) (by decide) (by decide) (by rw [hl1, wr_len2]; decide)).mono ?_
  rintro x w3 ⟨rfl, hJ⟩
  obtain ⟨b2, hb2⟩ : ∃ b2, b1 ++ Jr.wr b1.length [97] = b2 := ⟨_, rfl⟩
  have hl2 : b2.length = 15 := by rw [← hb2, List.length_append, hl1, wr_len2]
  generalize S2.append f _ = S3 at hJ
  rw [hb2] at hJ
  have HJ := Lib.hid hJ; clear hJ hb2 hl1
  have HZ := Lib.hid (jn_size HJ.out)
  rw [hl2] at HZ
  go_wp2_with fail
  refine HZ.out.mono ?_
  rintro x w4 ⟨rfl, hb⟩
  have HJ := Lib.hid (HJ.out.below hb); clear hb HZ
  go_wp2_with fail
  refine (jn_open HJ.out).mono ?_
  rintro x w5 ⟨p2, A2, c2, rs, rfl, hrs, hl, hg, _, hb⟩
  obtain ⟨r0, r1, rfl, h0, h1⟩ : ∃ r0 r1 : Rcd, rs = [r0, r1] ∧ r0.l = [] ∧ r1.l = [97] := by
    match rs, hrs with
    | [r0, r1], hrs =>
      injection hrs with h0 hrs
      injection hrs with h1 hrs
      exact ⟨r0, r1, rfl, h0, h1⟩
  have HJ := Lib.hid (HJ.out.below hb)
  obtain ⟨g, o, rfl, ha⟩ : ∃ g o, A2 = some ⟨g, o, none⟩ ∧ w5.cell? ⟨g, o + 0, none⟩ = some (.slice r0.A 0 r0.c) := by
    obtain ⟨g, o, r, rfl, _, hr, hc⟩ := hl.rcd (k := 0) (by decide)
    injection hr with hr; subst hr
    have e := (hg r0 (by simp)).1.blen
    rw [h0] at e
    exact ⟨g, o, rfl, by rw [hc]; rw [← e]; rfl⟩
  have hc1 : w5.cell? ⟨g, o + 1, none⟩ = some (.slice r1.A 1 r1.c) := by
    obtain ⟨g', o', r, e0, _, hr, hc⟩ := hl.rcd (k := 1) (by decide)
    injection e0 with e0; injection e0 with e1 e2; subst e1 e2
    injection hr with hr; subst hr
    have e := (hg r1 (by simp)).1.blen
    rw [h1] at e
    rw [hc, ← e]; rfl
  have hst : (convert 33 9 (.slice r1.A 1 r1.c)).run Try.prog w5 = .ok (.string ⟨#[97]⟩) w5 := by
    have L := (hg r1 (by simp)).1
    have e := L.blen
    rw [h1] at e L
    rw [← e] at L
    exact run_str w5 33 9 5 Try.underlying33 Try.underlying5 Try.underlying9 r1.c L
  clear hb hl hg hrs h0 h1
  have hc0 : w5.cell? ⟨g, o, none⟩ = some (.slice r0.A 0 r0.c) := ha
  clear ha
  go_wp2_with fail
  refine (jn_add (HJ.out.below (mkZ_is w5 200 (by decide)).2.2) (some ⟨w5.heap.size, 0, none⟩) 200 200 (List.replicate 200 0) (mkZ_is w5 200 (by decide)).2.1 (by decide) (by decide) (by decide) (by rw [hl2, wr_len3 _ (by rw [List.length_replicate])]; decide)).mono ?_
  clear hst hc0 hc1
  rintro x w6 ⟨rfl, hJ⟩
  obtain ⟨b3, hb3⟩ : ∃ b3, b2 ++ Jr.wr b2.length (List.replicate 200 0) = b3 := ⟨_, rfl⟩
  have hl3 : b3.length = 229 := by rw [← hb3, List.length_append, hl2, wr_len3 _ (by rw [List.length_replicate])]
  generalize S3.append f _ = S4 at hJ
  generalize hrs : ([] ++ [[]] ++ [[97]] ++ [List.replicate 200 0] : List (List UInt8)) = rs at hJ
  have hrl : rs.length = 3 := by rw [← hrs]; rfl
  rw [hb3] at hJ
  have HJ := Lib.hid hJ; clear hJ hb3 hl2 hrs
  have HZ := Lib.hid (jn_size HJ.out)
  rw [hl3] at HZ
  go_wp2_with fail
  refine HZ.out.mono ?_
  rintro x w7 ⟨rfl, hb⟩
  have HJ := Lib.hid (HJ.out.below hb); clear hb HZ
  go_wp2_with fail
  refine (jn_sync HJ.out).mono ?_
  rintro x w8 ⟨rfl, hJ⟩
  generalize S4.sync f = S5 at hJ
  have HJ := Lib.hid hJ; clear hJ
  go_wp2_with fail
  refine (add_limit (HJ.out.below (mkZ_is w8 65537 (by decide)).2.2).at_ _ 65537 65537 (by decide) (by decide)).mono ?_
  rintro x w9 ⟨rfl, hw⟩
  have HJ : Hid (Jn w w9 d p f S5 b3 rs) := by rw [hw]; exact HJ.out.below (mkZ_is w8 65537 (by decide)).2.2
  clear hw
  go_wp2_with fail
  have HP := Lib.hid (p_append (HJ.out.below (below_a (Below.refl _ w9) (.cells #[.int .u8 0] 5))).at_ jn (by decide) (by decide) (some ⟨w9.heap.size, 0, none⟩) 1 1 [0] (lits_bytes w9 [0] _ _) HJ.out.key ⟨by rw [HJ.out.left, hl3]; decide, by rw [HJ.out.len, hl3]; decide⟩)
  refine HP.out.mono ?_
  rintro x w10 ⟨rfl, hA⟩
  have hkey : look (S5.append f [0]).pres jn.data.toList = some f := HJ.out.key
  have hfile : ((S5.append f [0]).file f).bytes = b3 ++ [0] := by
    show ((upd S5.file f ⟨(S5.file f).bytes ++ [0], (S5.file f).sure⟩) f).bytes = _
    rw [upd_same, HJ.out.file]
  have hlen : (S5.append f [0]).len f = 230 := by
    show ((S5.append f [0]).file f).bytes.length = 230
    rw [hfile, List.length_append, hl3]; rfl
  have hR := Lib.hid (reads_tail HJ.out.wf [0] (by decide))
  generalize (S5.append f [0]) = S6 at *
  have HA := Lib.hid hA; have HK := Lib.hid hkey; have HF := Lib.hid hfile; have HL := Lib.hid hlen
  clear hA hkey hfile hlen HP HJ
  go_wp2_with fail
  refine (add_state (HA.out.below (below_a (Below.refl _ w10) _)) (some ⟨w10.heap.size, 0, none⟩) 1 1 (by decide) (by decide) (by decide) HK.out (by rw [HL.out, hl3]; decide)).mono ?_
  rintro x w11 ⟨rfl, hb⟩
  have HA := Lib.hid ((HA.out.below (below_a (Below.refl _ w10) _)).below hb)
  clear hb
  go_wp2_with fail
  refine (open_has HA.out.at_ jn (by decide) (by decide) HK.out (by rw [HL.out]; decide)).mono ?_
  rintro x w12 ⟨p3, vr, rs', fin, rfl, hr, hrec, hJ, hb, _⟩
  rw [HF.out] at hr
  obtain ⟨hrs, rfl⟩ := hr.one hR.out
  obtain ⟨A3, c3, rfl, _⟩ := own_shape hrec.row
  have hn3 : rs'.length = 3 := by rw [← hrl, ← hrs, List.length_map]
  rw [hn3]
  have HJ := Lib.hid hJ
  clear hr hrs hrec hJ hb
  go_wp2_with fail
  refine (add_state (HJ.out.below (below_a (Below.refl _ w12) _)) (some ⟨w12.heap.size, 0, none⟩) 1 1 (by decide) (by decide) (by decide) HK.out (by rw [HL.out, hl3]; decide)).mono ?_
  rintro x w13 ⟨rfl, hb⟩
  have HB := Lib.hid ((HJ.out.below (below_a (Below.refl _ w12) _)).below hb).low
  clear hb
  go_wp2
  go_ret
  exact ⟨rfl, HB.out⟩
end Go.Proofs.Ytopcnlophmplgaa

namespace Go.Proofs.Ytopcnlophmplgaa
open Go.RowKit Go.Maps Go.Sort
set_option linter.unusedVariables false
set_option maxRecDepth 100000

theorem wr_len_le (n : Nat) (r : List UInt8) : (Jr.wr n r).length ≤ 8 * r.length + 14 := by
  unfold Jr.wr
  have h1 := Jr.enc_len true (Jr.nextP n) r (Jr.room_next n)
  have h2 := Jr.next_ge n
  rw [List.length_append, List.length_replicate]
  omega
theorem run_headR (w : World) (A : Option Addr) (n c h : Nat) (h3 : h ≤ c) :
    (Instr.slice 22 (.slice A n c) none (some (.int .i64 (h : Int))) none).run Try.prog w = .ok (.slice A h c) w := by
  obtain ⟨i0, hi, hz0, hz1, hz2⟩ := info_parts slice_info
  unfold Instr.slice
  simp [run_underlying Try.underlying22, Instr.sliceBounds, Instr.sliceBound, asIntOf, sizeOf, typeInfo, hi, h3]
  cases A <;> simp [Addr.add]
/-- records are the same as those that lie elsewhere -/
theorem sameR_yes {w : World} {A A2 : Option Addr} {n c c2 : Nat} {l l2 : List Rcd} (h1 : Lies w w.heap.size 1 A n (l.map Rcd.v)) (h2 : Lies w w.heap.size 1 A2 n (l2.map Rcd.v)) (g1 : ∀ r ∈ l, Lies w w.heap.size 1 r.A r.n (r.l.map bv) ∧ r.n ≤ 4611686018427387904) (g2 : Rcds w w.heap.size l2) (hn : n ≤ 4611686018427387904) (e : l.map Rcd.l = l2.map Rcd.l) :
    Calls Try.prog 20 #[.slice A n c, .slice A2 n c2] w fun e w' => e = .returned (.bool true) ∧ Below w.heap.size w w' :=
  (sameR_any A A2 n n c c2 w.heap.size l l2 w h1 h2 g1 (fun r hr => (g2 r hr).1) hn).mono fun x w' ⟨hx, q, hw⟩ => ⟨by rw [hx]; unfold sameR; simp [e], by rw [hw]; exact below_drewN (Below.refl _ _) q⟩
/-- the first of them -/
theorem Rcds.take {w : World} {B : Nat} {rs : List Rcd} (h : Rcds w B rs) (k : Nat) : Rcds w B (rs.take k) := fun r hr => h r (List.mem_of_mem_take hr)
theorem lies_takeR {w : World} {B n k : Nat} {A : Option Addr} {rs : List Rcd} (h : Lies w B 1 A n (rs.map Rcd.v)) (hk : k ≤ n) : Lies w B 1 A k ((rs.take k).map Rcd.v) := by
  rw [List.map_take]; exact h.take_ hk
theorem rsum_take_le (rs : List Rcd) (k : Nat) : rsum (rs.take k) ≤ rsum rs := by
  have : rsum rs = rsum (rs.take k) + rsum (rs.drop k) := by unfold rsum; rw [← List.sum_append, ← List.map_append, List.take_append_drop]
  omega
set_option maxHeartbeats 1000000 in
theorem recordsSize_is (A : Option Addr) (n c : Nat) (rs : List Rcd) (w : World) (h : Lies w w.heap.size 1 A n (rs.map Rcd.v)) (hr : Rcds w w.heap.size rs) (hnc : n ≤ 140737488351232) :
    Calls Try.prog 12 #[.slice A n c] w fun e w' => ∃ z : Nat, e = .returned (.int .i64 (z : Int)) ∧ w = w' ∧ (z ≤ 1048576 → z = n + rsum rs) ∧ z ≤ 140737489399808 ∧ z ≤ n + rsum rs := by
  have HN := Lib.hid h; clear h
  have HR := Lib.hid hr; clear hr
  go_enter Try.func12, Try.ntmps12
  go_wp2
  go_loop [3, 4] (fun t i => ∃ k : Nat, k ≤ n ∧ i = .int .i64 (k : Int) ∧ t = .int .i64 ((n + rsum (rs.take k) : Nat) : Int) ∧ n + rsum (rs.take k) ≤ 140737489399808) (fun _ i => n - (intOf i).toNat)
  case atStart => exact ⟨0, Nat.zero_le _, rfl, by simp [rsum], by simp [rsum]; omega⟩
  case round =>
    obtain ⟨k, hk, rfl, rfl, hle⟩ := hrel
    by_cases hlt : k < n
    · obtain ⟨b, o, r, rfl, hbB, hu, hcell0⟩ := HN.out.rcd hlt
      have hrn := (HR.out r (List.mem_of_getElem? hu)).2
      have HS := Lib.hid (rsum_take rs k r hu)
      clear hu
      generalize hs : n + rsum (rs.take k) = s at *
      have HSS := Lib.hid hs
      clear hs
      by_cases hbig : 1048576 < s
      · have hd : decide ((s : Int) ≤ 1048576) = false := by simp; omega
        go_wp2
        go_ret
        exact ⟨s, rfl, rfl, (fun h => by omega), hle, by rw [← HSS.out]; have := rsum_take_le rs k; omega⟩
      · have hd : decide ((s : Int) ≤ 1048576) = true := by simp; omega
        go_wp2_with (go_at_call 35; refine (bytesSize_any r.A r.n r.c _).mono ?_; rintro e w' ⟨rfl, rfl⟩)
        go_round
        case rel => exact ⟨k + 1, hlt, by go_num, by rw [HS.out]; have := HSS.out; congr 1; omega, by rw [HS.out]; have := HSS.out; omega⟩
        case measure => simp [intOf]; omega
    · obtain rfl : n = k := by omega
      have hb : rs.take n = rs := List.take_of_length_le (by have := HN.out.rlen; omega)
      rw [hb] at hle ⊢
      obtain ⟨s, hs⟩ : ∃ s, n + rsum rs = s := ⟨_, rfl⟩
      rw [hs] at hle ⊢
      have HSS := Lib.hid hs
      clear hs
      go_wp2
      go_ret
      exact ⟨s, rfl, rfl, fun _ => HSS.out.symm, hle, by rw [HSS.out]; exact Nat.le_refl _⟩
end Go.Proofs.Ytopcnlophmplgaa

