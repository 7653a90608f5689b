/-
  The walk of JournalsTurned.
-/
import Derived.Test.YtbpdonnneleeeaaJEnd4
namespace Go.Proofs.Ytbpdonnneleeeaa
open Go.RowKit Go.Maps Go.Sort
set_option linter.unusedVariables false
set_option maxRecDepth 100000

theorem gone_oneT (k : List UInt8) (b : Nat) : (DataW.map [((.string k : Lit), (.lit (.int .u64 (b : Int)) : DataW Unit))] : Dir).del (.string k) = .map [] := by
  show (DataW.map (([((.string k : Lit), (.lit (.int .u64 (b : Int)) : DataW Unit))]).filter fun e => !e.1.sameKey (.string k)) : Dir) = .map []
  rw [List.filter_cons, if_neg (by rw [WideAt.sameKey_self (isKey k)]; decide)]
  rfl
/-- what holds ahead of each round of the first loop -/
def TurnRel (w : World) (d p f n : Nat) (rs : List Rcd) (K : Nat) (at_ i : Value) (wr : World) : Prop :=
  ∃ (i0 a : Nat) (S : St), i = .int .i64 (i0 : Int) ∧ at_ = .int .i64 (a : Int) ∧ i0 ≤ n ∧ Jn w wr d p f S (BU rs i0) ((rs.take i0).map Rcd.l) ∧ (i0 ≤ K → a = 0) ∧ (K < i0 → a = (BU rs K).length)

set_option maxHeartbeats 16000000 in
theorem journalsTurned_all (A : Option Addr) (n c m1 bits : Nat) (rs : List Rcd) (w : World) (y : Lies w w.heap.size 1 A n (rs.map Rcd.v)) (u : Rcds w w.heap.size rs) (hnc : n ≤ c) (hm1 : m1 < 256) (hbits : bits < 4294967296)
    (h1 : n ≤ 20) (h3 : n + rsum rs ≤ 2000) (hn0 : 0 < n) (hb0 : bits ≠ 0) :
    Calls Try.prog 7 #[.slice A n c, .int .u8 (m1 : Int), .int .u32 (bits : Int)] w fun e w' => e = .returned (.bool true) ∧ Below w.heap.size w w' := by
  have Y := Lib.hid y; have U := Lib.hid u; have hrl := y.rlen
  clear y u
  have i1 : (n : Int) ≤ 20 := by omega
  have i4 : ((n : Int) == 0) = false := by simp; omega
  have i5 : ((bits : Int) == 0) = false := by simp; omega
  go_enter Try.func7, Try.ntmps7
  go_wp2_with fail
  refine (alive6_any w).mono ?_
  rintro x w1 ⟨rfl, hb1⟩
  have HB := Lib.hid hb1; clear hb1
  go_wp2_with fail
  refine (recordsSize_is A n c rs w1 ((Y.out.below HB.out).more HB.out.size) ((U.out.below HB.out).more HB.out.size) (by omega)).mono ?_
  rintro x w2 ⟨z, rfl, hw, hz, hz2, hz3⟩
  obtain rfl := hw.symm
  obtain rfl : z = n + rsum rs := hz (by omega)
  have i2 : ((n + rsum rs : Nat) : Int) ≤ 2000 := by omega
  clear hz hz2 hz3
  have HO := Lib.hid (opened_any HB.out)
  go_wp2_with fail
  refine HO.out.mono ?_
  rintro x w3 ⟨d, p, f, rfl, hJ⟩
  have HJ := Lib.hid hJ
  clear hJ HO HB
  obtain ⟨K, hK, hKn⟩ : ∃ K : Nat, (m1 : Int) % (n : Int) = (K : Int) ∧ K < n := ⟨m1 % n, (Int.natCast_emod m1 n).symm, Nat.mod_lt m1 hn0⟩
  have hK2 : Int.tmod (m1 : Int) (n : Int) = (K : Int) := by rw [Int.tmod_eq_emod_of_nonneg (by omega)]; exact hK
  have hw1 : IntKind.i64.wrap (m1 : Int) = (m1 : Int) := (IntWalk.i64_left _).trans (IntWalk.wrap64_in _ ⟨by omega, by omega⟩)
  have HR : Hid (TurnRel w d p f n rs K (.int .i64 0) (.int .i64 0) w3) := ⟨0, 0, _, rfl, rfl, by omega, HJ.out, fun _ => rfl, fun h => by omega⟩
  clear HJ
  go_wp2
  go_loopw [10, 11] (fun a i wr => TurnRel w d p f n rs K a i wr) (fun _ i _ => n - (intOf i).toNat)
  case atStart => exact HR.out
  case round =>
    clear HR
    obtain ⟨i0, a, S, rfl, rfl, hi0, hJ, ha1, ha2⟩ := hrel
    have HZ := Lib.hid (jn_size hJ)
    have HJ := Lib.hid hJ
    obtain ⟨L, hL⟩ : ∃ L, (BU rs i0).length = L := ⟨_, rfl⟩
    rw [hL] at HZ
    clear hJ
    by_cases hlt : i0 < n
    · have j5 : (i0 : Int) < (n : Int) := by omega
      go_wp2_with fail
      refine HZ.out.mono ?_
      rintro x w4 ⟨rfl, hb⟩
      have HJ := Lib.hid (HJ.out.below hb)
      clear hb HZ
      obtain ⟨g, o, r, rfl, hg, hr, hcell⟩ := Y.out.rcd hlt
      have hmem := List.mem_of_getElem? hr
      have HRb := Lib.hid (U.out r hmem)
      have hlow := HJ.out.low
      have hcW := (hlow.cell hg).trans hcell
      have hrl2 := U.out.len hmem
      have hw8 := wr_len_le (BU rs i0).length r.l
      have hbl := BU_len rs (fun r hr => U.out.len hr) i0
      have hsz : rsum (rs.take i0) + r.n ≤ 2000 := by
        have := rsum_take_le rs (i0 + 1)
        rw [rsum_take rs i0 r hr] at this; omega
      have HAd := Lib.hid (jn_add HJ.out r.A r.n r.c r.l ((HRb.out.1.below hlow).more hlow.size) (by omega) HRb.out.2.1 (by have := HRb.out.2; omega) (by omega))
      have HBn := Lib.hid (BU_next hr)
      have HT2 : Hid ((rs.take (i0 + 1)).map Rcd.l = (rs.take i0).map Rcd.l ++ [r.l]) := by
        show _ = _
        rw [List.take_add_one, hr]; simp
      clear hlow hg hcell hr hmem
      go_wp2_with fail
      refine HAd.out.mono ?_
      rintro x w9 ⟨rfl, hJ⟩
      have HN : Hid (Jn w w9 d p f (S.append f (Jr.wr (BU rs i0).length r.l)) (BU rs (i0 + 1)) ((rs.take (i0 + 1)).map Rcd.l)) := by rw [HBn.out, HT2.out]; exact hJ
      clear hJ HAd hcW
      by_cases hEq : i0 = K
      · have j6 : (i0 : Int) = (K : Int) := by omega
        clear ha1 ha2
        have HL : Hid (L = (BU rs K).length) := by rw [← hEq]; exact hL.symm
        go_wp2
        go_roundw
        case rel => exact ⟨i0 + 1, L, _, by go_num, rfl, by omega, HN.out, fun h => by omega, fun _ => HL.out⟩
        case measure => simp [intOf]; omega
      · have j6 : ¬ (i0 : Int) = (K : Int) := by omega
        have H1 : Hid (i0 + 1 ≤ K → a = 0) := fun h => ha1 (by omega)
        have H2 : Hid (K < i0 + 1 → a = (BU rs K).length) := fun h => ha2 (by omega)
        clear ha1 ha2
        go_wp2
        go_roundw
        case rel => exact ⟨i0 + 1, a, _, by go_num, rfl, by omega, HN.out, H1.out, H2.out⟩
        case measure => simp [intOf]; omega
    · obtain rfl : i0 = n := by omega
      have HA2 := Lib.hid (ha2 hKn)
      clear ha1 ha2
      go_wp2_with fail
      refine HZ.out.mono ?_
      rintro x w4 ⟨rfl, hb⟩
      have HJ := Lib.hid (HJ.out.below hb)
      clear hb HZ
      have hpos : 0 < L := by
        rw [← hL]
        have := BU_lt (rs := rs) (i := 0) (by omega)
        have := BU_mono rs (i := 0 + 1) (j := i0) (by omega)
        omega
      have HRd := Lib.hid (at_readP HJ.out.at_.at_ jn (by decide) (by decide) HJ.out.key L (by rw [HJ.out.file]; exact hL) hpos)
      go_wp2_with fail
      refine HRd.out.mono ?_
      rintro x w5 ⟨g, c5, cur, rfl, hLc, hrow, hP⟩
      rw [HJ.out.file] at hrow
      have HRm := Lib.hid (p_remove hP jn (by decide) (by decide) HJ.out.key)
      have HRow := Lib.hid hrow
      have hpr := HJ.out.pres
      have hszS := HJ.out.size
      clear hP hrow HRd HJ
      go_wp2_with fail
      refine HRm.out.mono ?_
      rintro x w6 ⟨rfl, hP⟩
      have hp6 : (S.remove jn.data.toList).pres = .map [] := by
        show S.pres.del _ = _
        rw [hpr]; exact gone_oneT [106] f
      have HCr := Lib.hid (p_create hP jn (by decide) (by decide) (by rw [hp6]; rfl) (by rw [hp6]; decide))
      clear hP HRm
      go_wp2_with fail
      refine HCr.out.mono ?_
      rintro x w7 ⟨rfl, b2, hP⟩
      obtain rfl := HA2.out
      obtain ⟨gK, oK, rK, rfl, hgK, hrK, hcellK⟩ := Y.out.rcd hKn
      have hlow7 := hP.low
      have hcK := (hlow7.cell hgK).trans hcellK
      have hlenK := U.out.len (List.mem_of_getElem? hrK)
      have hHi : (BU rs K).length ≤ 16280 := by
        have := BU_len rs (fun r hr => U.out.len hr) K
        have := rsum_take_le rs K
        omega
      have HrK := Lib.hid hrK
      have HlenK := Lib.hid hlenK
      have HP := Lib.hid hP
      have HPr := Lib.hid (Jr.next_ge (BU rs K).length)
      obtain ⟨a, haE⟩ : ∃ a, (BU rs K).length = a := ⟨_, rfl⟩
      have HaE := Lib.hid haE
      rw [haE] at hHi ⊢
      obtain ⟨q, hq, hq2, hq3⟩ : ∃ q : Nat, (a : Int) % 128 = (q : Int) ∧ q < 128 ∧ Jr.room a = 128 - q := ⟨a % 128, by omega, by omega, rfl⟩
      have hq4 : Int.tmod (a : Int) 128 = (q : Int) := by rw [Int.tmod_eq_emod_of_nonneg (by omega)]; exact hq
      clear hP hlow7 hgK hcellK hrK hlenK haE HCr HA2
      have hk7 : look ((S.remove jn.data.toList).create jn.data.toList b2).pres jn.data.toList = some b2 := by
        show look ((S.remove jn.data.toList).pres.put _ _) _ = _
        rw [hp6]; exact look_one b2 [106]
      have hlen7 : ((S.remove jn.data.toList).create jn.data.toList b2).len b2 = 0 := by
        show ((upd S.file b2 ⟨[], 0⟩) b2).bytes.length = 0
        rw [upd_same]; rfl
      have hfile7 : ∀ l, (((S.remove jn.data.toList).create jn.data.toList b2).append b2 l |>.file b2).bytes = l := fun l => by
        show ((upd (upd S.file b2 ⟨[], 0⟩) b2 ⟨((upd S.file b2 ⟨[], 0⟩) b2).bytes ++ l, _⟩) b2).bytes = l
        rw [upd_same, upd_same]; rfl
      have hleft7 : ((S.remove jn.data.toList).create jn.data.toList b2).left = 1000000 := by
        show S.size - tot ((S.remove jn.data.toList).pres.put _ _) _ = _
        rw [hp6]
        show S.size - tot (.map [(.string [106], .lit (.int .u64 (b2 : Int)))]) _ = _
        rw [one_tot, hlen7, hszS]
      have HK7 := Lib.hid hk7; have HL7 := Lib.hid hlen7; have HF7 := Lib.hid hfile7; have HLf7 := Lib.hid hleft7
      clear hk7 hlen7 hfile7 hleft7
      obtain ⟨S7, hS7⟩ : ∃ S7, (S.remove jn.data.toList).create jn.data.toList b2 = S7 := ⟨_, rfl⟩
      rw [hS7] at HK7 HL7 HF7 HLf7 HP
      clear hS7
      by_cases h8 : 128 - q < 8
      · have j1 : (128 : Int) - (q : Int) < 8 := by omega
        have hm0 : ((a : Int) + 128 - (q : Int)) % 128 = 0 := by omega
        have hm1 : Int.tmod ((a : Int) + 128 - (q : Int)) 128 = 0 := by rw [Int.tmod_eq_emod_of_nonneg (by omega)]; exact hm0
        by_cases hr4 : rK.n < 4
        · have j2 : (rK.n : Int) < 4 := by omega
          go_wp2
          go_ret
          exact ⟨rfl, HP.out.low⟩
        · have j2 : ¬ (rK.n : Int) < 4 := by omega
          go_wp2
          obtain ⟨P, hPd⟩ : ∃ P : Nat, P = a + 128 - q := ⟨_, rfl⟩
          have hPi : (a : Int) + 128 - (q : Int) = (P : Int) := by omega
          rw [hPi]
          have hnx : Jr.nextP a = P := by unfold Jr.nextP; rw [if_pos (by omega), hq3]; omega
          have hrm : 11 ≤ Jr.room P := by have := Jr.room_add a; rw [hq3, show a + (128 - q) = P from by omega] at this; omega
          have hPb : P ≤ 16500 := by omega
          clear hm0 hm1 hPi hq hq4 j1 hPd h8 HPr hHi hq3
          have hRT := reads_turned (rs := rs) (n := i0) (k := K) (bits := bits) hrl HrK.out (by rw [HlenK.out]; omega) (by rw [HaE.out, hnx]; omega) hb0 hbits
          rw [HaE.out, hnx] at hRT
          obtain ⟨hPN, hRd⟩ := hRT
          rw [hL] at hPN
          have HRd := Lib.hid hRd
          clear hRd
          go_loopw [18] (fun i wr => ∃ (i1 : Nat) (cur1 : Array Value), i = .int .i64 (i1 : Int) ∧ i1 ≤ 4 ∧ AtP w wr d S7 g cur1 5 ∧ RowIs cur1 (TB (BU rs i0) (P + 7) bits i1)) (fun i _ => 4 - (intOf i).toNat)
          case atStart => exact ⟨0, cur, rfl, by omega, HP.out, HRow.out⟩
          case round =>
            obtain ⟨i1, cur1, rfl, hi1, hP1, hR1⟩ := hrel
            by_cases hlt4 : i1 < 4
            · have hjl : P + 7 + i1 < (TB (BU rs i0) (P + 7) bits i1).length := by rw [TB_len, hL]; omega
              have hcell := hP1.cell (hR1.get hjl)
              have hthaw := hP1.thaw (P + 7 + i1)
              obtain ⟨x, hx⟩ : ∃ x, (TB (BU rs i0) (P + 7) bits i1).getD (P + 7 + i1) 0 = x := ⟨_, rfl⟩
              have HN : Hid (AtP w (wr.setCell ⟨g, P + 7 + i1, none⟩ (bv (x ^^^ cb bits i1))) d S7 g (cur1.setIfInBounds (P + 7 + i1) (bv (x ^^^ cb bits i1))) 5) := hP1.set _ _
              have HR2 : Hid (RowIs (cur1.setIfInBounds (P + 7 + i1) (bv (x ^^^ cb bits i1))) (TB (BU rs i0) (P + 7) bits (i1 + 1))) := by
                have := hR1.set (P + 7 + i1) (x ^^^ cb bits i1)
                rw [← hx] at this ⊢
                exact this
              rw [hx] at hcell
              have hc1 : wr.cell? ⟨g, P + 7 + i1, none⟩ = some (.int .u8 (x.toNat : Int)) := hcell
              have j7 : (i1 : Int) < 4 := by omega
              have hxl := x.toNat_lt
              clear hP1 hR1 hx hcell HrK HP HRow
              obtain ⟨xn, hxn⟩ : ∃ xn, x.toNat = xn := ⟨_, rfl⟩
              rw [hxn] at hc1 hxl
              go_wp2
              refine ⟨⟨i1 + 1, _, by go_num, by omega, ?_, HR2.out⟩, by simp [intOf]; omega⟩
              rw [turn_cell x bits i1 xn hxn]
              exact HN.out
            · obtain rfl : i1 = 4 := by omega
              have hl7 := lies_row hP1 hR1
              have hTl : (TB (BU rs i0) (P + 7) bits 4).length = L := by rw [TB_len, hL]
              obtain ⟨T, hT⟩ : ∃ T, TB (BU rs i0) (P + 7) bits 4 = T := ⟨_, rfl⟩
              rw [hT] at HRd hl7 hTl
              rw [hTl] at hl7
              have hLb : L ≤ 1000000 := by rw [← hL]; exact HJ.out.room
              have HAp := Lib.hid (p_append hP1 jn (by decide) (by decide) (some ⟨g, 0, none⟩) L c5 T hl7 HK7.out ⟨by rw [HLf7.out]; omega, by rw [HL7.out]; omega⟩)
              clear hP1 hR1 hl7 hT HP HRow HJ
              go_wp2_with fail
              refine HAp.out.mono ?_
              rintro x w8 ⟨rfl, hP8⟩
              have hk8 : look (S7.append b2 T).pres jn.data.toList = some b2 := HK7.out
              have hf8 : ((S7.append b2 T).file b2).bytes = T := HF7.out T
              have HO8 := Lib.hid (open_has hP8.at_ jn (by decide) (by decide) hk8 (by show ((S7.append b2 T).file b2).bytes.length ≤ _; rw [hf8, hTl]; omega))
              clear hP8 HAp
              go_wp2_with fail
              refine HO8.out.mono ?_
              rintro x w9 ⟨p3, vr, rs', fin, rfl, hr, hrec, hJ3, hb5, _⟩
              rw [hf8] at hr
              obtain ⟨hrs, rfl⟩ := hr.one HRd.out
              obtain ⟨A3, c3, rfl, _⟩ := own_shape hrec.row
              have hl3 : rs'.length = K := by
                have := congrArg List.length hrs
                rw [List.length_map, List.length_map, List.length_take] at this; omega
              rw [hl3]
              have hlow := hJ3.low
              have hLa := Lies.of_own hrec.row
              rw [hl3] at hLa
              have hgs : ∀ r ∈ rs', Lies w9 w9.heap.size 1 r.A r.n (r.l.map bv) ∧ r.n ≤ 4611686018427387904 := fun r hm => by
                have hL := Lies.of_own (hrec.each r hm)
                refine ⟨hL, ?_⟩
                have h1 : r.l ∈ (rs.take K).map Rcd.l := by rw [← hrs]; exact List.mem_map.2 ⟨r, hm, rfl⟩
                obtain ⟨q, hq, hql⟩ := List.mem_map.1 h1
                have h2 := U.out.len (List.mem_of_mem_take hq)
                have h3 := (U.out q (List.mem_of_mem_take hq)).2
                have := hL.blen
                rw [hql] at h2; omega
              have hcut : ∀ W, (Instr.slice 31 (.slice (some ⟨gK, oK, none⟩) i0 c) none (some (.int .i64 (K : Int))) none).run Try.prog W = .ok (.slice (some ⟨gK, oK, none⟩) K c) W := fun W => run_headR W _ i0 c K (by omega)
              have HSm := Lib.hid (sameR_yes (c := c3) (c2 := c) hLa (lies_takeR ((Y.out.below hlow).more hlow.size) (by omega)) hgs (Rcds.take ((U.out.below hlow).more hlow.size) K) (by omega) hrs)
              have HB9 := Lib.hid hlow
              clear hr HRd hrec hJ3 hb5 hrs hLa hgs hlow HO8
              go_wp2_with fail
              refine HSm.out.mono ?_
              rintro x w10 ⟨rfl, hb10⟩
              have HFin := Lib.hid (HB9.out.trans (hb10.mono HB9.out.size))
              clear hb10
              go_wp2
              go_ret
              exact ⟨rfl, HFin.out⟩
      · have j1 : ¬ (128 : Int) - (q : Int) < 8 := by omega
        by_cases hr4 : rK.n < 4
        · have j2 : (rK.n : Int) < 4 := by omega
          go_wp2
          go_ret
          exact ⟨rfl, HP.out.low⟩
        · have j2 : ¬ (rK.n : Int) < 4 := by omega
          by_cases h11 : 128 - q < 11
          · have j3 : (128 : Int) - (q : Int) < 11 := by omega
            go_wp2
            go_ret
            exact ⟨rfl, HP.out.low⟩
          · have j3 : ¬ (128 : Int) - (q : Int) < 11 := by omega
            go_wp2
            obtain ⟨P, hPd⟩ : ∃ P : Nat, a = P := ⟨_, rfl⟩
            subst hPd
            have hnx : Jr.nextP a = a := by unfold Jr.nextP; rw [if_neg (by omega)]
            have hrm : 11 ≤ Jr.room a := by omega
            clear hq hq4 j1 j3
            have hRT := reads_turned (rs := rs) (n := i0) (k := K) (bits := bits) hrl HrK.out (by rw [HlenK.out]; omega) (by rw [HaE.out, hnx]; omega) hb0 hbits
            rw [HaE.out, hnx] at hRT
            obtain ⟨hPN, hRd⟩ := hRT
            rw [hL] at hPN
            have HRd := Lib.hid hRd
            clear hRd
            go_loopw [18] (fun i wr => ∃ (i1 : Nat) (cur1 : Array Value), i = .int .i64 (i1 : Int) ∧ i1 ≤ 4 ∧ AtP w wr d S7 g cur1 5 ∧ RowIs cur1 (TB (BU rs i0) (a + 7) bits i1)) (fun i _ => 4 - (intOf i).toNat)
            case atStart => exact ⟨0, cur, rfl, by omega, HP.out, HRow.out⟩
            case round =>
              obtain ⟨i1, cur1, rfl, hi1, hP1, hR1⟩ := hrel
              by_cases hlt4 : i1 < 4
              · have hjl : a + 7 + i1 < (TB (BU rs i0) (a + 7) bits i1).length := by rw [TB_len, hL]; omega
                have hcell := hP1.cell (hR1.get hjl)
                have hthaw := hP1.thaw (a + 7 + i1)
                obtain ⟨x, hx⟩ : ∃ x, (TB (BU rs i0) (a + 7) bits i1).getD (a + 7 + i1) 0 = x := ⟨_, rfl⟩
                have HN : Hid (AtP w (wr.setCell ⟨g, a + 7 + i1, none⟩ (bv (x ^^^ cb bits i1))) d S7 g (cur1.setIfInBounds (a + 7 + i1) (bv (x ^^^ cb bits i1))) 5) := hP1.set _ _
                have HR2 : Hid (RowIs (cur1.setIfInBounds (a + 7 + i1) (bv (x ^^^ cb bits i1))) (TB (BU rs i0) (a + 7) bits (i1 + 1))) := by
                  have := hR1.set (a + 7 + i1) (x ^^^ cb bits i1)
                  rw [← hx] at this ⊢
                  exact this
                rw [hx] at hcell
                have hc1 : wr.cell? ⟨g, a + 7 + i1, none⟩ = some (.int .u8 (x.toNat : Int)) := hcell
                have j7 : (i1 : Int) < 4 := by omega
                have hxl := x.toNat_lt
                clear hP1 hR1 hx hcell HrK HP HRow
                obtain ⟨xn, hxn⟩ : ∃ xn, x.toNat = xn := ⟨_, rfl⟩
                rw [hxn] at hc1 hxl
                go_wp2
                refine ⟨⟨i1 + 1, _, by go_num, by omega, ?_, HR2.out⟩, by simp [intOf]; omega⟩
                rw [turn_cell x bits i1 xn hxn]
                exact HN.out
              · obtain rfl : i1 = 4 := by omega
                have hl7 := lies_row hP1 hR1
                have hTl : (TB (BU rs i0) (a + 7) bits 4).length = L := by rw [TB_len, hL]
                obtain ⟨T, hT⟩ : ∃ T, TB (BU rs i0) (a + 7) bits 4 = T := ⟨_, rfl⟩
                rw [hT] at HRd hl7 hTl
                rw [hTl] at hl7
                have hLb : L ≤ 1000000 := by rw [← hL]; exact HJ.out.room
                have HAp := Lib.hid (p_append hP1 jn (by decide) (by decide) (some ⟨g, 0, none⟩) L c5 T hl7 HK7.out ⟨by rw [HLf7.out]; omega, by rw [HL7.out]; omega⟩)
                clear hP1 hR1 hl7 hT HP HRow HJ
                go_wp2_with fail
                refine HAp.out.mono ?_
                rintro x w8 ⟨rfl, hP8⟩
                have hk8 : look (S7.append b2 T).pres jn.data.toList = some b2 := HK7.out
                have hf8 : ((S7.append b2 T).file b2).bytes = T := HF7.out T
                have HO8 := Lib.hid (open_has hP8.at_ jn (by decide) (by decide) hk8 (by show ((S7.append b2 T).file b2).bytes.length ≤ _; rw [hf8, hTl]; omega))
                clear hP8 HAp
                go_wp2_with fail
                refine HO8.out.mono ?_
                rintro x w9 ⟨p3, vr, rs', fin, rfl, hr, hrec, hJ3, hb5, _⟩
                rw [hf8] at hr
                obtain ⟨hrs, rfl⟩ := hr.one HRd.out
                obtain ⟨A3, c3, rfl, _⟩ := own_shape hrec.row
                have hl3 : rs'.length = K := by
                  have := congrArg List.length hrs
                  rw [List.length_map, List.length_map, List.length_take] at this; omega
                rw [hl3]
                have hlow := hJ3.low
                have hLa := Lies.of_own hrec.row
                rw [hl3] at hLa
                have hgs : ∀ r ∈ rs', Lies w9 w9.heap.size 1 r.A r.n (r.l.map bv) ∧ r.n ≤ 4611686018427387904 := fun r hm => by
                  have hL := Lies.of_own (hrec.each r hm)
                  refine ⟨hL, ?_⟩
                  have h1 : r.l ∈ (rs.take K).map Rcd.l := by rw [← hrs]; exact List.mem_map.2 ⟨r, hm, rfl⟩
                  obtain ⟨q, hq, hql⟩ := List.mem_map.1 h1
                  have h2 := U.out.len (List.mem_of_mem_take hq)
                  have h3 := (U.out q (List.mem_of_mem_take hq)).2
                  have := hL.blen
                  rw [hql] at h2; omega
                have hcut : ∀ W, (Instr.slice 31 (.slice (some ⟨gK, oK, none⟩) i0 c) none (some (.int .i64 (K : Int))) none).run Try.prog W = .ok (.slice (some ⟨gK, oK, none⟩) K c) W := fun W => run_headR W _ i0 c K (by omega)
                have HSm := Lib.hid (sameR_yes (c := c3) (c2 := c) hLa (lies_takeR ((Y.out.below hlow).more hlow.size) (by omega)) hgs (Rcds.take ((U.out.below hlow).more hlow.size) K) (by omega) hrs)
                have HB9 := Lib.hid hlow
                clear hr HRd hrec hJ3 hb5 hrs hLa hgs hlow HO8
                go_wp2_with fail
                refine HSm.out.mono ?_
                rintro x w10 ⟨rfl, hb10⟩
                have HFin := Lib.hid (HB9.out.trans (hb10.mono HB9.out.size))
                clear hb10
                go_wp2
                go_ret
                exact ⟨rfl, HFin.out⟩

theorem journalsTurned_big (A : Option Addr) (n c m1 m2 : Nat) (rs : List Rcd) (w : World) (y : Lies w w.heap.size 1 A n (rs.map Rcd.v)) (u : Rcds w w.heap.size rs) (hn : n ≤ 140737488351232)
    (hcase : 20 < n ∨ 2000 < n + rsum rs ∨ n = 0 ∨ m2 = 0) :
    Calls Try.prog 7 #[.slice A n c, .int .u8 (m1 : Int), .int .u32 (m2 : Int)] w fun e w' => e = .returned (.bool true) ∧ Below w.heap.size w w' := by
  have Y := Lib.hid y; have U := Lib.hid u; have HC := Lib.hid hcase
  clear y u hcase
  go_enter Try.func7, Try.ntmps7
  go_wp2_with fail
  refine (alive6_any w).mono ?_
  rintro x w1 ⟨rfl, hb1⟩
  have HB := Lib.hid hb1; clear hb1
  have F1 : Hid (Calls Try.prog 13 #[] w1 fun e w' => e = .returned (.bool true) ∧ Below w.heap.size w w') := (alive6_any w1).mono fun x w' ⟨hx, hb⟩ => ⟨hx, HB.out.trans (hb.mono HB.out.size)⟩
  by_cases h1 : 20 < n
  · have i1 : (20 : Int) < (n : Int) := by omega
    go_wp2_with fail
    refine F1.out.mono ?_
    rintro x w2 ⟨rfl, hb⟩
    have HB2 := Lib.hid hb; clear hb
    go_wp2
    go_ret
    exact ⟨rfl, HB2.out⟩
  · have i1 : (n : Int) ≤ 20 := by omega
    go_wp2_with fail
    refine (recordsSize_is A n c rs w1 ((Y.out.below HB.out).more HB.out.size) ((U.out.below HB.out).more HB.out.size) hn).mono ?_
    rintro x w2 ⟨z, rfl, hw, hz, hz2, hz3⟩
    obtain rfl := hw.symm
    by_cases h2 : 2000 < z
    · have i2 : (2000 : Int) < (z : Int) := by omega
      clear hz hz3
      go_wp2_with fail
      refine F1.out.mono ?_
      rintro x w2 ⟨rfl, hb⟩
      have HB2 := Lib.hid hb; clear hb
      go_wp2
      go_ret
      exact ⟨rfl, HB2.out⟩
    · have i2 : (z : Int) ≤ 2000 := by omega
      have h3 : n = 0 ∨ m2 = 0 := by
        have := hz (by omega)
        rcases HC.out with h | h | h
        · exact absurd h h1
        · omega
        · exact h
      clear hz hz3
      by_cases h4 : n = 0
      · have i3 : ((n : Int) == 0) = true := by simp; omega
        go_wp2_with fail
        refine F1.out.mono ?_
        rintro x w2 ⟨rfl, hb⟩
        have HB2 := Lib.hid hb; clear hb
        go_wp2
        go_ret
        exact ⟨rfl, HB2.out⟩
      · have i3 : ((n : Int) == 0) = false := by simp; omega
        have i4 : ((m2 : Int) == 0) = true := by simp; omega
        go_wp2_with fail
        refine F1.out.mono ?_
        rintro x w2 ⟨rfl, hb⟩
        have HB2 := Lib.hid hb; clear hb
        go_wp2
        go_ret
        exact ⟨rfl, HB2.out⟩

theorem journalsTurned_walk (A : Option Addr) (n c : Nat) (rs : List Rcd) (m1 m2 : Nat) (w : World) (y : Lies w w.heap.size 1 A n (rs.map Rcd.v)) (u : Rcds w w.heap.size rs) (hnc : n ≤ c) (hc : c ≤ 140737488351232) (hm1 : m1 < 256) (hm2 : m2 < 4294967296) :
    Calls Try.prog 7 #[.slice A n c, .int .u8 (m1 : Int), .int .u32 (m2 : Int)] w fun e w' => e = .returned (.bool true) ∧ Below w.heap.size w w' := by
  by_cases h : 20 < n ∨ 2000 < n + rsum rs ∨ n = 0 ∨ m2 = 0
  · exact journalsTurned_big A n c m1 m2 rs w y u (by omega) h
  · exact journalsTurned_all A n c m1 m2 rs w y u hnc hm1 hm2 (by omega) (by omega) (by omega) (by omega)
end Go.Proofs.Ytbpdonnneleeeaa
