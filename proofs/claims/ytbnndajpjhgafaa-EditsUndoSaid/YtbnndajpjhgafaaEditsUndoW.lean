/-
  The walk of EditsUndo.
-/
import Derived.Test.YtbnndajpjhgafaaEdUn
namespace Go.Proofs.Ytbnndajpjhgafaa
open Go.RowKit
set_option linter.unusedVariables false
set_option maxRecDepth 100000

set_option maxHeartbeats 16000000 in
theorem editsUndo_walk (A : Option Addr) (n c : Nat) (l : List Fi) (A1 : Option Addr) (n1 c1 : Nat) (A2 : Option Addr) (n2 c2 : Nat) (x : Edt) (W : World) (hl : Lies W W.heap.size 4 A n (fcs l)) (hsl : ∀ f ∈ l, szFi f) (hnc : n ≤ c) (hc : c ≤ 140737488351232)
    (ha : Lies W W.heap.size 4 A1 n1 (fcs x.add)) (hr : Lies W W.heap.size 1 A2 n2 (kvs x.rem)) (hsa : ∀ f ∈ x.add, szFi f) (hsx : SzEd x) (hc1 : n1 ≤ c1 ∧ c1 ≤ 140737488351232) (hc2 : n2 ≤ c2 ∧ c2 ≤ 140737488351232) :
    Calls Try.prog 5 #[.slice A n c, edV A1 n1 c1 A2 n2 c2 x] W fun e W' => e = .returned (.bool true) ∧ Below W.heap.size W W' := by
  have HL0 : Hid (EdArg W A n l A1 n1 A2 n2 x) := ⟨hl, ha, hr, hsl, hsa, hsx⟩
  have hE : EtAt (edW W A1 n1 c1 A2 n2 c2 x.jn x.nx x.sq) W.heap.size A1 n1 c1 A2 n2 c2 x.jn x.nx x.sq := heap_alloc_new W _
  have hB : Below W.heap.size W (edW W A1 n1 c1 A2 n2 c2 x.jn x.nx x.sq) := al_below W _
  obtain ⟨W0, hW0⟩ : ∃ W0, edW W A1 n1 c1 A2 n2 c2 x.jn x.nx x.sq = W0 := ⟨_, rfl⟩
  rw [hW0] at hE hB
  obtain ⟨g, hg⟩ : ∃ g, W.heap.size = g := ⟨_, rfl⟩
  rw [hg] at hE
  have HB := Lib.hid hB; have HE := Lib.hid hE
  have HNl := Lib.hid hl.flen; have HNa := Lib.hid ha.flen; have HNr := Lib.hid hr.klen
  clear hl ha hr hsl hsa hsx hB hE
  unfold edV
  go_enter Try.func5, Try.ntmps5
  go_wp2_with fail
  have HG := Lib.hid hg
  clear hg hW0
  with_reducible refine Calls.mono (alive11_any W0) ?_
  rintro e w1 ⟨rfl, hb1⟩
  have H1 := Lib.hid (be_trans HB.out hb1)
  have HE1 := Lib.hid (HE.out.below hb1 HE.out.lt)
  have HA1 := Lib.hid (HL0.out.up H1.out)
  obtain ⟨k0, k1, k2, k3, k4⟩ := HE1.out.cells
  have HGr := Lib.hid (great11_any (c := c) (c1 := c1) (c2 := c2) (j := x.jn) (x := x.nx) (s := x.sq) (P2 := A2) HA1.out.hl HA1.out.sl HA1.out.ha HA1.out.sa (by omega) (by omega) (by omega : n2 ≤ 140737488351232))
  clear hb1 HB HE HL0
  go_wp2_with fail
  with_reducible refine Calls.mono HGr.out ?_
  rintro e w2 ⟨b, rfl, hb3, hb2⟩
  have H2 := Lib.hid (be_trans H1.out hb2)
  have HE2 := Lib.hid (HE1.out.below hb2 HE1.out.lt)
  have HA2 := Lib.hid (HA1.out.up hb2)
  have H300 := Lib.hid hb3
  clear hb2 hb3 HGr HE1 HA1 k0 k1 k2 k3 k4 H1
  cases b with
  | true =>
    go_wp2_with fail
    with_reducible refine Calls.mono (alive11_any w2) ?_
    rintro e w3 ⟨rfl, hb3⟩
    have HF := Lib.hid (be_trans H2.out hb3)
    clear hb3
    go_wp2
    go_ret
    exact ⟨rfl, HF.out⟩
  | false =>
    have hn300 : n + n1 + n2 ≤ 300 := H300.out rfl
    obtain ⟨k0, k1, k2, k3, k4⟩ := HE2.out.cells
    have HDa := Lib.hid (doB_any (c := c) HA2.out.hl HA2.out.sl (by omega) 0 0 0)
    go_wp2_with fail
    refine Calls.mono HDa.out ?_
    rintro e w3 ⟨A3, n3, c3, L3, v3, rfl, hb3, hl3, hn3, hm3, hu3, hs3, hc3⟩
    have H3 := Lib.hid (be_trans H2.out hb3)
    have HE3 := Lib.hid (HE2.out.below hb3 HE2.out.lt)
    have HA3 := Lib.hid (HA2.out.up hb3)
    have HDb := Lib.hid (doU_any (c1 := c) (c2 := c1) (c3 := c2) HA3.out.hl HA3.out.ha HA3.out.hr HA3.out.sl HA3.out.sa HA3.out.sx.rem (by omega) x.jn x.nx x.sq)
    have HQ3 := Lib.hid hl3; have HN3 := Lib.hid hn3; have HU3 := Lib.hid hu3; have HC3 := Lib.hid hc3
    clear k0 k1 k2 k3 k4
    obtain ⟨k0, k1, k2, k3, k4⟩ := HE3.out.cells
    clear hb3 hl3 hn3 hu3 hs3 hc3 HDa HE2 HA2 H2
    go_wp2_with fail
    with_reducible refine Calls.mono HDb.out ?_
    rintro e w4 ⟨A4, n4, c4, L4, v4, rfl, hb4, hl4, hn4, hm4, hu4, hs4, hc4⟩
    have H4 := Lib.hid (be_trans H3.out hb4)
    have HE4 := Lib.hid (HE3.out.below hb4 HE3.out.lt)
    have HA4 := Lib.hid (HA3.out.up hb4)
    have HQ34 := Lib.hid (up_lies HQ3.out hb4); have HQ4 := Lib.hid hl4; have HS4 := Lib.hid hs4; have HC4 := Lib.hid hc4
    clear k0 k1 k2 k3 k4 hb4 hl4 hn4 hu4 hs4 hc4 HDb HE3 HA3 H3 HQ3
    have HV : Hid ((v3 = 1 ∧ v4 = 1) ∨ (v3 = 0 ∧ v4 = 1) ∨ (v3 = 0 ∧ v4 = 0 ∧ L3.Perm l ∧ DoOk l x.add x.rem ∧ L4.Perm (left l x.rem ++ x.add))) := by
      rcases HC3.out with ⟨q1, q2, q3⟩ | ⟨q1, q2, q3⟩
      · rw [left_nil, List.append_nil] at q3
        rcases HC4.out with ⟨s1, s2, s3⟩ | ⟨s1, _, _⟩
        · exact .inr (.inr ⟨q1, s1, q3, s2, s3⟩)
        · exact .inr (.inl ⟨q1, s1⟩)
      · rcases HC4.out with ⟨_, s2, _⟩ | ⟨s1, _, _⟩
        · exact (q2 (doOk_bare s2.1)).elim
        · exact .inl ⟨q1, s1⟩
    rcases HV.out with ⟨rfl, rfl⟩ | ⟨rfl, rfl⟩ | ⟨rfl, rfl, hp3, hok, hp4⟩
    · go_wp2
      go_ret
      exact ⟨rfl, H4.out⟩
    · go_wp2
      go_ret
      exact ⟨rfl, H4.out⟩
    have HP3 := Lib.hid hp3; have HOk := Lib.hid hok; have HP4 := Lib.hid hp4
    have hx0 := Bx.new w4
    obtain ⟨w5, hw5⟩ : ∃ w5, w4.alloc (.cells #[.slice none 0 0, .slice none 0 0, .int .u32 0, .int .u32 0, .int .u64 0] 27) = w5 := ⟨_, rfl⟩
    rw [hw5] at hx0
    obtain ⟨gb, hgb⟩ : ∃ gb, w4.heap.size = gb := ⟨_, rfl⟩
    rw [hgb] at hx0
    have HX0 := Lib.hid hx0
    -- what stands at a later world
    have HUp : Hid (∀ {wr : World} {vA vB : Value} {nA nB : Nat} {R : List Nat} {F : List Fi}, Bx w4 wr gb vA nA R vB nB F → Below W.heap.size W wr ∧ EtAt wr g A1 n1 c1 A2 n2 c2 x.jn x.nx x.sq ∧ EdArg wr A n l A1 n1 A2 n2 x ∧ Lies wr wr.heap.size 4 A3 n3 (fcs L3) ∧ Lies wr wr.heap.size 4 A4 n4 (fcs L4) ∧ gb + 1 ≤ wr.heap.size) := fun {wr vA vB nA nB R F} h => by
      have hb : Below w4.heap.size w4 wr := by have := h.lo; rw [← h.hg] at this; exact this
      exact ⟨be_trans H4.out hb, HE4.out.below hb HE4.out.lt, HA4.out.up hb, up_lies HQ34.out hb, up_lies HQ4.out hb, h.lt⟩
    clear hp3 hok hp4 HV HC3 HC4 hx0
    obtain ⟨i0, hi, hz0, hz1, hz2⟩ := info_parts u32_info
    obtain ⟨i1, fj1, hy0, hy1, hy2⟩ := info_parts file_info
    go_wp2_with fail
    try clear hw5 hgb
    go_loopw [10] (fun i wr => ∃ (k : Nat) (Ar : Option Addr) (cr : Nat), k ≤ n1 ∧ i = .int .i64 (k : Int) ∧ Bx w4 wr gb (.slice Ar k cr) k (nms (x.add.take k)) (.slice none 0 0) 0 []) (fun i _ => n1 - (intOf i).toNat)
    case atStart => exact ⟨0, none, 0, Nat.zero_le _, rfl, HX0.out⟩
    case round =>
      clear HX0
      obtain ⟨k, Ar, cr, hk, rfl, hx⟩ := hrel
      obtain ⟨u1, u2, u3, u4, u5, u6⟩ := HUp.out hx
      obtain ⟨k0, k1, k2, k3, k4⟩ := u2.cells
      obtain ⟨b0, b1, b2, b3, b4⟩ := hx.cells
      by_cases hlt : k < n1
      · obtain ⟨bb, oo, f, rfl, _, hf, e0, _, _, _⟩ := u3.ha.file hlt
        have HNk := Lib.hid (show nms (x.add.take (k + 1)) = nms (x.add.take k) ++ [f.num] from by rw [List.take_add_one, hf, nms_app]; rfl)
        have hj0 : (0 : Int) ≤ (k : Int) := by omega
        have hj1 : (k : Int) < (n1 : Int) := by omega
        have hb89 : ∀ o, Below wr.heap.size wr (wr.drew.alloc o) := fun o => ((Below.refl _ _).drew).alloc (Nat.le_refl _) o
        have HXo := Lib.hid (fun o => hx.up (hb89 o))
        have hx9 : ∀ o, (wr.alloc o).cell? ⟨gb, 1, none⟩ = some (.slice Ar k cr) := fun o => (hx.up (al_below wr o)).cells.2.1
        clear hf u1 u2 u3 u4 u5
        go_wp2_with fail
        go_region_law (refine step_app _ rfl (.tmp 55) (.tmp 62) 23 rfl (gb + 1) 24 i0 _ 1 4 Try.underlying23 hi hz0 hz1 hz2 rfl (by decide) (.slice Ar k cr) k (kvs (nms (x.add.take k))) rfl (HXo.out (.cells #[.int .u32 (f.num : Int)] 24)).r (wr.heap.size + 1) (some ⟨wr.heap.size, 0, none⟩) 1 1 [.int .u32 (f.num : Int)] rfl (one_lies (w := wr.drew) rfl _ _) (by intro u hu; simp at hu; subst hu; rfl) (by unfold maxLen; omega) (by omega) (HXo.out (.cells #[.int .u32 (f.num : Int)] 24)).lt ?_; intro v9 w9 ho9 hg9 hat9; have hF9 := (HXo.out (.cells #[.int .u32 (f.num : Int)] 24)).midR hg9; have hv9 : w9.cell? ⟨gb, 1, none⟩ = some (.slice Ar k cr) := cell_of_row _ _ 1 _ _ (0, 0) hF9; have hf9 : w9.frozen? ⟨gb, 1, none⟩ = false := (by simp [World.frozen?, hF9]); obtain ⟨A9, c9, rfl, _⟩ := own_shape ho9)
        all_goals
          have HFin := Lib.hid ((HXo.out _).setR hg9 (show w9.ownsRow (gb + 1) 24 1 (.slice A9 (k + 1) c9) (k + 1) (kvs (nms (x.add.take (k + 1)))) from by rw [HNk.out, kvs_app]; exact ho9))
          clear ho9 hg9 hat9 hF9 hv9 hf9 hx9 HXo
          go_wp2
          go_roundw
          case rel => exact ⟨k + 1, A9, c9, hlt, by go_num, HFin.out⟩
          case measure => simp [intOf]; omega
      · have hnl : ¬ ((k : Int) < (n1 : Int)) := by omega
        have hkn : n1 = k := by omega
        subst hkn
        rw [show x.add.take n1 = x.add from List.take_of_length_le (by have := HNa.out; omega)] at hx
        have HX1 := Lib.hid hx
        clear hx u1 u2 u3 u4 u5 u6
        go_wp2_with fail
        go_loopw [11] (fun i wr => ∃ (k : Nat) (Af : Option Addr) (m cf : Nat), k ≤ n ∧ i = .int .i64 (k : Int) ∧ Bx w4 wr gb (.slice Ar n1 cr) n1 (nms x.add) (.slice Af m cf) m (gone (l.take k) x.rem)) (fun i _ => n - (intOf i).toNat)
        case atStart => exact ⟨0, none, 0, 0, Nat.zero_le _, rfl, HX1.out⟩
        case round =>
          clear HX1 k0 k1 k2 k3 k4 b0 b1 b2 b3 b4 hnl hlt hk
          obtain ⟨k, Af, m, cf, hk, rfl, hx⟩ := hrel
          by_cases hlt : k < n
          · obtain ⟨u1, u2, u3, u4, u5, u6⟩ := HUp.out hx
            obtain ⟨bb, oo, f, rfl, _, hf, _, _, _, _⟩ := u3.hl.file hlt
            have HF := Lib.hid hf
            have HGt := Lib.hid (gone_take (r := x.rem) hf)
            have HX2 := Lib.hid hx
            have hj0 : (0 : Int) ≤ (k : Int) := by omega
            have hj1 : (k : Int) < (n : Int) := by omega
            obtain ⟨G, hG⟩ : ∃ G, gone (l.take k) x.rem = G := ⟨_, rfl⟩
            rw [hG] at HX2 HGt
            have hGl : G.length ≤ 300 := by rw [← hG]; exact Nat.le_trans (List.length_filter_le _ _) (by rw [List.length_take]; omega)
            clear hx hf u1 u2 u3 u4 u5 u6 hG
            go_wp2_with fail
            go_loopw [12] (fun j wr => ∃ (j' : Nat) (Af : Option Addr) (m cf : Nat), j' ≤ n2 ∧ j = .int .i64 (j' : Int) ∧ Bx w4 wr gb (.slice Ar n1 cr) n1 (nms x.add) (.slice Af m cf) m (G ++ (if (x.rem.take j').contains f.num then [f] else []))) (fun j _ => n2 - (intOf j).toNat)
            case atStart => exact ⟨0, Af, m, cf, Nat.zero_le _, rfl, by simpa using HX2.out⟩
            case round =>
              clear HX2
              obtain ⟨j, Af, m, cf, hj, rfl, hx⟩ := hrel
              obtain ⟨u1, u2, u3, u4, u5, u6⟩ := HUp.out hx
              obtain ⟨k0, k1, k2, k3, k4⟩ := u2.cells
              obtain ⟨b0, b1, b2, b3, b4⟩ := hx.cells
              by_cases hlt2 : j < n2
              · obtain ⟨bq, oq, f2, hAq, _, hf2, e0, e1, e2, e3⟩ := u3.hl.file hlt
                injection hAq with hAq
                injection hAq with hq1 hq2 _
                subst hq1 hq2
                rw [HF.out] at hf2
                injection hf2 with hf2
                subst hf2
                obtain ⟨b5, o5, y, rfl, _, hy, d0⟩ := u3.hr.num hlt2
                have hi0 : (0 : Int) ≤ (j : Int) := by omega
                have hi1 : (j : Int) < (n2 : Int) := by omega
                have htk : x.rem.take (j + 1) = x.rem.take j ++ [y] := by rw [List.take_add_one, hy]; rfl
                by_cases hyf : y = f.num
                · have hnot : (x.rem.take j).contains f.num = false := by
                    rw [List.contains_eq_mem, decide_eq_false_iff_not]
                    intro hmem
                    have h1 : (x.rem.take (j + 1)).Nodup := (List.take_sublist _ _).nodup HOk.out.2.1.1
                    rw [htk, List.nodup_append] at h1
                    exact h1.2.2 f.num hmem y (by simp) hyf.symm
                  have HNw : Hid ((x.rem.take (j + 1)).contains f.num = true) := by
                    unfold Hid; rw [htk, List.contains_eq_mem, decide_eq_true_eq]; simp [hyf]
                  rw [hnot, if_neg (by decide), List.append_nil] at hx
                  have hm : m = G.length := by have := hx.f.1; rw [fcs_len] at this; omega
                  have t4 : m + 1 ≤ maxLen := by unfold maxLen; omega
                  have t5 : m ≤ 300 := by omega
                  clear hm
                  have HXq := Lib.hid (fun q => hx.up (below_drewN (Below.refl wr.heap.size wr) q))
                  clear hy htk hnot hx u1 u2 u3 u4 u5
                  subst hyf
                  go_wp2
                  go_quiet (fail)
                  have hx := HXq.out nq
                  obtain ⟨wz, hwz⟩ : ∃ wz, wr.drewN nq = wz := ⟨_, rfl⟩
                  rw [hwz] at hx ⊢
                  clear hwz HXq k0 k1 k2 k3 k4 b0 b1 b2 b3 b4 d0 e0 e1 e2 e3
                  obtain ⟨u1, u2, u3, u4, u5, u6⟩ := HUp.out hx
                  obtain ⟨b0, b1, b2, b3, b4⟩ := hx.cells
                  obtain ⟨bq, oq, f2, hAq, _, hf2, e0, e1, e2, e3⟩ := u3.hl.file hlt
                  injection hAq with hAq
                  injection hAq with hq1 hq2 _
                  subst hq1 hq2
                  rw [HF.out] at hf2
                  injection hf2 with hf2
                  subst hf2
                  have HXo := Lib.hid (fun o => hx.up (((Below.refl wz.heap.size wz).drew).alloc (Nat.le_refl _) o))
                  have hx9 : ∀ o, (wz.alloc o).cell? ⟨gb, 0, none⟩ = some (.slice Af m cf) := fun o => (hx.up (al_below wz o)).cells.1
                  clear hx u1 u2 u3 u4 u5
                  go_wp2_with fail
                  have t1 := (HXo.out (.cells #[.int .u32 (f.num : Int), .int .i64 f.lv, .string f.a, .string f.z] 33)).f
                  have t2 : Lies (wz.drew.alloc (.cells #[.int .u32 (f.num : Int), .int .i64 f.lv, .string f.a, .string f.z] 33)) (wz.heap.size + 1) 4 (some ⟨wz.heap.size, 0, none⟩) 1 (fcs [f]) := fi_lies wz.drew f
                  have t3 := fj1
                  go_region_law (refine step_app _ rfl (.tmp 90) (.tmp 95) 22 rfl (gb + 1) 33 i1 _ 4 48 Try.underlying22 fj1 hy0 hy1 hy2 rfl (by decide) (.slice Af m cf) m (fcs G) rfl t1 (wz.heap.size + 1) (some ⟨wz.heap.size, 0, none⟩) 1 1 (fcs [f]) rfl t2 (fcs_one _) t4 (by omega) (HXo.out (.cells #[.int .u32 (f.num : Int), .int .i64 f.lv, .string f.a, .string f.z] 33)).lt ?_; intro v9 w9 ho9 hg9 hat9; have hF9 := (HXo.out (.cells #[.int .u32 (f.num : Int), .int .i64 f.lv, .string f.a, .string f.z] 33)).midF hg9; have hv9 : w9.cell? ⟨gb, 0, none⟩ = some (.slice Af m cf) := cell_of_row _ _ 0 _ _ (0, 0) hF9; have hf9 : w9.frozen? ⟨gb, 0, none⟩ = false := (by simp [World.frozen?, hF9]); obtain ⟨A9, c9, rfl, _⟩ := own_shape ho9)
                  all_goals
                    have HFin := Lib.hid ((HXo.out _).setF hg9 (show w9.ownsRow (gb + 1) 33 4 (.slice A9 (m + 1) c9) (m + 1) (fcs (G ++ (if (x.rem.take (j + 1)).contains f.num then [f] else []))) from by rw [HNw.out, if_pos rfl, fcs_app]; exact ho9))
                    clear ho9 hg9 hat9 hF9 hv9 hf9 hx9 HXo
                    go_wp2
                    go_roundw
                    case rel => exact ⟨j + 1, A9, m + 1, c9, hlt2, by go_num, HFin.out⟩
                    case measure => simp [intOf]; omega
                · have hne : ((y : Int) == (f.num : Int)) = false := by rw [beq_eq_false_iff_ne]; omega
                  have HNw : Hid ((x.rem.take (j + 1)).contains f.num = (x.rem.take j).contains f.num) := by
                    unfold Hid; rw [htk, List.contains_eq_mem, List.contains_eq_mem]; simp [Ne.symm hyf]
                  have HB := Lib.hid (fun q => hx.up (below_drewN (Below.refl wr.heap.size wr) q))
                  clear hy htk hx u1 u2 u3 u4 u5
                  go_wp2
                  go_quiet (fail)
                  go_wp2
                  go_roundw
                  case rel => exact ⟨j + 1, Af, m, cf, hlt2, by go_num, by rw [HNw.out]; exact HB.out _⟩
                  case measure => simp [intOf]; omega
              · have hnl2 : ¬ ((j : Int) < (n2 : Int)) := by omega
                rw [show x.rem.take j = x.rem from List.take_of_length_le (by have := HNr.out; omega), ← HGt.out] at hx
                have HB := Lib.hid hx
                clear hx u1 u2 u3 u4 u5
                go_wp2
                go_roundw
                case rel => exact ⟨k + 1, Af, m, cf, hlt, by go_num, HB.out⟩
                case measure => simp [intOf]; omega
          · have hnl2 : ¬ ((k : Int) < (n : Int)) := by omega
            rw [show l.take k = l from List.take_of_length_le (by have := HNl.out; omega)] at hx
            obtain ⟨u1, u2, u3, u4, u5, u6⟩ := HUp.out hx
            obtain ⟨b0, b1, b2, b3, b4⟩ := hx.cells
            have hm : m ≤ n := by
              have h1 := hx.f.1
              rw [fcs_len] at h1
              have h2 : (gone l x.rem).length ≤ l.length := List.length_filter_le _ _
              have h3 := HNl.out
              omega
            have HD := Lib.hid (doU_any (c1 := c4) (c2 := cf) (c3 := cr) u5 (own_lies hx.f) (own_lies hx.r) HS4.out (fun f hf => u3.sl f (List.mem_filter.1 hf).1) (fun q hq => by
              obtain ⟨f, hf, rfl⟩ := nms_mem.1 hq
              exact u3.sx.add f hf) (by omega) 0 0 0)
            have HU1 := Lib.hid u1; have HU4 := Lib.hid u4
            clear hx u1 u2 u3 u4 u5
            go_wp2_with fail
            refine Calls.mono HD.out ?_
            rintro e w9 ⟨A9, n9, c9, L9, v9, rfl, hb9, hl9, hn9, hm9, hu9, hs9, hc9⟩
            have HVf : Hid (v9 = 0 ∧ L9 = L3) := by
              rcases hc9 with ⟨q1, _, q3⟩ | ⟨_, q2, _⟩
              · exact ⟨q1, up_one hu9 HU3.out ((undo_perm HOk.out HP4.out q3).trans HP3.out.symm)⟩
              · exact (q2 (undo_ok HOk.out HP4.out)).elim
            obtain ⟨rfl, hL⟩ := HVf.out
            have hn93 : n3 = n9 := by rw [← HN3.out, ← hn9, hL]
            subst hn93 hL
            have HSm := Lib.hid (sameF_yes (c := c9) (c2 := c3) hl9 (up_lies HU4.out hb9) (by omega))
            have HW9 := Lib.hid (be_trans HU1.out hb9)
            clear b0 b1 b2 b3 b4 hb9 hl9 hn9 hu9 hs9 hc9 HD
            go_wp2_with fail
            with_reducible refine Calls.mono HSm.out ?_
            rintro e w10 ⟨rfl, hb10⟩
            have HFn := Lib.hid (be_trans HW9.out hb10)
            clear hb10 HSm
            go_wp2
            go_ret
            exact ⟨rfl, HFn.out⟩
end Go.Proofs.Ytbnndajpjhgafaa
