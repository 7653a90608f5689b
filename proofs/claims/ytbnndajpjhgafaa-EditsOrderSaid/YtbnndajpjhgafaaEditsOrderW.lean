/-
  The walk of EditsOrder.
-/
import Derived.Test.YtbnndajpjhgafaaEdO
namespace Go.Proofs.Ytbnndajpjhgafaa
open Go.RowKit
set_option linter.unusedVariables false
set_option maxRecDepth 100000

set_option maxHeartbeats 16000000 in
theorem editsOrder_walk (A : Option Addr) (n c : Nat) (l : List Fi) (A1 : Option Addr) (n1 c1 : Nat) (A2 : Option Addr) (n2 c2 : Nat) (x : Edt) (W : World) (hl : Lies W W.heap.size 4 A n (fcs l)) (hsl : ∀ f ∈ l, szFi f) (hnc : n ≤ c) (hc : c ≤ 140737488351232)
    (ha : Lies W W.heap.size 4 A1 n1 (fcs x.add)) (hr : Lies W W.heap.size 1 A2 n2 (kvs x.rem)) (hsa : ∀ f ∈ x.add, szFi f) (hsx : SzEd x) (hc1 : n1 ≤ c1 ∧ c1 ≤ 140737488351232) (hc2 : n2 ≤ c2 ∧ c2 ≤ 140737488351232) :
    Calls Try.prog 4 #[.slice A n c, edV A1 n1 c1 A2 n2 c2 x] W fun e W' => e = .returned (.bool true) ∧ Below W.heap.size W W' := by
  have HL0 : Hid (EdArg W A n l A1 n1 A2 n2 x) := ⟨hl, ha, hr, hsl, hsa, hsx⟩
  have hE : EtAt (edW W A1 n1 c1 A2 n2 c2 x.jn x.nx x.sq) W.heap.size A1 n1 c1 A2 n2 c2 x.jn x.nx x.sq := heap_alloc_new W _
  have hB : Below W.heap.size W (edW W A1 n1 c1 A2 n2 c2 x.jn x.nx x.sq) := al_below W _
  obtain ⟨W0, hW0⟩ : ∃ W0, edW W A1 n1 c1 A2 n2 c2 x.jn x.nx x.sq = W0 := ⟨_, rfl⟩
  rw [hW0] at hE hB
  obtain ⟨g, hg⟩ : ∃ g, W.heap.size = g := ⟨_, rfl⟩
  rw [hg] at hE
  have HB := Lib.hid hB; have HE := Lib.hid hE
  have HNl := Lib.hid hl.flen; have HNa := Lib.hid ha.flen; have HNr := Lib.hid hr.klen
  clear hl ha hr hsl hsa hsx hB hE
  unfold edV
  go_enter Try.func4, Try.ntmps4
  go_wp2_with fail
  have HG := Lib.hid hg
  clear hg hW0
  with_reducible refine Calls.mono (alive11_any W0) ?_
  rintro e w1 ⟨rfl, hb1⟩
  have H1 := Lib.hid (be_trans HB.out hb1)
  have HE1 := Lib.hid (HE.out.below hb1 HE.out.lt)
  have HA1 := Lib.hid (HL0.out.up H1.out)
  obtain ⟨k0, k1, k2, k3, k4⟩ := HE1.out.cells
  have HGr := Lib.hid (great11_any (c := c) (c1 := c1) (c2 := c2) (j := x.jn) (x := x.nx) (s := x.sq) (P2 := A2) HA1.out.hl HA1.out.sl HA1.out.ha HA1.out.sa (by omega) (by omega) (by omega : n2 ≤ 140737488351232))
  clear hb1 HB HE HL0
  go_wp2_with fail
  with_reducible refine Calls.mono HGr.out ?_
  rintro e w2 ⟨b, rfl, hb3, hb2⟩
  have H2 := Lib.hid (be_trans H1.out hb2)
  have HE2 := Lib.hid (HE1.out.below hb2 HE1.out.lt)
  have HA2 := Lib.hid (HA1.out.up hb2)
  have H300 := Lib.hid hb3
  clear hb2 hb3 HGr HE1 HA1 k0 k1 k2 k3 k4 H1
  cases b with
  | true =>
    go_wp2_with fail
    with_reducible refine Calls.mono (alive11_any w2) ?_
    rintro e w3 ⟨rfl, hb3⟩
    have HF := Lib.hid (be_trans H2.out hb3)
    clear hb3
    go_wp2
    go_ret
    exact ⟨rfl, HF.out⟩
  | false =>
    have hn300 : n + n1 + n2 ≤ 300 := H300.out rfl
    obtain ⟨k0, k1, k2, k3, k4⟩ := HE2.out.cells
    have HD := Lib.hid (HA2.out.do_ (c := c) (c1 := c1) (c2 := c2) (by omega) x.jn x.nx x.sq)
    go_wp2_with fail
    with_reducible refine Calls.mono HD.out ?_
    rintro e w3 ⟨hb3, (⟨hok, A3, n3, c3, L, rfl, hp, hu, hn3, ho⟩ | ⟨hno, rfl⟩)⟩
    case inr =>
      have HF := Lib.hid (be_trans H2.out hb3)
      clear hb3 HD
      go_wp2
      go_ret
      exact ⟨rfl, HF.out⟩
    have HW := Lib.hid (be_trans H2.out hb3)
    have HE3 := Lib.hid (HE2.out.below hb3 HE2.out.lt)
    have HA3 := Lib.hid (HA2.out.up hb3)
    have HLo := Lib.hid (own_lies ho)
    have HP := Lib.hid hp; have HU := Lib.hid hu; have HN3 := Lib.hid hn3
    have HLen : Hid (n3 = (left l x.rem).length + n1 ∧ (left l x.rem).length ≤ n) := ⟨by rw [← hn3, hp.length_eq, List.length_append, HNa.out], by rw [← HNl.out]; exact List.length_filter_le _ _⟩
    have hl3 : n3 ≤ 300 := by have := HLen.out; omega
    have HIN : Hid (∀ (f : Fi) (w' : World), Below w3.heap.size w3 w' → f ∈ L → Calls Try.prog 19 #[.slice A3 n3 c3, .agg #[.int .u32 (f.num : Int), .int .i64 f.lv, .string f.a, .string f.z]] w' fun e w'' => e = .returned (.bool true) ∧ Below w3.heap.size w3 w'') := fun f w' hb hf =>
      (in11_any f (up_lies HLo.out hb) (by omega)).mono fun e w'' ⟨b, he, hbt, hb2⟩ => ⟨by rw [he, hbt.2 hf], be_trans hb hb2⟩
    have HKe : Hid (∀ w', Below w3.heap.size w3 w' → EtAt w' g A1 n1 c1 A2 n2 c2 x.jn x.nx x.sq) := fun w' hb => HE3.out.below hb HE3.out.lt
    clear hb3 HD hp hu hn3 ho H2 HE2 HA2 k0 k1 k2 k3 k4 hok H300
    go_wp2_with fail
    go_loopw [7] (fun i wr => ∃ k q : Nat, 1 ≤ k ∧ k ≤ n3 + 1 ∧ i = .int .i64 (k : Int) ∧ wr = w3.drewN q) (fun i _ => n3 + 1 - (intOf i).toNat)
    case atStart => exact ⟨1, 0, Nat.le_refl _, by omega, rfl, rfl⟩
    case round =>
      obtain ⟨k, q, hk1, hk, rfl, rfl⟩ := hrel
      by_cases hlt : k < n3
      · obtain ⟨m, hm⟩ : ∃ m, k - 1 = m := ⟨_, rfl⟩
        have hm3 : m < n3 := by omega
        obtain ⟨b, o, f, rfl, hbB, hf, e0, e1, _, _⟩ := HLo.out.file hm3
        obtain ⟨b', o', f2, he, _, hf2, d0, d1, _, _⟩ := HLo.out.file hlt
        injection he with he
        injection he with he1 he2 _
        subst he1 he2
        have hlf := up_at HU.out hf hf2 (by omega)
        have e7 : (k : Int) - 1 = (m : Int) := by omega
        have hi0 : (0 : Int) ≤ (k : Int) := by omega
        have hi1 : (k : Int) < (n3 : Int) := by omega
        have hi2 : (0 : Int) ≤ (m : Int) := by omega
        have hi3 : (m : Int) < (n3 : Int) := by omega
        have hgt : decide (f2.lv < f.lv) = false := by
          rw [decide_eq_false_iff_not]; unfold ltFi at hlf; omega
        clear hf hf2 hm
        by_cases hlv : f.lv = f2.lv
        · have hnn : ¬ (f2.num ≤ f.num) := by unfold ltFi at hlf; omega
          clear hlf
          rw [hlv] at e1 hgt
          clear hlv
          go_wp2
          go_quiet (fail)
          go_wp2
          go_roundw
          case rel => exact ⟨k + 1, _, by omega, by omega, by go_num, by first | rfl | (rw [World.drewN_drewN])⟩
          case measure => simp [intOf]; omega
        · have hne : (f.lv == f2.lv) = false := by rw [beq_eq_false_iff_ne]; exact hlv
          clear hlf hlv
          go_wp2
          go_quiet (fail)
          go_wp2
          go_roundw
          case rel => exact ⟨k + 1, _, by omega, by omega, by go_num, by first | rfl | (rw [World.drewN_drewN])⟩
          case measure => simp [intOf]; omega
      · have hnl : ¬ ((k : Int) < (n3 : Int)) := by omega
        have HB0 : Hid (Below w3.heap.size w3 (w3.drewN q)) := below_drewN (Below.refl _ _) q
        go_wp2_with fail
        go_loopw [8, 9] (fun m i wr => ∃ k : Nat, k ≤ n ∧ i = .int .i64 (k : Int) ∧ m = .int .i64 (((left (l.take k) x.rem).length : Nat) : Int) ∧ Below w3.heap.size w3 wr) (fun _ i _ => n - (intOf i).toNat)
        case atStart => exact ⟨0, Nat.zero_le _, rfl, rfl, HB0.out⟩
        case round =>
          clear HB0 hnl hlt hk hk1
          obtain ⟨i, hi, rfl, rfl, hb⟩ := hrel
          by_cases hlt : i < n
          · obtain ⟨b, o, f, rfl, hbB, hf, e0, e1, e2, e3⟩ := ((HA3.out.up hb).hl).file hlt
            have hi0 : (0 : Int) ≤ (i : Int) := by omega
            have hi1 : (i : Int) < (n : Int) := by omega
            have HBw := Lib.hid hb; have HF := Lib.hid hf
            have HSt := Lib.hid (left_take (r := x.rem) hf)
            obtain ⟨s, hs⟩ : ∃ s, (left (l.take i) x.rem).length = s := ⟨_, rfl⟩
            rw [hs]
            have HS := Lib.hid hs
            have hs2 : s ≤ 300 := by rw [← hs]; exact Nat.le_trans (List.length_filter_le _ _) (by rw [List.length_take]; omega)
            clear hb hf hs hbB
            go_wp2_with fail
            go_loopw [10, 11] (fun gone j wr' => ∃ k q : Nat, k ≤ n2 ∧ j = .int .i64 (k : Int) ∧ gone = .bool ((x.rem.take k).contains f.num) ∧ wr' = wr.drewN q) (fun _ j _ => n2 - (intOf j).toNat)
            case atStart => exact ⟨0, 0, Nat.zero_le _, rfl, rfl, rfl⟩
            case round =>
              obtain ⟨k, q, hk, rfl, rfl, rfl⟩ := hrel
              have hbq := below_drewN HBw.out q
              obtain ⟨k0, k1, k2, k3, k4⟩ := (HKe.out _ HBw.out).cells
              obtain ⟨gb, hgb⟩ : ∃ gb, (x.rem.take k).contains f.num = gb := ⟨_, rfl⟩
              rw [hgb]
              by_cases hlt2 : k < n2
              · obtain ⟨b5, o5, y, rfl, _, hy, d0⟩ := ((HA3.out.up HBw.out).hr).num hlt2
                have HSk : Hid ((x.rem.take (k + 1)).contains f.num = (gb || (y == f.num))) := by
                  unfold Hid
                  rw [List.take_add_one, hy, ← hgb]
                  show (x.rem.take k ++ [y]).contains f.num = _
                  rw [List.contains_eq_any_beq, List.contains_eq_any_beq, List.any_append]
                  simp [Bool.beq_comm]
                have hj0 : (0 : Int) ≤ (k : Int) := by omega
                have hj1 : (k : Int) < (n2 : Int) := by omega
                clear hy hgb hbq
                cases gb with
                | true =>
                  go_wp2
                  go_quiet (fail)
                  go_wp2
                  go_roundw
                  case rel => exact ⟨k + 1, _, hlt2, by go_num, by rw [HSk.out]; rfl, by first | rfl | (rw [World.drewN_drewN])⟩
                  case measure => simp [intOf]; omega
                | false =>
                  by_cases hyf : y = f.num
                  · subst hyf
                    go_wp2
                    go_quiet (fail)
                    go_wp2
                    go_roundw
                    case rel => exact ⟨k + 1, _, hlt2, by go_num, by rw [HSk.out]; simp, by first | rfl | (rw [World.drewN_drewN])⟩
                    case measure => simp [intOf]; omega
                  · have hne : ((y : Int) == (f.num : Int)) = false := by rw [beq_eq_false_iff_ne]; omega
                    have HNe : Hid ((y == f.num) = false) := by unfold Hid; rw [beq_eq_false_iff_ne]; exact hyf
                    go_wp2
                    go_quiet (fail)
                    go_wp2
                    go_roundw
                    case rel => exact ⟨k + 1, _, hlt2, by go_num, by rw [HSk.out, HNe.out]; rfl, by first | rfl | (rw [World.drewN_drewN])⟩
                    case measure => simp [intOf]; omega
              · have hgr : x.rem.contains f.num = gb := by rw [← hgb, List.take_of_length_le (by have := HNr.out; omega)]
                have HSt2 : Hid (left (l.take (i + 1)) x.rem = left (l.take i) x.rem ++ (if gb then [] else [f])) := by rw [← hgr]; exact HSt.out
                have HBq := Lib.hid hbq
                have HGr := Lib.hid hgr
                clear hbq hgr hgb HSt
                cases gb with
                | true =>
                  go_wp2
                  go_roundw
                  case rel => exact ⟨i + 1, hlt, by go_num, by rw [HSt2.out, ← HS.out]; simp, HBq.out⟩
                  case measure => simp [intOf]; omega
                | false =>
                  have hmem : f ∈ L := HP.out.mem_iff.2 (List.mem_append_left _ (mem_left.2 ⟨List.mem_of_getElem? HF.out, fun h => by
                    have := HGr.out
                    rw [List.contains_eq_mem, decide_eq_false_iff_not] at this
                    exact this h⟩))
                  have HI := Lib.hid (HIN.out f _ HBq.out hmem)
                  clear hmem
                  go_wp2_with fail
                  with_reducible refine Calls.mono HI.out ?_
                  rintro e w5 ⟨rfl, hb5⟩
                  have HB5 := Lib.hid hb5
                  clear hb5 HI
                  go_wp2
                  go_roundw
                  case rel => exact ⟨i + 1, hlt, by go_num, by rw [HSt2.out, List.length_append, HS.out]; simp, HB5.out⟩
                  case measure => simp [intOf]; omega
          · have hnl : ¬ ((i : Int) < (n : Int)) := by omega
            rw [show l.take i = l from List.take_of_length_le (by have := HNl.out; omega)]
            obtain ⟨s, hs⟩ : ∃ s, (left l x.rem).length = s := ⟨_, rfl⟩
            rw [hs]
            have HSn : Hid (n3 = s + n1 ∧ s ≤ n) := by rw [← hs]; exact HLen.out
            have HBw := Lib.hid hb
            clear hb hs
            go_wp2_with fail
            go_loopw [12] (fun i wr => ∃ k : Nat, k ≤ n1 ∧ i = .int .i64 (k : Int) ∧ Below w3.heap.size w3 wr) (fun i _ => n1 - (intOf i).toNat)
            case atStart => exact ⟨0, Nat.zero_le _, rfl, HBw.out⟩
            case round =>
              obtain ⟨k, hk, rfl, hb⟩ := hrel
              obtain ⟨k0, k1, k2, k3, k4⟩ := (HKe.out _ hb).cells
              by_cases hlt2 : k < n1
              · obtain ⟨b5, o5, f, rfl, _, hf, d0, d1, d2, d3⟩ := ((HA3.out.up hb).ha).file hlt2
                have hmem : f ∈ L := HP.out.mem_iff.2 (List.mem_append_right _ (List.mem_of_getElem? hf))
                have HI := Lib.hid (HIN.out f _ hb hmem)
                have hj0 : (0 : Int) ≤ (k : Int) := by omega
                have hj1 : (k : Int) < (n1 : Int) := by omega
                clear hmem hf hb
                go_wp2_with fail
                with_reducible refine Calls.mono HI.out ?_
                rintro e w5 ⟨rfl, hb5⟩
                have HB5 := Lib.hid hb5
                clear hb5 HI
                go_wp2
                go_roundw
                case rel => exact ⟨k + 1, hlt2, by go_num, HB5.out⟩
                case measure => simp [intOf]; omega
              · have hnl2 : ¬ ((k : Int) < (n1 : Int)) := by omega
                have w1 : IntKind.i64.wrap ((s : Int) + (n1 : Int)) = (s : Int) + (n1 : Int) := by
                  have := HSn.out; rw [IntWalk.i64_in] <;> omega
                have he : ((n3 : Int) == (s : Int) + (n1 : Int)) = true := by
                  have := HSn.out; rw [beq_iff_eq]; omega
                have HF := Lib.hid (be_trans HW.out hb)
                clear hb
                go_wp2
                go_ret
                exact ⟨rfl, HF.out⟩
end Go.Proofs.Ytbnndajpjhgafaa
