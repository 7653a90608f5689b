/-
  The walk of EditsNone.
-/
import Derived.Test.YtbnndajpjhgafaaEdX
namespace Go.Proofs.Ytbnndajpjhgafaa
open Go.RowKit
set_option linter.unusedVariables false
set_option maxRecDepth 100000

set_option maxHeartbeats 4000000 in
theorem editsNone_walk (A : Option Addr) (n c : Nat) (l : List Fi) (A1 : Option Addr) (n1 c1 : Nat) (A2 : Option Addr) (n2 c2 : Nat) (x : Edt) (W : World) (hl : Lies W W.heap.size 4 A n (fcs l)) (hsl : ∀ f ∈ l, szFi f) (hnc : n ≤ c) (hc : c ≤ 140737488351232)
    (ha : Lies W W.heap.size 4 A1 n1 (fcs x.add)) (hr : Lies W W.heap.size 1 A2 n2 (kvs x.rem)) (hsa : ∀ f ∈ x.add, szFi f) (hsx : SzEd x) (hc1 : n1 ≤ c1 ∧ c1 ≤ 140737488351232) (hc2 : n2 ≤ c2 ∧ c2 ≤ 140737488351232) :
    Calls Try.prog 8 #[.slice A n c, edV A1 n1 c1 A2 n2 c2 x] W fun e W' => e = .returned (.bool true) ∧ Below W.heap.size W W' := by
  have HL0 : Hid (EdArg W A n l A1 n1 A2 n2 x) := ⟨hl, ha, hr, hsl, hsa, hsx⟩
  have hE : EtAt (edW W A1 n1 c1 A2 n2 c2 x.jn x.nx x.sq) W.heap.size A1 n1 c1 A2 n2 c2 x.jn x.nx x.sq := heap_alloc_new W _
  have hB : Below W.heap.size W (edW W A1 n1 c1 A2 n2 c2 x.jn x.nx x.sq) := al_below W _
  obtain ⟨W0, hW0⟩ : ∃ W0, edW W A1 n1 c1 A2 n2 c2 x.jn x.nx x.sq = W0 := ⟨_, rfl⟩
  rw [hW0] at hE hB
  obtain ⟨g, hg⟩ : ∃ g, W.heap.size = g := ⟨_, rfl⟩
  rw [hg] at hE
  have HB := Lib.hid hB; have HE := Lib.hid hE
  have HNl := Lib.hid hl.flen; have HNa := Lib.hid ha.flen; have HNr := Lib.hid hr.klen
  clear hl ha hr hsl hsa hsx hB hE
  unfold edV
  go_enter Try.func8, Try.ntmps8
  go_wp2_with fail
  have HG := Lib.hid hg
  clear hg hW0
  with_reducible refine Calls.mono (alive11_any W0) ?_
  rintro e w1 ⟨rfl, hb1⟩
  have H1 := Lib.hid (be_trans HB.out hb1)
  have HE1 := Lib.hid (HE.out.below hb1 HE.out.lt)
  have HA1 := Lib.hid (HL0.out.up H1.out)
  obtain ⟨k0, k1, k2, k3, k4⟩ := HE1.out.cells
  have HGr := Lib.hid (great11_any (c := c) (c1 := c1) (c2 := c2) (j := x.jn) (x := x.nx) (s := x.sq) (P2 := A2) HA1.out.hl HA1.out.sl HA1.out.ha HA1.out.sa (by omega) (by omega) (by omega : n2 ≤ 140737488351232))
  clear hb1 HB HE HL0
  go_wp2_with fail
  with_reducible refine Calls.mono HGr.out ?_
  rintro e w2 ⟨b, rfl, hb3, hb2⟩
  have H2 := Lib.hid (be_trans H1.out hb2)
  have HE2 := Lib.hid (HE1.out.below hb2 HE1.out.lt)
  have HA2 := Lib.hid (HA1.out.up hb2)
  have H300 := Lib.hid hb3
  clear hb2 hb3 HGr HE1 HA1 k0 k1 k2 k3 k4 H1
  cases b with
  | true =>
    go_wp2_with fail
    with_reducible refine Calls.mono (alive11_any w2) ?_
    rintro e w3 ⟨rfl, hb3⟩
    have HF := Lib.hid (be_trans H2.out hb3)
    clear hb3
    go_wp2
    go_ret
    exact ⟨rfl, HF.out⟩
  | false =>
    have hn300 : n + n1 + n2 ≤ 300 := H300.out rfl
    obtain ⟨k0, k1, k2, k3, k4⟩ := HE2.out.cells
    go_wp2_with fail
    have hEb : EtAt (edW w2 none 0 0 none 0 0 x.jn x.nx x.sq) w2.heap.size none 0 0 none 0 0 x.jn x.nx x.sq := heap_alloc_new w2 _
    have hb3 : Below w2.heap.size w2 (edW w2 none 0 0 none 0 0 x.jn x.nx x.sq) := al_below w2 _
    obtain ⟨w3, hw3⟩ : ∃ w3, edW w2 none 0 0 none 0 0 x.jn x.nx x.sq = w3 := ⟨_, rfl⟩
    rw [show w2.alloc (.cells #[.slice none 0 0, .slice none 0 0, .int .u32 (x.jn : Int), .int .u32 (x.nx : Int), .int .u64 (x.sq : Int)] 27) = w3 from hw3]
    rw [hw3] at hEb hb3
    obtain ⟨gb, hgb⟩ : ∃ gb, w2.heap.size = gb := ⟨_, rfl⟩
    rw [hgb] at hEb ⊢
    have H3 := Lib.hid (be_trans H2.out hb3)
    have HE3 := Lib.hid (HE2.out.below hb3 HE2.out.lt)
    have HA3 := Lib.hid (HA2.out.up hb3)
    have HEb := Lib.hid hEb
    have HDa := Lib.hid (doB_any (c := c) HA3.out.hl HA3.out.sl (by omega) x.jn x.nx x.sq)
    clear hEb hb3 hw3 hgb HE2 HA2 H2 k0 k1 k2 k3 k4
    with_reducible refine Calls.mono HDa.out ?_
    rintro e w4 ⟨A4, n4, c4, L4, v4, rfl, hb4, hl4, hn4, hm4, hu4, hs4, hc4⟩
    have H4 := Lib.hid (be_trans H3.out hb4)
    have HE4 := Lib.hid (HE3.out.below hb4 HE3.out.lt)
    have HEb4 := Lib.hid (HEb.out.below hb4 HEb.out.lt)
    have HA4 := Lib.hid (HA3.out.up hb4)
    have HDb := Lib.hid (doU_any (c1 := c) (c2 := c1) (c3 := c2) HA4.out.hl HA4.out.ha HA4.out.hr HA4.out.sl HA4.out.sa HA4.out.sx.rem (by omega) x.jn x.nx x.sq)
    have HQ4 := Lib.hid hl4; have HN4 := Lib.hid hn4; have HU4 := Lib.hid hu4; have HS4 := Lib.hid hs4; have HC4 := Lib.hid hc4
    obtain ⟨k0, k1, k2, k3, k4⟩ := HE4.out.cells
    clear hb4 hl4 hn4 hu4 hs4 hc4 HDa HE3 HEb H3 HA3
    go_wp2_with fail
    with_reducible refine Calls.mono HDb.out ?_
    rintro e w5 ⟨A5, n5, c5, L5, v5, rfl, hb5, hl5, hn5, hm5, hu5, hs5, hc5⟩
    have H5 := Lib.hid (be_trans H4.out hb5)
    have HEb5 := Lib.hid (HEb4.out.below hb5 HEb4.out.lt)
    have HA5 := Lib.hid (HA4.out.up hb5)
    have HQ45 := Lib.hid (up_lies HQ4.out hb5)
    have HDc := Lib.hid (doB_any (c := c4) HQ45.out HS4.out (by omega) x.jn x.nx x.sq)
    have HQ5 := Lib.hid hl5; have HN5 := Lib.hid hn5; have HU5 := Lib.hid hu5; have HS5 := Lib.hid hs5; have HC5 := Lib.hid hc5
    clear k0 k1 k2 k3 k4
    obtain ⟨k0, k1, k2, k3, k4⟩ := HEb5.out.cells
    clear hb5 hl5 hn5 hu5 hs5 hc5 HDb HE4 HEb4 H4 HA4 HQ4
    go_wp2_with fail
    with_reducible refine Calls.mono HDc.out ?_
    rintro e w6 ⟨A6, n6, c6, L6, v6, rfl, hb6, hl6, hn6, hm6, hu6, hs6, hc6⟩
    have H6 := Lib.hid (be_trans H5.out hb6)
    have HEb6 := Lib.hid (HEb5.out.below hb6 HEb5.out.lt)
    have HA6 := Lib.hid (HA5.out.up hb6)
    have HQ46 := Lib.hid (up_lies HQ45.out hb6); have HQ56 := Lib.hid (up_lies HQ5.out hb6)
    have HDd := Lib.hid (doB_any (c := c5) HQ56.out HS5.out (by omega) x.jn x.nx x.sq)
    have HQ6 := Lib.hid hl6; have HN6 := Lib.hid hn6; have HU6 := Lib.hid hu6; have HC6 := Lib.hid hc6
    clear k0 k1 k2 k3 k4
    obtain ⟨k0, k1, k2, k3, k4⟩ := HEb6.out.cells
    clear hb6 hl6 hn6 hu6 hs6 hc6 HDc HEb5 H5 HA5 HQ45 HQ5
    go_wp2_with fail
    with_reducible refine Calls.mono HDd.out ?_
    rintro e w7 ⟨A7, n7, c7, L7, v7, rfl, hb7, hl7, hn7, hm7, hu7, hs7, hc7⟩
    have H7 := Lib.hid (be_trans H6.out hb7)
    have HA7 := Lib.hid (HA6.out.up hb7)
    have HQ47 := Lib.hid (up_lies HQ46.out hb7); have HQ57 := Lib.hid (up_lies HQ56.out hb7); have HQ67 := Lib.hid (up_lies HQ6.out hb7); have HQ7 := Lib.hid hl7
    have HV : Hid ((v4 = 1 ∧ v5 = 1) ∨ (v4 = 0 ∧ L4.Perm l ∧ v6 = 0 ∧ L6 = L4 ∧ (v5 = 1 ∨ (v5 = 0 ∧ v7 = 0 ∧ L7 = L5)))) := by
      have again : ∀ {M N : List Fi} {v : Int}, AddOk [] M → UpFi M → UpFi N → ((v = 0 ∧ DoOk M [] [] ∧ N.Perm (left M [] ++ [])) ∨ (v = 1 ∧ ¬DoOk M [] [] ∧ N = [])) → v = 0 ∧ N = M := fun {M N v} hM hu hu2 h => by
        rcases h with ⟨h1, _, h2⟩ | ⟨_, h2, _⟩
        · rw [left_nil, List.append_nil] at h2
          exact ⟨h1, up_one hu2 hu h2⟩
        · exact (h2 (doOk_bare hM)).elim
      rcases HC4.out with ⟨q1, q2, q3⟩ | ⟨q1, q2, q3⟩
      · rw [left_nil, List.append_nil] at q3
        obtain ⟨r1, r2⟩ := again (addOk_perm q2.1 q3) HU4.out HU6.out HC6.out
        refine .inr ⟨q1, q3, r1, r2, ?_⟩
        rcases HC5.out with ⟨s1, s2, s3⟩ | ⟨s1, _, _⟩
        · obtain ⟨t1, t2⟩ := again (addOk_perm (doOk_after s2) s3) HU5.out hu7 hc7
          exact .inr ⟨s1, t1, t2⟩
        · exact .inl s1
      · rcases HC5.out with ⟨_, s2, _⟩ | ⟨s1, _, _⟩
        · exact (q2 (doOk_bare s2.1)).elim
        · exact .inl ⟨q1, s1⟩
    have HN7 := Lib.hid hn7
    clear k0 k1 k2 k3 k4
    clear hb7 hl7 hn7 hu7 hs7 hc7 HDd HEb6 H6 HA6 HQ46 HQ56 HQ6 HC4 HC5 HC6
    rcases HV.out with ⟨rfl, rfl⟩ | ⟨rfl, hp, rfl, hL6, hv5⟩
    · go_wp2
      go_ret
      exact ⟨rfl, H7.out⟩
    · have HP := Lib.hid hp
      have hn46 : n4 = n6 := by rw [← HN6.out, hL6, HN4.out]
      have hn4l : n = n4 := by rw [← HN4.out, hp.length_eq, HNl.out]
      subst hn46 hL6 hn4l
      have HV5 := Lib.hid hv5
      have HIN : Hid (∀ (f : Fi) (w' : World), Below w7.heap.size w7 w' → f ∈ l → Calls Try.prog 19 #[.slice A4 n c4, .agg #[.int .u32 (f.num : Int), .int .i64 f.lv, .string f.a, .string f.z]] w' fun e w'' => e = .returned (.bool true) ∧ Below w7.heap.size w7 w'') := fun f w' hb hf =>
        (in11_any f (up_lies HQ47.out hb) (by omega)).mono fun e w'' ⟨b, he, hbt, hb2⟩ => ⟨by rw [he, hbt.2 (HP.out.mem_iff.2 hf)], be_trans hb hb2⟩
      clear hp hv5 HV
      go_wp2_with fail
      go_loopw [14] (fun i wr => ∃ k : Nat, k ≤ n ∧ i = .int .i64 (k : Int) ∧ Below w7.heap.size w7 wr) (fun i _ => n - (intOf i).toNat)
      case atStart => exact ⟨0, Nat.zero_le _, rfl, Below.refl _ _⟩
      case round =>
        obtain ⟨k, hk, rfl, hb⟩ := hrel
        by_cases hlt : k < n
        · obtain ⟨b, o, f, rfl, _, hf, d0, d1, d2, d3⟩ := ((HA7.out.up hb).hl).file hlt
          have HI := Lib.hid (HIN.out f _ hb (List.mem_of_getElem? hf))
          have hj0 : (0 : Int) ≤ (k : Int) := by omega
          have hj1 : (k : Int) < (n : Int) := by omega
          clear hf hb
          go_wp2_with fail
          with_reducible refine Calls.mono HI.out ?_
          rintro e w8 ⟨rfl, hb8⟩
          have HB8 := Lib.hid hb8
          clear hb8 HI
          go_wp2
          go_roundw
          case rel => exact ⟨k + 1, hlt, by go_num, HB8.out⟩
          case measure => simp [intOf]; omega
        · have hnl : ¬ ((k : Int) < (n : Int)) := by omega
          have HSm := Lib.hid (sameF_yes (c := c4) (c2 := c6) (up_lies HQ47.out hb) (up_lies HQ67.out hb) (by omega))
          have HBw := Lib.hid (be_trans H7.out hb); have HB7 := Lib.hid hb
          clear hb
          go_wp2_with fail
          with_reducible refine Calls.mono HSm.out ?_
          rintro e w8 ⟨rfl, hb8⟩
          have HB8 := Lib.hid (be_trans HBw.out hb8); have HB78 := Lib.hid (be_trans HB7.out hb8)
          clear hb8 HSm
          rcases HV5.out with rfl | ⟨rfl, rfl, hL7⟩
          · go_wp2
            go_ret
            exact ⟨rfl, HB8.out⟩
          · have hn57 : n5 = n7 := by rw [← HN7.out, hL7, HN5.out]
            subst hn57 hL7
            have HSm := Lib.hid (sameF_yes (c := c5) (c2 := c7) (up_lies HQ57.out HB78.out) (up_lies HQ7.out HB78.out) (by omega))
            go_wp2_with fail
            with_reducible refine Calls.mono HSm.out ?_
            rintro e w9 ⟨rfl, hb9⟩
            have HF := Lib.hid (be_trans HB8.out hb9)
            clear hb9 HSm
            go_wp2
            go_ret
            exact ⟨rfl, HF.out⟩
end Go.Proofs.Ytbnndajpjhgafaa
