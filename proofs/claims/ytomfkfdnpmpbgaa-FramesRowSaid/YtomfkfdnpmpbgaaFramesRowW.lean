/-
  The walk of FramesRow.
-/
import Derived.Test.YtomfkfdnpmpbgaaFramesBackW
import Derived.Test.YtomfkfdnpmpbgaaRecs
namespace Go.Proofs.Ytomfkfdnpmpbgaa
open Go.RowKit
set_option linter.unusedVariables false
set_option maxRecDepth 100000

/-- frames that stand behind one another -/
def frs (rs : List Rcd) : List UInt8 := (rs.map fun r => fr r.l).flatten
theorem frs_snoc (rs : List Rcd) (k : Nat) (r : Rcd) (h : rs[k]? = some r) : frs (rs.take (k + 1)) = frs (rs.take k) ++ fr r.l := by
  unfold frs
  rw [List.take_add_one, h]; simp
theorem frs_cons (rs : List Rcd) (k : Nat) (r : Rcd) (h : rs[k]? = some r) : frs (rs.drop k) = fr r.l ++ frs (rs.drop (k + 1)) := by
  obtain ⟨hk, he⟩ := List.getElem?_eq_some_iff.1 h
  unfold frs
  rw [List.drop_eq_getElem_cons hk, he]; simp
theorem frs_len (rs : List Rcd) (h : ∀ r ∈ rs, r.l.length = r.n) : (frs rs).length = rsum rs + 8 * rs.length := by
  unfold frs rsum
  induction rs with
  | nil => rfl
  | cons r rs ih =>
    have h1 := h r (by simp)
    have h2 := ih (fun x hx => h x (by simp [hx]))
    simp only [List.map_cons, List.flatten_cons, List.length_append, List.sum_cons, List.length_cons, fr_len] at h2 ⊢
    omega
theorem rsum_mem (rs : List Rcd) (r : Rcd) (h : r ∈ rs) : r.n ≤ rsum rs := by
  unfold rsum
  induction rs with
  | nil => cases h
  | cons x rs ih =>
    simp only [List.map_cons, List.sum_cons]
    rcases List.mem_cons.1 h with rfl | h
    · omega
    · have := ih h; omega
theorem rsum_le (rs : List Rcd) (k : Nat) : rsum (rs.take k) ≤ rsum rs := by
  unfold rsum
  induction rs generalizing k with
  | nil => simp
  | cons x rs ih => cases k with
    | zero => simp
    | succ k =>
      rw [List.take_succ_cons, List.map_cons, List.map_cons, List.sum_cons, List.sum_cons]
      exact Nat.add_le_add_left (ih k) _

theorem rsum_drop (rs : List Rcd) (k : Nat) : rsum (rs.drop k) ≤ rsum rs := by
  unfold rsum
  induction rs generalizing k with
  | nil => simp
  | cons x rs ih => cases k with
    | zero => simp
    | succ k =>
      rw [List.drop_succ_cons, List.map_cons, List.sum_cons]
      exact Nat.le_trans (ih k) (Nat.le_add_left _ _)

set_option maxHeartbeats 2000000 in
theorem framesRow_yes (A : Option Addr) (n c m1 : Nat) (rs : List Rcd) (w : World) (y : Lies w w.heap.size 1 A n (rs.map Rcd.v)) (u : Rcds w w.heap.size rs) (z : n ≤ c) (x : c ≤ 140737488351232) (hbig : 20 < n) :
    Calls Try.prog 5 #[.slice A n c, .int .u8 (m1 : Int)] w fun e w' => e = .returned (.bool true) ∧ Below w.heap.size w w' := by
  go_enter Try.func5, Try.ntmps5
  go_wp2_with fail
  refine (alive3_any w).mono ?_
  rintro e w1 ⟨rfl, hb1⟩
  have HB := Lib.hid hb1; clear hb1
  have hd : decide ((20 : Int) < (n : Int)) = true := by simp; omega
  go_wp2_with fail
  refine (alive3_any w1).mono ?_
  rintro e w3 ⟨rfl, hb3⟩
  have HB3 := Lib.hid (HB.out.trans (hb3.mono HB.out.size)); clear hb3 HB
  go_wp2
  go_ret
  exact ⟨rfl, HB3.out⟩

def R1 (w : World) (rs : List Rcd) (n : Nat) (v i : Value) (wr : World) : Prop :=
  ∃ k : Nat, k ≤ n ∧ i = .int .i64 (k : Int) ∧ wr.ownsRow w.heap.size 5 1 v (frs (rs.take k)).length ((frs (rs.take k)).map bv) ∧ Below w.heap.size w wr
def R2 (w : World) (rs : List Rcd) (tl : List UInt8) (n : Nat) (v i : Value) (wr : World) : Prop :=
  ∃ k : Nat, k ≤ n ∧ i = .int .i64 (k : Int) ∧ (∃ A c, v = .slice A (frs (rs.drop k) ++ tl).length c ∧ (frs (rs.drop k) ++ tl).length ≤ c ∧ c ≤ maxLen ∧ Lies wr wr.heap.size 1 A (frs (rs.drop k) ++ tl).length ((frs (rs.drop k) ++ tl).map bv)) ∧ Below w.heap.size w wr
theorem run_headB (w : World) (A : Option Addr) (n c h : Nat) (h3 : h ≤ c) :
    (Instr.slice 22 (.slice A n c) none (some (.int .u8 (h : Int))) none).run Try.prog w = .ok (.slice A h c) w := by
  obtain ⟨i0, hi, hz0, hz1, hz2⟩ := info_parts byte_info
  unfold Instr.slice
  simp [run_underlying Try.underlying22, Instr.sliceBounds, Instr.sliceBound, asIntOf, sizeOf, typeInfo, hi, h3]
  cases A <;> simp [Addr.add]

set_option maxHeartbeats 8000000 in
theorem framesRow_no (A : Option Addr) (n c m1 : Nat) (rs : List Rcd) (w : World) (y : Lies w w.heap.size 1 A n (rs.map Rcd.v)) (u : Rcds w w.heap.size rs) (z : n ≤ c) (x : c ≤ 140737488351232) (hm1 : m1 < 256) (hn : n ≤ 20) :
    Calls Try.prog 5 #[.slice A n c, .int .u8 (m1 : Int)] w fun e w' => e = .returned (.bool true) ∧ Below w.heap.size w w' := by
  obtain ⟨i0, hi, hz0, hz1, hz2⟩ := info_parts byte_info
  have hrl := y.rlen
  have Y := Lib.hid y; have U := Lib.hid u; clear y u
  have hd : decide ((20 : Int) < (n : Int)) = false := by simp; omega
  have kc := fun (w : World) (C : Array Value) (n c : Nat) => Lib.run_convert_bytes_const (P := Try.prog) w 22 5 C n c Try.underlying22 Try.underlying5
  go_enter Try.func5, Try.ntmps5
  go_wp2_with fail
  refine (alive3_any w).mono ?_
  rintro e w1 ⟨rfl, hb1⟩
  have HB := Lib.hid hb1; clear hb1
  go_wp2_with fail
  refine (recordsSize_any A n c rs w1 ((Y.out.below HB.out).more HB.out.size) ((U.out.below HB.out).more HB.out.size) (by omega)).mono ?_
  rintro e w2 ⟨s, rfl, rfl, hs, hsl⟩
  by_cases hbig : 20000 < s
  · have hd2 : decide ((20000 : Int) < (s : Int)) = true := by simp; omega
    go_wp2_with fail
    refine (alive3_any w1).mono ?_
    rintro e w3 ⟨rfl, hb3⟩
    have HB3 := Lib.hid (HB.out.trans (hb3.mono HB.out.size)); clear hb3 HB
    go_wp2
    go_ret
    exact ⟨rfl, HB3.out⟩
  · have hd2 : decide ((20000 : Int) < (s : Int)) = false := by simp; omega
    have hsum : rsum rs ≤ 20000 := by
      have h1 := hs (by omega)
      omega
    have HLen : Hid (∀ r ∈ rs, r.l.length = r.n) := fun r hr => U.out.len hr
    have HTake : Hid (∀ k, (frs (rs.take k)).length ≤ 20160) := fun k => by
      have h1 := frs_len (rs.take k) (fun r hr => HLen.out r (List.mem_of_mem_take hr))
      have h2 := rsum_le rs k
      have h3 : (rs.take k).length ≤ rs.length := by rw [List.length_take]; exact Nat.min_le_right _ _
      omega
    have HDrop : Hid (∀ k, (frs (rs.drop k)).length ≤ 20160) := fun k => by
      have h1 := frs_len (rs.drop k) (fun r hr => HLen.out r (List.mem_of_mem_drop hr))
      have h2 := rsum_drop rs k
      have h3 : (rs.drop k).length ≤ rs.length := by rw [List.length_drop]; exact Nat.sub_le _ _
      omega
    have HW1 := Lib.hid HB.out.size
    clear hs
    have HR0 : Hid (R1 w1 rs n (.slice none 0 0) (.int .i64 0) w1) := ⟨0, Nat.zero_le _, rfl, ⟨rfl, .inl ⟨rfl, rfl⟩⟩, Below.refl _ _⟩
    go_wp2
    go_loopw [5, 6] (fun v i wr => R1 w1 rs n v i wr) (fun _ i _ => n - (intOf i).toNat)
    case atStart => exact HR0.out
    case round =>
      clear HR0
      obtain ⟨k, hk, rfl, hown, hb⟩ := hrel
      have hbw : Below w.heap.size w wr := HB.out.trans (hb.mono HB.out.size)
      have hlen := HTake.out k
      by_cases hlt : k < n
      · obtain ⟨b, o, r, rfl, hbB, hu, hcell0⟩ := Y.out.rcd hlt
        have hmem := List.mem_of_getElem? hu
        have hrn : r.n ≤ 20000 := Nat.le_trans (rsum_mem rs r hmem) hsum
        have hcell : wr.cell? ⟨b, o + k, none⟩ = some (.slice r.A r.n r.c) := (hbw.cell hbB).trans hcell0
        have HSN := Lib.hid (frs_snoc rs k r hu)
        have PF := Lib.hid (framesPut_got r.A r.n r.c r.l wr ((((U.out r hmem).1.below hbw)).more hbw.size) (by omega))
        have HO := Lib.hid hown; have HBr := Lib.hid hb
        obtain ⟨A5, c5, rfl, hnc5, hcm5, _⟩ := own_shape hown
        have hrl2 := HLen.out r hmem
        clear hown hb hbw hcell0 hu hmem
        generalize hL : frs (rs.take k) = L at *
        generalize hLn : L.length = Ln at *
        go_wp2_with fail
        refine PF.out.mono ?_
        rintro e w3 ⟨g3, rfl, hown3, hb3⟩
        have O3 := own_below HO.out hb3
        have HB3 := Lib.hid (HBr.out.trans (hb3.mono HBr.out.size))
        have L3 := Lib.hid (Lies.of_own hown3)
        clear hown3 hb3 PF hcell
        go_wp2_with (at_builtin; refine wpList_app _ rfl (.tmp 46) (.tmp 47) 22 rfl w1.heap.size 5 i0 _ 1 1 Try.underlying22 hi hz0 hz1 hz2 rfl (by decide) (.slice A5 Ln c5) Ln (L.map bv) rfl O3 w3.heap.size (some ⟨g3, 0, none⟩) (r.n + 8) (r.n + 8) ((fr r.l).map bv) rfl L3.out (bv_one _) (by unfold maxLen; omega) (by omega) HB3.out.size ?_)
        intro v4 w4 hown4 hg4 _
        have hb4 : Below w1.heap.size w1 w4 := HB3.out.grown hg4 HB3.out.size (fun k hk => (O3.lt k hk).1)
        have hfl := fr_len r.l
        have R : Hid (R1 w1 rs n v4 (.int .i64 ((k : Int) + 1)) w4) := ⟨k + 1, hlt, by simp, by
          rw [HSN.out, List.length_append, List.map_append, hLn, hfl, hrl2]; exact hown4, hb4⟩
        clear hown4 hg4 hb4 O3 L3 HB3
        go_wp2
        go_roundw
        case rel => exact R.out
        case measure => simp [intOf]; omega
      · have hkn : k = n := by omega
        have hfull : rs.take k = rs := List.take_of_length_le (by omega)
        rw [hfull] at hown hlen
        have HO := Lib.hid hown
        have HBw := Lib.hid hbw
        have HS1 := Lib.hid hb.size
        clear hkn hfull hb hbw hown
        obtain ⟨wo, rfl⟩ : ∃ wo : World, wo = wr := ⟨_, rfl⟩
        obtain ⟨A5, c5, rfl, hnc5, hcm5, _⟩ := own_shape HO.out
        obtain ⟨L, hL⟩ : ∃ L, frs rs = L := ⟨_, rfl⟩
        rw [hL] at HO hnc5 hlen ⊢
        obtain ⟨Ln, hLn⟩ : ∃ Ln, L.length = Ln := ⟨_, rfl⟩
        rw [hLn] at HO hnc5 hlen ⊢
        have HLn := Lib.hid hLn; have HL := Lib.hid hL
        clear hLn hL HB
        go_wp2_with fail
        refine (framesPut_lit [108, 97, 115, 116] wo (4, 5) 12 4 rfl rfl (by decide)).mono ?_
        rintro e w3 ⟨g3, rfl, hown3, hb3⟩
        have O3 := own_below HO.out hb3
        have HB3 := Lib.hid (HBw.out.trans (hb3.mono HBw.out.size))
        have L3 : Lies w3 w3.heap.size 1 (some ⟨g3, 0, none⟩) 12 ((fr [108, 97, 115, 116]).map bv) := Lies.of_own hown3
        obtain ⟨q, hq⟩ : ∃ q, q = m1 % 12 := ⟨_, rfl⟩
        have hq12 : q < 12 := by omega
        obtain ⟨tl, htl⟩ : ∃ tl, (fr [108, 97, 115, 116]).take q = tl := ⟨_, rfl⟩
        have LT : Lies w3 w3.heap.size 1 (some ⟨g3, 0, none⟩) q (tl.map bv) := by
          have := lies_take L3 (m := q) (by omega)
          rw [htl] at this; exact this
        have HLT := Lib.hid LT
        have htll : tl.length = q := LT.blen
        have HG : Hid (gotF tl = ([], 0, 5)) := by
          unfold Hid
          rw [← htl]; exact got_cut [108, 97, 115, 116] (by decide) q (by simpa using hq12)
        have q1 : (m1 : Int) % 12 = (q : Int) := by omega
        have q2 : Int.tmod (m1 : Int) 12 = (q : Int) := by rw [Int.tmod_eq_emod_of_nonneg (by omega), q1]
        have cutq : ∀ W, (Instr.slice 22 (.slice (some ⟨g3, 0, none⟩) 12 12) none (some (.int .u8 (q : Int))) none).run Try.prog W = .ok (.slice (some ⟨g3, 0, none⟩) q 12) W := fun W => run_headB W _ 12 12 q (by omega)
        have hw1s : w1.heap.size ≤ w3.heap.size := Nat.le_trans HS1.out hb3.size
        clear hown3 hb3 L3 LT htl hq HO HBw
        go_wp2_with (at_builtin; refine wpList_app _ rfl (.tmp 62) (.tmp 66) 22 rfl w1.heap.size 5 i0 _ 1 1 Try.underlying22 hi hz0 hz1 hz2 rfl (by decide) (.slice A5 Ln c5) Ln (L.map bv) rfl O3 w3.heap.size (some ⟨g3, 0, none⟩) q 12 (tl.map bv) rfl HLT.out (bv_one _) (by unfold maxLen; omega) (by omega) hw1s ?_)
        intro v4 w4 hown4 hg4 _
        have hb4 : Below w.heap.size w w4 := HB3.out.grown hg4 HB3.out.size (fun k hk => Nat.le_trans HW1.out (O3.lt k hk).1)
        obtain ⟨A4, c4, rfl, hnc4, hcm4, _⟩ := own_shape hown4
        have L4 : Lies w4 w4.heap.size 1 A4 (Ln + q) ((L ++ tl).map bv) := by rw [List.map_append]; exact Lies.of_own hown4
        have HB4 := Lib.hid hb4
        have HR0 : Hid (R2 w rs tl n (.slice A4 (Ln + q) c4) (.int .i64 0) w4) := ⟨0, Nat.zero_le _, rfl, ⟨A4, c4, by rw [List.drop_zero, HL.out, List.length_append, HLn.out, htll], by rw [List.drop_zero, HL.out, List.length_append, HLn.out, htll]; exact hnc4, hcm4, by rw [List.drop_zero, HL.out, List.length_append, HLn.out, htll]; exact L4⟩, hb4⟩
        clear hown4 hg4 hb4 L4 O3 HLT HB3 HLn HL HS1 hw1s cutq
        go_wp2
        go_loopw [5, 11] (fun v i wr => R2 w rs tl n v i wr) (fun _ i _ => n - (intOf i).toNat)
        case atStart => exact HR0.out
        case round =>
          clear HR0 HB4
          obtain ⟨k2, hk2, rfl, ⟨A6, c6, rfl, hnc6, hcm6, hl6⟩, hb6⟩ := hrel
          have HB6 := Lib.hid hb6
          by_cases hlt2 : k2 < n
          · obtain ⟨b, o, r, rfl, hbB, hu, hcell0⟩ := Y.out.rcd hlt2
            have hmem := List.mem_of_getElem? hu
            have hrn : r.n ≤ 20000 := Nat.le_trans (rsum_mem rs r hmem) hsum
            have hrl2 := HLen.out r hmem
            have HCN := Lib.hid (frs_cons rs k2 r hu)
            rw [HCN.out, List.append_assoc] at hl6 hnc6 ⊢
            obtain ⟨X, hX⟩ : ∃ X, frs (rs.drop (k2 + 1)) ++ tl = X := ⟨_, rfl⟩
            rw [hX] at hl6 hnc6 ⊢
            have hfl := fr_len r.l
            rw [hrl2] at hfl
            obtain ⟨M, hM⟩ : ∃ M, X.length = M := ⟨_, rfl⟩
            rw [List.length_append, hfl, hM] at hl6 hnc6 ⊢
            have hMl : M ≤ 20172 := by
              rw [← hM, ← hX, List.length_append, htll]
              have := HDrop.out (k2 + 1)
              omega
            have G6 := Lib.hid (framesGet_is A6 (r.n + 8 + M) c6 (fr r.l ++ X) wr hl6 hnc6 (by omega) r.n r.l (8 + r.n) 0 (by rw [← hrl2]; exact got_fr r.l X (by omega)) hrl2)
            have HL6 := Lib.hid hl6
            have HX := Lib.hid hX; have HM := Lib.hid hM
            have HRB := Lib.hid (U.out r hmem).1
            have HC := Lib.hid hcell0
            have HCM := Lib.hid hcm6
            clear hl6 hX hM hu hmem hb6 hcell0 hcm6 hfl
            go_wp2_with fail
            refine G6.out.mono ?_
            rintro e w7 ⟨A7, c7, rfl, hnc7, hcm7, hown7, hb7⟩
            have HB7 := Lib.hid (HB6.out.trans (hb7.mono HB6.out.size))
            have hcell : w7.cell? ⟨b, o + k2, none⟩ = some (.slice r.A r.n r.c) := (HB7.out.cell hbB).trans HC.out
            have S := same_any A7 r.A r.n r.n c7 r.c w7.heap.size r.l r.l w7 (Lies.of_own hown7) ((HRB.out.below HB7.out).more HB7.out.size) (by omega)
            rw [sameB_self] at S
            have HS := Lib.hid S
            have HL7 := Lib.hid ((HL6.out.below hb7).more hb7.size)
            have j1 : ¬ ((8 : Int) + (r.n : Int) < 8) := by omega
            have j2 : ¬ ((r.n : Int) + 8 + (M : Int) < 8 + (r.n : Int)) := by omega
            have j3 : decide ((8 : Int) + (r.n : Int) < 8) = false := by simp; omega
            have j4 : decide ((r.n : Int) + 8 + (M : Int) < 8 + (r.n : Int)) = false := by simp; omega
            have cutk : ∀ W, (Instr.slice 22 (.slice A6 (r.n + 8 + M) c6) (some (.int .i64 (8 + (r.n : Int)))) none none).run Try.prog W = .ok (.slice (cutA A6 c6 (8 + r.n)) M (c6 - (8 + r.n))) W := fun W => by
              have := run_cut W A6 (r.n + 8 + M) c6 (8 + r.n) (by omega)
              rw [show ((8 + r.n : Nat) : Int) = 8 + (r.n : Int) from by omega, show r.n + 8 + M - (8 + r.n) = M from by omega] at this; exact this
            clear hown7 hb7 S G6 HB6 HL6 HRB HC
            go_wp2_with fail
            refine HS.out.mono ?_
            rintro e w8 ⟨rfl, q8, rfl⟩
            have R : Hid (R2 w rs tl n (.slice (cutA A6 c6 (8 + r.n)) M (c6 - (8 + r.n))) (.int .i64 ((k2 : Int) + 1)) (w7.drewN q8)) := by
              refine ⟨k2 + 1, hlt2, by simp, ⟨_, _, by rw [HX.out, HM.out], by rw [HX.out, HM.out]; omega, by have := HCM.out; omega, ?_⟩, below_drewN HB7.out q8⟩
              rw [HX.out, HM.out]
              have h1 := (HL7.out.drewN q8).cutA (m := 8 + r.n) (c := c6) (by omega) hnc6
              have e1 : (fr r.l ++ X).drop (8 + r.n) = X := by
                have := fr_len r.l
                rw [List.drop_append, List.drop_eq_nil_of_le (by omega), List.nil_append, show 8 + r.n - (fr r.l).length = 0 from by omega, List.drop_zero]
              rw [e1, show r.n + 8 + M - (8 + r.n) = M from by omega] at h1
              exact h1
            clear HS HL7 HB7 hcell
            go_wp2
            go_roundw
            case rel => exact R.out
            case measure => simp [intOf]; omega
          · have hk2n : k2 = n := by omega
            have hnil : rs.drop k2 = [] := List.drop_eq_nil_of_le (by omega)
            rw [hnil] at hl6 hnc6 ⊢
            have e0 : frs [] ++ tl = tl := rfl
            rw [e0, htll] at hl6 hnc6 ⊢
            have G6 := Lib.hid (framesGet_is A6 q c6 tl wr hl6 hnc6 (by omega) 0 [] 0 5 HG.out rfl)
            clear hl6 hb6 hnil e0 hk2n
            go_wp2_with fail
            refine G6.out.mono ?_
            rintro e w7 ⟨A7, c7, rfl, hnc7, hcm7, hown7, hb7⟩
            have HB7 := Lib.hid (HB6.out.trans (hb7.mono HB6.out.size))
            clear hown7 hb7 G6 HB6
            go_wp2
            go_ret
            exact ⟨rfl, HB7.out⟩

theorem framesRow_walk (A : Option Addr) (n c : Nat) (rs : List Rcd) (m1 : Nat) (w : World) (y : Lies w w.heap.size 1 A n (rs.map Rcd.v)) (u : Rcds w w.heap.size rs) (z : n ≤ c) (x : c ≤ 140737488351232) (hm1 : m1 < 256) :
    Calls Try.prog 5 #[.slice A n c, .int .u8 (m1 : Int)] w fun e w' => e = .returned (.bool true) ∧ Below w.heap.size w w' := by
  rcases Nat.lt_or_ge 20 n with h | h
  · exact framesRow_yes A n c m1 rs w y u z x h
  · exact framesRow_no A n c m1 rs w y u z x hm1 h
end Go.Proofs.Ytomfkfdnpmpbgaa
