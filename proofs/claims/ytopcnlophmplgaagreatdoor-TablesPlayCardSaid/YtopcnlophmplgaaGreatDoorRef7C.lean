/-
  The document's own table of layer 7: Put.
-/
import Derived.Test.YtopcnlophmplgaaGreatDoorRef7B
import Derived.Test.YtopcnlophmplgaaGreatDoorStep
namespace Go.Proofs.YtopcnlophmplgaaGreatDoor
open Go.RowKit
set_option linter.unusedVariables false
set_option maxRecDepth 100000

theorem bef_split {S : List En} {m : Mk} {k : Nat} (hall : ∀ e ∈ S.take k, bef m e = true) (hno : ∀ x, S[k]? = some x → bef m x = false) : S.takeWhile (bef m) = S.take k ∧ S.dropWhile (bef m) = S.drop k := by
  have e := List.take_append_drop k S
  have h1 : (S.drop k).takeWhile (bef m) = [] ∧ (S.drop k).dropWhile (bef m) = S.drop k := by
    cases hd : S.drop k with
    | nil => exact ⟨rfl, rfl⟩
    | cons y R =>
      have hy : S[k]? = some y := by
        have := List.getElem?_drop (xs := S) (i := k) (j := 0)
        rw [hd] at this; simpa using this.symm
      rw [List.takeWhile_cons, List.dropWhile_cons, hno y hy]
      exact ⟨rfl, rfl⟩
  constructor
  · conv => lhs; rw [← e]
    rw [List.takeWhile_append_of_pos hall, h1.1, List.append_nil]
  · conv => lhs; rw [← e]
    rw [List.dropWhile_append_of_pos hall, h1.2]
theorem there_split {S : List En} (hr : Rise S) {m : Mk} {k : Nat} (hall : ∀ e ∈ S.take k, bef m e = true) (hno : ∀ x, S[k]? = some x → bef m x = false) : hasM S m = true ↔ ∃ x, S[k]? = some x ∧ x.m = m := by
  rw [hasM_iff]
  constructor
  · rintro ⟨e, he, hm⟩
    have hnb : ¬ cmpM e.m m < 0 := by rw [hm, cmp_self]; decide
    have hd : e ∈ S.drop k := by
      rw [← List.take_append_drop k S, List.mem_append] at he
      rcases he with he | he
      · exact absurd (by simpa [bef] using hall e he) hnb
      · exact he
    obtain ⟨j, hj⟩ := List.getElem?_of_mem hd
    rw [List.getElem?_drop] at hj
    cases j with
    | zero => exact ⟨e, by simpa using hj, hm⟩
    | succ j =>
      have hkl : k < S.length := by have := (List.getElem?_eq_some_iff.1 hj).1; omega
      have hx := List.getElem?_eq_getElem hkl
      have h1 := hr.ne (i := k) (j := k + (j + 1)) (by omega) hx hj
      have h2 := hno _ hx
      rw [hm] at h1
      unfold bef at h2
      simp [h1] at h2
  · rintro ⟨x, hx, hm⟩
    exact ⟨x, List.mem_of_getElem? hx, hm⟩
theorem mark_neq (a b : Mk) (h : a ≠ b) (W : World) : (binOp BinOp.eql 81 (.agg #[.string a.k, .int .u64 (a.s : Int), .bool a.g]) (.agg #[.string b.k, .int .u64 (b.s : Int), .bool b.g])).run Tryz.prog W = .ok (.bool false) W := by
  have e1 : (a.k.toList == b.k.toList) = decide (a.k = b.k) := txt_eqB _ _
  by_cases h1 : a.k = b.k
  · have e2 : (a.k.toList == b.k.toList) = true := by rw [e1]; simpa using h1
    by_cases h2 : a.s = b.s
    · have h3 : ¬ a.g = b.g := fun h3 => h (Mk.ext' (by simp [Mk.p, h1, h2, h3]))
      have e4 : (a.s : Int) = (b.s : Int) := by rw [h2]
      clear h e1 h1
      go_simp
    · have e3 : ¬ (a.s : Int) = (b.s : Int) := by omega
      clear h e1 h1 h2
      go_simp
  · have e2 : (a.k.toList == b.k.toList) = false := by rw [e1]; simpa using h1
    clear h e1 h1
    go_simp
/-- x's box -/
def BxIs (p : Nat) (x : En) (w : World) : Prop := w.cell? ⟨p, 0, none⟩ = some (.string x.m.k) ∧ w.cell? ⟨p, 1, none⟩ = some (.int .u64 (x.m.s : Int)) ∧ w.cell? ⟨p, 2, none⟩ = some (.bool x.m.g) ∧ w.cell? ⟨p, 3, none⟩ = some (.string x.x)
/-- the same, as a region reads it -/
abbrev BxC (p : Nat) (x : En) (w : World) : Prop := w.cell? ⟨p, 0, none⟩ = some (.string x.m.k) ∧ w.cell? ⟨p, 1, none⟩ = some (.int .u64 (x.m.s : Int)) ∧ w.cell? ⟨p, 2, none⟩ = some (.bool x.m.g) ∧ w.cell? ⟨p, 3, none⟩ = some (.string x.x)
theorem BxIs.below {p : Nat} {x : En} {w w' : World} (h : BxIs p x w) (hb : Below w.heap.size w w') : BxIs p x w' := by
  have t : ∀ {a : Addr} {v : Value}, w.cell? a = some v → w'.cell? a = some v := fun {a v} hv => (hb.cell (World.block_lt_of_cell? w _ hv)).trans hv
  exact ⟨t h.1, t h.2.1, t h.2.2.1, t h.2.2.2⟩
/-- what holds ahead of a round of Put's search -/
def RPutRel (w : World) (base m : Nat) (S : List En) (x : En) (n : Nat) (i : Value) (wr : World) : Prop :=
  ∃ k, k ≤ n ∧ i = .int .i64 (k : Int) ∧ (∀ e ∈ S.take k, bef x.m e = true) ∧ RT wr base m S ∧ BxIs w.heap.size x wr ∧ Below w.heap.size w wr
section
variable {w w' : World} {base m : Nat} {S : List En}
/-- what a call of Put leaves -/
def RPutLeft (w : World) (base m : Nat) (S : List En) (x : En) (k : Int) (w' : World) : Prop := RT w' base m (putS S x k) ∧ Wrote (fun i => i = m) w w'
theorem rput_done {V w7 : World} {x : En} {tall : Int} {v7 : Value} (hT : RT V base m S) (hB : Below w.heap.size w V) (hl : Below V.heap.size V w7) (ho : w7.ownsRow V.heap.size 83 4 v7 (putS S x tall).length (ecs (putS S x tall))) (hbase : base ≤ w.heap.size) :
    RPutLeft w base m S x tall (w7.setCell ⟨m, 0, none⟩ v7) := by
  obtain ⟨v, h1, h2⟩ := hT
  have hmV : m < V.heap.size := (Array.getElem?_eq_some_iff.1 h1).1
  have h7 := (hl.block m hmV).trans h1
  refine ⟨⟨v7, ?_, ?_⟩, Wrote.set (S := fun i => i = m) (p := (⟨m, 0, none⟩ : Addr)) (Wrote.of_below (hB.trans (hl.mono hB.size))) rfl _⟩
  · simp [World.setCell, Array.getElem?_modify, h7]
  · refine own_base (base' := base) ?_ (Nat.le_trans hbase hB.size)
    refine ⟨ho.1, ?_⟩
    rcases ho.2 with h | ⟨g, cap, cur, hv, hg, hh, r⟩
    · exact .inl h
    · exact .inr ⟨g, cap, cur, hv, hg, (Below.heap_setCell w7 _ _ g (show g ≠ m by omega)).trans hh, r⟩
set_option maxHeartbeats 8000000 in
theorem rput_ok (h : RT w base m S) (hr : Rise S) (hn : S.length ≤ 4096) (hk : ∀ e ∈ S, e.m.k.size ≤ 1000000) (x : En) (hxk : x.m.k.size ≤ 1000000) (hxx : x.x.size ≤ 1000000) (tall : Int) (hbase : base ≤ w.heap.size) (hm : base ≤ m) :
    Calls Tryz.prog 32 #[rp m, x.v, .int .i64 tall] w fun e w' => e = .returned (te (putE S x tall)) ∧ RPutLeft w base m S x tall w' := by
  obtain ⟨i0, hi, hz0, hz1, hz2⟩ := info_parts entry_info
  obtain ⟨b0, b1, b2, b3, hB, hz⟩ := enW_facts w x
  obtain ⟨W, hW⟩ : ∃ W, enW w x = W := ⟨_, rfl⟩
  rw [hW] at b0 b1 b2 b3 hB hz
  have hT := h.below hB
  have HFn := Lib.hid (rfine_any x W (by omega) (by omega))
  have HT := Lib.hid hT; have HB := Lib.hid hB; have HR := Lib.hid hr
  have HBx := Lib.hid (And.intro b0 (And.intro b1 (And.intro b2 b3)))
  have HC : Hid (∀ (W' : World) (y : En), y ∈ S → Calls Tryz.prog 119 #[y.m.v, x.m.v] W' fun e w' => e = .returned (.int .i64 (cmpM y.m x.m)) ∧ Below W'.heap.size W' w') := fun W' y hy => rcmp_any y.m x.m W' (hk y hy) hxk
  have HW : Hid (w.alloc (.cells #[.string x.m.k, .int .u64 (x.m.s : Int), .bool x.m.g, .string x.x] 83) = W) := hW
  unfold Mk.v at HC
  unfold En.v at HFn ⊢
  clear h hT hr hk hB hz b0 b1 b2 b3 hW
  go_enter Tryz.func32, Tryz.ntmps32
  go_wp2_with fail
  rw [HW.out]
  clear HW
  refine HFn.out.mono ?_
  rintro e w1 ⟨rfl, hb1⟩
  have HB1 := Lib.hid (HB.out.trans (hb1.mono HB.out.size))
  have HT1 := Lib.hid (HT.out.below hb1)
  have HBx1 : Hid (BxIs w.heap.size x w1) := BxIs.below HBx.out hb1
  have HLf : Hid (∀ W', Below w.heap.size w W' → RT W' base m S → putE S x tall ≠ 0 → RPutLeft w base m S x tall W') := fun W' hW hR h0 => ⟨by unfold putS; rw [if_neg h0]; exact hR, Wrote.of_below hW⟩
  clear hb1 HFn HB HT HBx
  by_cases hf : fineE x = false
  · have hE : putE S x tall = 1 := by unfold putE; rw [hf]; rfl
    rw [hf]
    have HE := Lib.hid hE
    have HFin := Lib.hid (HLf.out w1 HB1.out HT1.out (by rw [hE]; decide))
    clear hf hE
    go_wp2
    go_ret
    exact ⟨by rw [HE.out]; rfl, HFin.out⟩
  · have hf : fineE x = true := by simpa using hf
    rw [hf]
    by_cases ht : tall < 1 ∨ 8 < tall
    · have hE : putE S x tall = 1 := by unfold putE okK; rw [decide_eq_false (by omega)]; simp
      have HE := Lib.hid hE
      have HFin := Lib.hid (HLf.out w1 HB1.out HT1.out (by rw [hE]; decide))
      clear hf hE
      by_cases h1 : tall < 1
      · go_wp2
        go_ret
        exact ⟨by rw [HE.out]; rfl, HFin.out⟩
      · have h2 : (8 : Int) < tall := by omega
        go_wp2
        go_ret
        exact ⟨by rw [HE.out]; rfl, HFin.out⟩
    · have h1 : ¬ tall < 1 := by omega
      have h2 : ¬ (8 : Int) < tall := by omega
      have HOk : Hid (okK tall = true) := by unfold Hid okK; rw [decide_eq_true (by omega)]
      have HFi := Lib.hid hf
      obtain ⟨n, hnn⟩ : ∃ n, S.length = n := ⟨_, rfl⟩
      have HN := Lib.hid hnn
      rw [hnn] at hn
      have HR0 : Hid (RPutRel w base m S x n (.int .i64 0) w1) := ⟨0, Nat.zero_le _, rfl, (fun e he => by simp at he), HT1.out, HBx1.out, HB1.out⟩
      clear hf ht hnn HT1 HBx1 HB1
      go_wp2
      go_loopw [7] (fun i wr => RPutRel w base m S x n i wr) (fun i _ => n - (intOf i).toNat)
      case atStart => exact HR0.out
      case round =>
        obtain ⟨k, hk, rfl, hall, hRT, hBx, hb⟩ := hrel
        clear HR0
        obtain ⟨A, c, c0, _, hnc, hcc, hl⟩ := hRT.at_
        rw [HN.out] at c0 hl hnc
        have HTw := Lib.hid hRT; have HBxw := Lib.hid hBx; have HBw := Lib.hid hb; have HAll := Lib.hid hall; have HLi := Lib.hid hl
        have hd1 : Below wr.heap.size wr wr.drew := ⟨rfl, rfl, rfl, Nat.le_refl _, fun _ _ => rfl⟩
        by_cases hlt : k < n
        · obtain ⟨b, o, y, rfl, hbB, hu, d0, d1, d2, d3⟩ := hl.entry hlt
          have hym : y ∈ S := List.mem_of_getElem? hu
          have HU := Lib.hid hu
          have hi1 : (k : Int) < (n : Int) := by omega
          have hi0 : (0 : Int) ≤ (k : Int) := by omega
          have Sd : RFromS m w.heap.size b (o + k * 4) (some ⟨b, o, none⟩) n c y.m x.m wr.drew := ⟨c0, d0, d1, d2, hBx.1, hBx.2.1, hBx.2.2.1⟩
          have HC1 := Lib.hid (HC.out wr.drew y hym)
          clear hu hall hRT hBx hb hl c0 d0 d1 d2 d3 hym
          go_wp2
          go_region_held3 (fun w' => RFromS m w.heap.size b (o + k * 4) (some ⟨b, o, none⟩) n c y.m x.m w') (first | exact Sd | exact S1)
            (first
              | (go_at_call 119; refine HC1.out.mono ?_; rintro e w1 ⟨rfl, hb1⟩; have S1 := Sd.below hb1)
              | fail)
          have hbw : Below wr.heap.size wr w1 := hd1.trans hb1
          have HTw := Lib.hid (HTw.out.below hbw)
          have HBxw := Lib.hid (HBxw.out.below hbw)
          have HBw := Lib.hid (HBw.out.trans (hbw.mono HBw.out.size))
          have HLi := Lib.hid (HLi.out.below hbw)
          clear Sd hb1 hd1 hbw
          by_cases hbe : cmpM y.m x.m < 0
          · have hbt : bef x.m y = true := by unfold bef; simpa using hbe
            have hall2 : ∀ e ∈ S.take (k + 1), bef x.m e = true := fun e he => by
              rw [List.take_add_one, HU.out, List.mem_append] at he
              rcases he with he | he
              · exact HAll.out e he
              · simp at he; rw [he]; exact hbt
            have HA2 := Lib.hid hall2
            clear hall2 hbt S1
            go_wp2
            go_roundw
            case rel => exact ⟨k + 1, hlt, by go_num, HA2.out, HTw.out, HBxw.out, HBw.out⟩
            case measure => simp [intOf]; omega
          · have hno : ∀ z, S[k]? = some z → bef x.m z = false := fun z hz => by
              rw [HU.out] at hz
              injection hz with hz
              subst hz
              unfold bef; simpa using hbe
            have HSpl := Lib.hid (bef_split HAll.out hno)
            have hths := there_split HR.out HAll.out hno
            have hcmp : ¬ cmpM y.m x.m < 0 := hbe
            obtain ⟨c0, d0, d1, d2, m0, m1, m2⟩ := S1
            have e1 : (y.m.k.toList == x.m.k.toList) = decide (y.m.k = x.m.k) := txt_eqB _ _
            clear hno
            by_cases hq : y.m = x.m
            · have hth : hasM S x.m = true := hths.2 ⟨y, HU.out, hq⟩
              have hE : putE S x tall = 8 := by unfold putE; rw [HFi.out, HOk.out, hth]; rfl
              have HE := Lib.hid hE
              have HFin : Hid (∀ q, RPutLeft w base m S x tall (World.drewN w1 q)) := fun q => HLf.out _ (below_drewN HBw.out q) (HTw.out.below (below_drewN (Below.refl _ _) q)) (by rw [hE]; decide)
              rw [hq] at d0 d1 d2 e1
              have e1' : (x.m.k.toList == x.m.k.toList) = true := by simp
              have Sd : RFromS m w.heap.size b (o + k * 4) (some ⟨b, o, none⟩) n c x.m x.m w1.drew := ⟨c0, d0, d1, d2, m0, m1, m2⟩
              clear hE hth hths hq e1
              clear c0 d0 d1 d2 m0 m1 m2
              go_wp2
              go_region_held3 (fun w' => RFromS m w.heap.size b (o + k * 4) (some ⟨b, o, none⟩) n c x.m x.m w') (exact Sd) (fail)
              go_wp2
              go_ret
              exact ⟨by rw [HE.out]; rfl, HFin.out 1⟩
            · have hth : hasM S x.m = false := by
                cases h : hasM S x.m
                · rfl
                · obtain ⟨z, hz, hzm⟩ := hths.1 h
                  rw [HU.out] at hz
                  injection hz with hz
                  subst hz
                  exact absurd hzm hq
              have hmq := mark_neq y.m x.m hq
              have Sd : RFromS m w.heap.size b (o + k * 4) (some ⟨b, o, none⟩) n c y.m x.m w1.drew := ⟨c0, d0, d1, d2, m0, m1, m2⟩
              clear hths hq e1 c0 d0 d1 d2 m0 m1 m2
              by_cases hfu : 4096 ≤ n
              · have hE : putE S x tall = 6 := by unfold putE; rw [HFi.out, HOk.out, hth]; simp only [Bool.and_self, Bool.not_true, Bool.false_eq_true, if_false]; rw [if_pos (by rw [HN.out]; exact hfu)]
                have HE := Lib.hid hE
                have HFin : Hid (∀ q, RPutLeft w base m S x tall (World.drewN w1 q)) := fun q => HLf.out _ (below_drewN HBw.out q) (HTw.out.below (below_drewN (Below.refl _ _) q)) (by rw [hE]; decide)
                have hfi : (4096 : Int) ≤ (n : Int) := by omega
                clear hE hth
                go_wp2
                go_region_held3 (fun w' => RFromS m w.heap.size b (o + k * 4) (some ⟨b, o, none⟩) n c y.m x.m w') (exact Sd) (fail)
                obtain ⟨c0, _⟩ := Sd
                go_wp2
                go_ret
                exact ⟨by rw [HE.out]; rfl, HFin.out 1⟩
              · have hfi : ¬ (4096 : Int) ≤ (n : Int) := by omega
                have hE : putE S x tall = 0 := by unfold putE; rw [HFi.out, HOk.out, hth]; simp only [Bool.and_self, Bool.not_true, Bool.false_eq_true, if_false]; rw [if_neg (by rw [HN.out]; exact hfu)]
                have hSp : putS S x tall = S.take k ++ x :: S.drop k := by unfold putS insE; rw [if_pos hE, HSpl.out.1, HSpl.out.2]
                have HE := Lib.hid hE; have HSp := Lib.hid hSp
                clear hE hSp hth
                go_wp2
                go_region_held3 (fun w' => RFromS m w.heap.size b (o + k * 4) (some ⟨b, o, none⟩) n c y.m x.m w') (exact Sd) (fail)
                clear Sd
                have HTv := Lib.hid (HTw.out.below (below_drewN (Below.refl w1.heap.size w1) 1))
                have HBxv := Lib.hid (HBxw.out.below (below_drewN (Below.refl w1.heap.size w1) 1))
                have HBv := Lib.hid (HBw.out.trans (Below.mono (below_drewN (Below.refl w1.heap.size w1) 1) HBw.out.size))
                change Exit.then _ _ _ _ (w1.drewN 1)
                generalize w1.drewN 1 = V at *
                obtain ⟨A2, c2, c02, f02, hnc2, hcc2, hl2⟩ := HTv.out.at_
                rw [HN.out] at c02 hnc2 hl2
                have HL2 := Lib.hid hl2
                have hbv := HBxv.out
                have LT : Hid (∀ W, Below V.heap.size V W → Lies W V.heap.size 4 A2 k (ecs (S.take k))) := fun W h => by
                  have q := (HL2.out.below h).takeE (m := k) (by omega)
                  rw [ecs_take] at q; exact q
                have LD : Hid (∀ W, Below V.heap.size V W → Lies W V.heap.size 4 (cutE A2 c2 k) (n - k) (ecs (S.drop k))) := fun W h => by
                  have q := (HL2.out.below h).cutE (m := k) (c := c2) (by omega) hnc2
                  rw [ecs_drop] at q; exact q
                have r1 : ∀ W, (Instr.slice 76 (.slice A2 n c2) none (some (.int .i64 (k : Int))) none).run Tryz.prog W = .ok (.slice A2 k c2) W := fun W => run_headE W _ n c2 k (by omega)
                have r2 : ∀ W, (Instr.slice 76 (.slice A2 n c2) (some (.int .i64 (k : Int))) none none).run Tryz.prog W = .ok (.slice (cutE A2 c2 k) (n - k) (c2 - k)) W := fun W => run_cutE W _ n c2 k (by omega)
                have hl0 : Below V.heap.size V V.drew := (Below.refl _ V).drew
                have hl1 : ∀ o, Below V.heap.size V (V.drew.alloc o) := fun o => hl0.alloc (Nat.le_refl _) o
                have HS : Hid (∀ W, Below V.heap.size V W → W.cell? ⟨m, 0, none⟩ = some (.slice A2 n c2) ∧ BxC w.heap.size x W) := fun W h => ⟨(h.cell (World.block_lt_of_cell? V _ c02)).trans c02, HBxv.out.below h⟩
                go_wp2
                go_region_held3 (fun W => W.cell? ⟨m, 0, none⟩ = some (.slice A2 n c2) ∧ BxC w.heap.size x W)
                  (first | exact HS.out _ hl0 | exact HS.out _ (hl1 _) | exact HS.out _ hl5 | exact HS.out _ (hl5.alloc hl5.size _) | exact HS.out _ hl6 | fail)
                  (first
                  | (refine step_app _ (by rfl) (.tmp 69) (.tmp 75) 76 (by rfl) V.heap.size 83 i0 _ 4 48 Tryz.underlying76 hi hz0 hz1 hz2 rfl (by decide) (.slice none 0 0) 0 [] (by rfl) (World.ownsRow_nil _ _ _ _) V.heap.size A2 k c2 (ecs (S.take k)) (by rfl) (LT.out _ hl0) (ecs_one _) (by unfold maxLen; omega) (by omega) (Nat.le_refl _) ?_; intro v5 w5 hown5 hg5 _; have hl5 : Below V.heap.size V w5 := hl0.grown hg5 (Nat.le_refl _) (by simp [Value.ownBlock]); rw [Nat.zero_add, List.nil_append] at hown5; obtain ⟨A5, c5, rfl, _⟩ := own_shape hown5; have hlit : ∀ (o : Obj), True := fun _ => trivial)
                  | (refine step_app _ (by rfl) (.tmp 69) (.tmp 75) 76 (by rfl) V.heap.size 83 i0 _ 4 48 Tryz.underlying76 hi hz0 hz1 hz2 rfl (by decide) (.slice none 0 0) 0 [] (by rfl) (World.ownsRow_nil _ _ _ _) V.heap.size A2 k c2 (ecs (S.take k)) (by rfl) (LT.out _ (hl1 _)) (ecs_one _) (by unfold maxLen; omega) (by omega) (hl1 _).size ?_; intro v5 w5 hown5 hg5 _; have hl5 : Below V.heap.size V w5 := (hl1 _).grown hg5 (hl1 _).size (by simp [Value.ownBlock]); rw [Nat.zero_add, List.nil_append] at hown5; obtain ⟨A5, c5, rfl, _⟩ := own_shape hown5; have hlit := (en_lies V.drew x).below ((Below.refl _ _).grown hg5 (by simp) (by simp [Value.ownBlock])))
                  | (refine step_app _ (by rfl) (.tmp 76) (.tmp 78) 76 (by rfl) V.heap.size 83 i0 _ 4 48 Tryz.underlying76 hi hz0 hz1 hz2 rfl (by decide) (.slice A5 k c5) k (ecs (S.take k)) (by rfl) (hown5.alloc _) (w5.heap.size + 1) (some ⟨w5.heap.size, 0, none⟩) 1 1 (ecs [x]) (by rfl) (en_lies w5 x) (ecs_one _) (by unfold maxLen; omega) (by omega) (hl5.alloc hl5.size _).size ?_; intro v6 w6 hown6 hg6 _; have hl6 : Below V.heap.size V w6 := (hl5.alloc hl5.size _).grown hg6 (hl5.alloc hl5.size _).size (fun j hj => (hown5.lt j hj).1); obtain ⟨A6, c6, rfl, _⟩ := own_shape hown6)
                  | (refine step_app _ (by rfl) (.tmp 76) (.tmp 78) 76 (by rfl) V.heap.size 83 i0 _ 4 48 Tryz.underlying76 hi hz0 hz1 hz2 rfl (by decide) (.slice A5 k c5) k (ecs (S.take k)) (by rfl) hown5 (V.heap.size + 1) (some ⟨V.heap.size, 0, none⟩) 1 1 (ecs [x]) (by rfl) hlit (ecs_one _) (by unfold maxLen; omega) (by omega) hl5.size ?_; intro v6 w6 hown6 hg6 _; have hl6 : Below V.heap.size V w6 := hl5.grown hg6 hl5.size (fun j hj => (hown5.lt j hj).1); obtain ⟨A6, c6, rfl, _⟩ := own_shape hown6)
                  | fail)
                all_goals (
                  have HO6 := Lib.hid hown6
                  have HL6 := Lib.hid hl6
                  obtain ⟨_, _, _, f06, _⟩ := (HTv.out.below hl6).at_
                  have c06 := (HS.out w6 hl6).1
                  have HVs : Hid (V.heap.size ≤ w6.heap.size) := hl6.size
                  clear hl0 hl1 hl5 hl6 hown5 hown6 hg5 hg6 LT HS hlit hbv
                  go_wp2_with (at_builtin; refine wpList_app _ rfl (.tmp 81) (.tmp 87) 76 rfl V.heap.size 83 i0 _ 4 48 Tryz.underlying76 hi hz0 hz1 hz2 rfl (by decide) (.slice A6 (k + 1) c6) (k + 1) (ecs (S.take k) ++ ecs [x]) rfl HO6.out V.heap.size (cutE A2 c2 k) (n - k) (c2 - k) (ecs (S.drop k)) rfl (LD.out _ HL6.out) (ecs_one _) (by unfold maxLen; omega) (by omega) HVs.out ?_)
                  intro v7 w7 hown7 hg7 _
                  have hl7 : Below V.heap.size V w7 := HL6.out.grown hg7 HL6.out.size (fun j hj => (HO6.out.lt j hj).1)
                  obtain ⟨_, _, c07, f07, _⟩ := (HTv.out.below hl7).at_
                  have R : Hid (RPutLeft w base m S x tall (w7.setCell ⟨m, 0, none⟩ v7)) := rput_done HTv.out HBv.out hl7 (by rw [show k + 1 + (n - k) = (putS S x tall).length from by rw [HSp.out]; simp; have := HN.out; omega, show ecs (S.take k) ++ (ecs [x] ++ ecs (S.drop k)) = ecs (putS S x tall) from by rw [HSp.out]; simp [ecs]] at hown7; exact hown7) hbase
                  obtain ⟨A7, c7, rfl, _⟩ := own_shape hown7
                  clear hown7 hg7 hl7 c06 f06 HO6 HL6 HVs LD r1 r2
                  go_wp2
                  go_ret
                  exact ⟨by rw [HE.out]; rfl, R.out⟩)
        · obtain rfl : k = n := by omega
          have hi1 : ¬ (k : Int) < (k : Int) := by omega
          have hno : ∀ z, S[k]? = some z → bef x.m z = false := fun z hz => by
            have := (List.getElem?_eq_some_iff.1 hz).1
            have := HN.out
            omega
          have HSpl := Lib.hid (bef_split HAll.out hno)
          have hths := there_split HR.out HAll.out hno
          have hth : hasM S x.m = false := by
            cases h : hasM S x.m
            · rfl
            · obtain ⟨z, hz, hzm⟩ := hths.1 h
              have := (List.getElem?_eq_some_iff.1 hz).1
              have := HN.out
              omega
          have Sd : wr.drew.cell? ⟨m, 0, none⟩ = some (.slice A k c) := c0
          clear hall hRT hBx hb hl hno hths
          go_wp2
          refine wp_region_held_drew (S := (fun w' => w'.cell? ⟨m, 0, none⟩ = some (.slice A k c))) (by kernel_rfl) Sd (fun hHeld => ?_)
          refine wpAnyH_take (i := 0) (oi := _) (v := ?v0) rfl (by kernel_rfl) (by kernel_rfl) (by kernel_rfl) (fun _ _ _ h => h) (Or.inl ⟨by rfl, ?y0⟩) (by assumption) ?r0
          case y0 => (intro w' hSw; (try dsimp only at hSw); go_simp <;> with_reducible rfl)
          try simp only [Act.put, List.setIfInBounds_toArray, List.set_cons_zero, List.set_cons_succ, List.getElem_toArray, List.getElem_cons_zero]
          refine wpAnyH_take (i := 1) (oi := _) (v := ?v1) rfl (by kernel_rfl) (by kernel_rfl) (by kernel_rfl) (fun _ _ _ h => h) (Or.inl ⟨by rfl, ?y1⟩) (by assumption) ?r1
          case y1 => (intro w' hSw; (try dsimp only at hSw); go_simp <;> with_reducible rfl)
          try simp only [Act.put, List.setIfInBounds_toArray, List.set_cons_zero, List.set_cons_succ, List.getElem_toArray, List.getElem_cons_zero, List.getElem_cons_succ]
          refine wpAnyH_take (i := 2) (oi := _) (v := ?v2) rfl (by kernel_rfl) (by kernel_rfl) (by kernel_rfl) (fun _ _ _ h => h) (Or.inl ⟨by rfl, ?y2⟩) (by assumption) ?r2
          case y2 => (intro w' hSw; (try dsimp only at hSw); go_simp <;> with_reducible rfl)
          try simp only [Act.put, List.setIfInBounds_toArray, List.set_cons_zero, List.set_cons_succ, List.getElem_toArray, List.getElem_cons_zero, List.getElem_cons_succ]
          refine wpAnyH_take (i := 3) (oi := _) (v := ?v3) rfl (by kernel_rfl) (by kernel_rfl) (by kernel_rfl) (fun _ _ _ h => h) (Or.inl ⟨by rfl, ?y3⟩) (by assumption) ?r3
          case y3 => (intro w' hSw; (try dsimp only at hSw); go_simp <;> with_reducible rfl)
          try simp only [Act.put, List.setIfInBounds_toArray, List.set_cons_zero, List.set_cons_succ, List.getElem_toArray, List.getElem_cons_zero, List.getElem_cons_succ]
          refine wpAnyH_take (i := 4) (oi := _) (v := ?v4) rfl (by kernel_rfl) (by kernel_rfl) (by kernel_rfl) (fun _ _ _ h => h) (Or.inl ⟨by rfl, ?y4⟩) (by assumption) ?r4
          case y4 => (intro w' hSw; (try dsimp only at hSw); go_simp <;> with_reducible rfl)
          try simp only [Act.put, List.setIfInBounds_toArray, List.set_cons_zero, List.set_cons_succ, List.getElem_toArray, List.getElem_cons_zero, List.getElem_cons_succ]
          refine wpAnyH_take (i := 5) (oi := _) (v := ?v5) rfl (by kernel_rfl) (by kernel_rfl) (by kernel_rfl) (fun _ _ _ h => h) (Or.inl ⟨by rfl, ?y5⟩) (by assumption) ?r5
          case y5 => (intro w' hSw; (try dsimp only at hSw); go_simp <;> with_reducible rfl)
          try simp only [Act.put, List.setIfInBounds_toArray, List.set_cons_zero, List.set_cons_succ, List.getElem_toArray, List.getElem_cons_zero, List.getElem_cons_succ]
          refine wpAnyH_take (i := 6) (oi := _) (v := ?v6) rfl (by kernel_rfl) (by kernel_rfl) (by kernel_rfl) (fun _ _ _ h => h) (Or.inl ⟨by rfl, ?y6⟩) (by assumption) ?r6
          case y6 => (intro w' hSw; (try dsimp only at hSw); go_simp <;> with_reducible rfl)
          try simp only [Act.put, List.setIfInBounds_toArray, List.set_cons_zero, List.set_cons_succ, List.getElem_toArray, List.getElem_cons_zero, List.getElem_cons_succ]
          refine wpAnyH_take (i := 7) (oi := _) (v := ?v7) rfl (by kernel_rfl) (by kernel_rfl) (by kernel_rfl) (fun _ _ _ h => h) (Or.inl ⟨by rfl, ?y7⟩) (by assumption) ?r7
          case y7 => (intro w' hSw; (try dsimp only at hSw); go_simp <;> with_reducible rfl)
          try simp only [Act.put, List.setIfInBounds_toArray, List.set_cons_zero, List.set_cons_succ, List.getElem_toArray, List.getElem_cons_zero, List.getElem_cons_succ]
          refine wpAnyH_take (i := 8) (oi := _) (v := undef) rfl (by kernel_rfl) (by kernel_rfl) (by kernel_rfl) (fun _ _ _ h => h) (Or.inr ⟨by rfl, rfl⟩) (by assumption) ?_
          try simp only [Act.put, List.setIfInBounds_toArray, List.set_cons_zero, List.set_cons_succ, List.getElem_toArray, List.getElem_cons_zero, List.getElem_cons_succ]
          refine wpAnyH_take (i := 9) (oi := _) (v := undef) rfl (by kernel_rfl) (by kernel_rfl) (by kernel_rfl) (fun _ _ _ h => h) (Or.inr ⟨by rfl, rfl⟩) (by assumption) ?_
          try simp only [Act.put, List.setIfInBounds_toArray, List.set_cons_zero, List.set_cons_succ, List.getElem_toArray, List.getElem_cons_zero, List.getElem_cons_succ]
          refine wpAnyH_take (i := 10) (oi := _) (v := undef) rfl (by kernel_rfl) (by kernel_rfl) (by kernel_rfl) (fun _ _ _ h => h) (Or.inr ⟨by rfl, rfl⟩) (by assumption) ?_
          try simp only [Act.put, List.setIfInBounds_toArray, List.set_cons_zero, List.set_cons_succ, List.getElem_toArray, List.getElem_cons_zero, List.getElem_cons_succ]
          refine wpAnyH_take (i := 11) (oi := _) (v := undef) rfl (by kernel_rfl) (by kernel_rfl) (by kernel_rfl) (fun _ _ _ h => h) (Or.inr ⟨by rfl, rfl⟩) (by assumption) ?_
          try simp only [Act.put, List.setIfInBounds_toArray, List.set_cons_zero, List.set_cons_succ, List.getElem_toArray, List.getElem_cons_zero, List.getElem_cons_succ]
          refine wpAnyH_take (i := 12) (oi := _) (v := undef) rfl (by kernel_rfl) (by kernel_rfl) (by kernel_rfl) (fun _ _ _ h => h) (Or.inr ⟨by rfl, rfl⟩) (by assumption) ?_
          try simp only [Act.put, List.setIfInBounds_toArray, List.set_cons_zero, List.set_cons_succ, List.getElem_toArray, List.getElem_cons_zero, List.getElem_cons_succ]
          refine wpAnyH_take (i := 13) (oi := _) (v := undef) rfl (by kernel_rfl) (by kernel_rfl) (by kernel_rfl) (fun _ _ _ h => h) (Or.inr ⟨by rfl, rfl⟩) (by assumption) ?_
          try simp only [Act.put, List.setIfInBounds_toArray, List.set_cons_zero, List.set_cons_succ, List.getElem_toArray, List.getElem_cons_zero, List.getElem_cons_succ]
          refine wpAnyH_take (i := 14) (oi := _) (v := undef) rfl (by kernel_rfl) (by kernel_rfl) (by kernel_rfl) (fun _ _ _ h => h) (Or.inr ⟨by rfl, rfl⟩) (by assumption) ?_
          try simp only [Act.put, List.setIfInBounds_toArray, List.set_cons_zero, List.set_cons_succ, List.getElem_toArray, List.getElem_cons_zero, List.getElem_cons_succ]
          refine wpAnyH_take (i := 15) (oi := _) (v := undef) rfl (by kernel_rfl) (by kernel_rfl) (by kernel_rfl) (fun _ _ _ h => h) (Or.inr ⟨by rfl, rfl⟩) (by assumption) ?_
          try simp only [Act.put, List.setIfInBounds_toArray, List.set_cons_zero, List.set_cons_succ, List.getElem_toArray, List.getElem_cons_zero, List.getElem_cons_succ]
          refine wpAnyH_take (i := 16) (oi := _) (v := undef) rfl (by kernel_rfl) (by kernel_rfl) (by kernel_rfl) (fun _ _ _ h => h) (Or.inr ⟨by rfl, rfl⟩) (by assumption) ?_
          try simp only [Act.put, List.setIfInBounds_toArray, List.set_cons_zero, List.set_cons_succ, List.getElem_toArray, List.getElem_cons_zero, List.getElem_cons_succ]
          refine wpAnyH_take (i := 17) (oi := _) (v := undef) rfl (by kernel_rfl) (by kernel_rfl) (by kernel_rfl) (fun _ _ _ h => h) (Or.inr ⟨by rfl, rfl⟩) (by assumption) ?_
          try simp only [Act.put, List.setIfInBounds_toArray, List.set_cons_zero, List.set_cons_succ, List.getElem_toArray, List.getElem_cons_zero, List.getElem_cons_succ]
          refine wpAnyH_take (i := 18) (oi := _) (v := undef) rfl (by kernel_rfl) (by kernel_rfl) (by kernel_rfl) (fun _ _ _ h => h) (Or.inr ⟨by rfl, rfl⟩) (by assumption) ?_
          try simp only [Act.put, List.setIfInBounds_toArray, List.set_cons_zero, List.set_cons_succ, List.getElem_toArray, List.getElem_cons_zero, List.getElem_cons_succ]
          refine wpAnyH_take (i := 19) (oi := _) (v := undef) rfl (by kernel_rfl) (by kernel_rfl) (by kernel_rfl) (fun _ _ _ h => h) (Or.inr ⟨by rfl, rfl⟩) (by assumption) ?_
          try simp only [Act.put, List.setIfInBounds_toArray, List.set_cons_zero, List.set_cons_succ, List.getElem_toArray, List.getElem_cons_zero, List.getElem_cons_succ]
          refine wpAnyH_take (i := 20) (oi := _) (v := ?v20) rfl (by kernel_rfl) (by kernel_rfl) (by kernel_rfl) (fun _ _ _ h => h) (Or.inl ⟨by rfl, ?y20⟩) (by assumption) ?r20
          case y20 => (intro w' hSw; (try dsimp only at hSw); go_simp <;> with_reducible rfl)
          try simp only [Act.put, List.setIfInBounds_toArray, List.set_cons_zero, List.set_cons_succ, List.getElem_toArray, List.getElem_cons_zero, List.getElem_cons_succ]
          refine wpAnyH_done (by kernel_rfl) ?_ _
          have HTw := Lib.hid (HTw.out.below hd1)
          have HBxw := Lib.hid (HBxw.out.below hd1)
          have HBw := Lib.hid (HBw.out.trans (hd1.mono HBw.out.size))
          have HLi := Lib.hid (HLi.out.below hd1)
          have hsz : wr.drew.heap.size = wr.heap.size := rfl
          generalize wr.drew = w2 at *
          have c0 := Sd
          clear Sd hd1 hHeld
          by_cases hfu : 4096 ≤ k
          · have hE : putE S x tall = 6 := by unfold putE; rw [HFi.out, HOk.out, hth]; simp only [Bool.and_self, Bool.not_true, Bool.false_eq_true, if_false]; rw [if_pos (by rw [HN.out]; exact hfu)]
            have HE := Lib.hid hE
            have HFin : Hid (∀ q, RPutLeft w base m S x tall (World.drewN w2 q)) := fun q => HLf.out _ (below_drewN HBw.out q) (HTw.out.below (below_drewN (Below.refl _ _) q)) (by rw [hE]; decide)
            have hfi : (4096 : Int) ≤ (k : Int) := by omega
            clear hE hth
            go_wp2
            go_quiet (fail)
            go_wp2
            go_ret
            exact ⟨by rw [HE.out]; rfl, HFin.out _⟩
          · have hfi : ¬ (4096 : Int) ≤ (k : Int) := by omega
            have hE : putE S x tall = 0 := by unfold putE; rw [HFi.out, HOk.out, hth]; simp only [Bool.and_self, Bool.not_true, Bool.false_eq_true, if_false]; rw [if_neg (by rw [HN.out]; exact hfu)]
            have hSp : putS S x tall = S.take k ++ x :: S.drop k := by unfold putS insE; rw [if_pos hE, HSpl.out.1, HSpl.out.2]
            have HE := Lib.hid hE; have HSp := Lib.hid hSp
            clear hE hSp hth
            go_wp2
            go_quiet (fail)
            clear c0
            have HTv := Lib.hid (HTw.out.below (below_drewN (Below.refl w2.heap.size w2) nq))
            have HBxv := Lib.hid (HBxw.out.below (below_drewN (Below.refl w2.heap.size w2) nq))
            have HBv := Lib.hid (HBw.out.trans (Below.mono (below_drewN (Below.refl w2.heap.size w2) nq) HBw.out.size))
            generalize w2.drewN nq = V at *
            obtain ⟨A2, c2, c02, f02, hnc2, hcc2, hl2⟩ := HTv.out.at_
            rw [HN.out] at c02 hnc2 hl2
            have HL2 := Lib.hid hl2
            have hbv := HBxv.out
            have LT : Hid (∀ W, Below V.heap.size V W → Lies W V.heap.size 4 A2 k (ecs (S.take k))) := fun W h => by
              have q := (HL2.out.below h).takeE (m := k) (by omega)
              rw [ecs_take] at q; exact q
            have LD : Hid (∀ W, Below V.heap.size V W → Lies W V.heap.size 4 (cutE A2 c2 k) 0 (ecs (S.drop k))) := fun W h => by
              have q := (HL2.out.below h).cutE (m := k) (c := c2) (by omega) hnc2
              rw [ecs_drop, Nat.sub_self] at q; exact q
            have r1 : ∀ W, (Instr.slice 76 (.slice A2 k c2) none (some (.int .i64 (k : Int))) none).run Tryz.prog W = .ok (.slice A2 k c2) W := fun W => run_headE W _ k c2 k (by omega)
            have r2 : ∀ W, (Instr.slice 76 (.slice A2 k c2) (some (.int .i64 (k : Int))) none none).run Tryz.prog W = .ok (.slice (cutE A2 c2 k) 0 (c2 - k)) W := fun W => by have q := run_cutE W A2 k c2 k (by omega); rw [Nat.sub_self] at q; exact q
            have hl0 : Below V.heap.size V V.drew := (Below.refl _ V).drew
            have hl1 : ∀ o, Below V.heap.size V (V.drew.alloc o) := fun o => hl0.alloc (Nat.le_refl _) o
            have HS : Hid (∀ W, Below V.heap.size V W → W.cell? ⟨m, 0, none⟩ = some (.slice A2 k c2) ∧ BxC w.heap.size x W) := fun W h => ⟨(h.cell (World.block_lt_of_cell? V _ c02)).trans c02, HBxv.out.below h⟩
            go_wp2
            go_region_held3 (fun W => W.cell? ⟨m, 0, none⟩ = some (.slice A2 k c2) ∧ BxC w.heap.size x W)
              (first | exact HS.out _ hl0 | exact HS.out _ (hl1 _) | exact HS.out _ hl5 | exact HS.out _ (hl5.alloc hl5.size _) | exact HS.out _ hl6 | fail)
              (first
              | (refine step_app _ (by rfl) (.tmp 69) (.tmp 75) 76 (by rfl) V.heap.size 83 i0 _ 4 48 Tryz.underlying76 hi hz0 hz1 hz2 rfl (by decide) (.slice none 0 0) 0 [] (by rfl) (World.ownsRow_nil _ _ _ _) V.heap.size A2 k c2 (ecs (S.take k)) (by rfl) (LT.out _ hl0) (ecs_one _) (by unfold maxLen; omega) (by omega) (Nat.le_refl _) ?_; intro v5 w5 hown5 hg5 _; have hl5 : Below V.heap.size V w5 := hl0.grown hg5 (Nat.le_refl _) (by simp [Value.ownBlock]); rw [Nat.zero_add, List.nil_append] at hown5; obtain ⟨A5, c5, rfl, _⟩ := own_shape hown5; have hlit : ∀ (o : Obj), True := fun _ => trivial)
              | (refine step_app _ (by rfl) (.tmp 69) (.tmp 75) 76 (by rfl) V.heap.size 83 i0 _ 4 48 Tryz.underlying76 hi hz0 hz1 hz2 rfl (by decide) (.slice none 0 0) 0 [] (by rfl) (World.ownsRow_nil _ _ _ _) V.heap.size A2 k c2 (ecs (S.take k)) (by rfl) (LT.out _ (hl1 _)) (ecs_one _) (by unfold maxLen; omega) (by omega) (hl1 _).size ?_; intro v5 w5 hown5 hg5 _; have hl5 : Below V.heap.size V w5 := (hl1 _).grown hg5 (hl1 _).size (by simp [Value.ownBlock]); rw [Nat.zero_add, List.nil_append] at hown5; obtain ⟨A5, c5, rfl, _⟩ := own_shape hown5; have hlit := (en_lies V.drew x).below ((Below.refl _ _).grown hg5 (by simp) (by simp [Value.ownBlock])))
              | (refine step_app _ (by rfl) (.tmp 76) (.tmp 78) 76 (by rfl) V.heap.size 83 i0 _ 4 48 Tryz.underlying76 hi hz0 hz1 hz2 rfl (by decide) (.slice A5 k c5) k (ecs (S.take k)) (by rfl) (hown5.alloc _) (w5.heap.size + 1) (some ⟨w5.heap.size, 0, none⟩) 1 1 (ecs [x]) (by rfl) (en_lies w5 x) (ecs_one _) (by unfold maxLen; omega) (by omega) (hl5.alloc hl5.size _).size ?_; intro v6 w6 hown6 hg6 _; have hl6 : Below V.heap.size V w6 := (hl5.alloc hl5.size _).grown hg6 (hl5.alloc hl5.size _).size (fun j hj => (hown5.lt j hj).1); obtain ⟨A6, c6, rfl, _⟩ := own_shape hown6)
              | (refine step_app _ (by rfl) (.tmp 76) (.tmp 78) 76 (by rfl) V.heap.size 83 i0 _ 4 48 Tryz.underlying76 hi hz0 hz1 hz2 rfl (by decide) (.slice A5 k c5) k (ecs (S.take k)) (by rfl) hown5 (V.heap.size + 1) (some ⟨V.heap.size, 0, none⟩) 1 1 (ecs [x]) (by rfl) hlit (ecs_one _) (by unfold maxLen; omega) (by omega) hl5.size ?_; intro v6 w6 hown6 hg6 _; have hl6 : Below V.heap.size V w6 := hl5.grown hg6 hl5.size (fun j hj => (hown5.lt j hj).1); obtain ⟨A6, c6, rfl, _⟩ := own_shape hown6)
              | fail)
            all_goals (
              have HO6 := Lib.hid hown6
              have HL6 := Lib.hid hl6
              obtain ⟨_, _, _, f06, _⟩ := (HTv.out.below hl6).at_
              have c06 := (HS.out w6 hl6).1
              have HVs : Hid (V.heap.size ≤ w6.heap.size) := hl6.size
              clear hl0 hl1 hl5 hl6 hown5 hown6 hg5 hg6 LT HS hlit hbv
              go_wp2_with (at_builtin; refine wpList_app _ rfl (.tmp 81) (.tmp 87) 76 rfl V.heap.size 83 i0 _ 4 48 Tryz.underlying76 hi hz0 hz1 hz2 rfl (by decide) (.slice A6 (k + 1) c6) (k + 1) (ecs (S.take k) ++ ecs [x]) rfl HO6.out V.heap.size (cutE A2 c2 k) 0 (c2 - k) (ecs (S.drop k)) rfl (LD.out _ HL6.out) (ecs_one _) (by unfold maxLen; omega) (by omega) HVs.out ?_)
              intro v7 w7 hown7 hg7 _
              have hl7 : Below V.heap.size V w7 := HL6.out.grown hg7 HL6.out.size (fun j hj => (HO6.out.lt j hj).1)
              obtain ⟨_, _, c07, f07, _⟩ := (HTv.out.below hl7).at_
              have R : Hid (RPutLeft w base m S x tall (w7.setCell ⟨m, 0, none⟩ v7)) := rput_done HTv.out HBv.out hl7 (by rw [show k + 1 + 0 = (putS S x tall).length from by rw [HSp.out]; simp; have := HN.out; omega, show ecs (S.take k) ++ (ecs [x] ++ ecs (S.drop k)) = ecs (putS S x tall) from by rw [HSp.out]; simp [ecs]] at hown7; exact hown7) hbase
              obtain ⟨A7, c7, rfl, _⟩ := own_shape hown7
              clear hown7 hg7 hl7 c06 f06 HO6 HL6 HVs LD r1 r2
              go_wp2
              go_ret
              exact ⟨by rw [HE.out]; rfl, R.out⟩)
end
end Go.Proofs.YtopcnlophmplgaaGreatDoor
