/-
  The walk of MergesTwo.
-/
import Derived.Test.YtoljldokehfokaaLaw12
import Derived.Test.YtoljldokehfokaaMgLs
import Derived.Deep.Cut
namespace Go.Proofs.Ytoljldokehfokaa
open Go.RowKit
set_option linter.unusedVariables false
set_option maxRecDepth 100000

set_option maxHeartbeats 16000000 in
theorem mergesTwo_walk0 (HAL : ∀ w, Calls Try.prog 6 #[] w fun e w' => e = .returned (.bool true) ∧ Below w.heap.size w w') (A : Option Addr) (n c : Nat) (l : List En) (A1 : Option Addr) (n1 c1 : Nat) (l1 : List UInt8) (W : World) (hl : Lies W W.heap.size 4 A n (ecs l)) (hu : Fits l) (hn : l.length = n) (hnc : n ≤ c) (hc : c ≤ 140737488351232)
    (h1 : Lies W W.heap.size 1 A1 n1 (l1.map bv)) (hnc1 : n1 ≤ c1) (hc1 : c1 ≤ 140737488351232) :
    Calls Try.prog 5 #[.slice A n c, .slice A1 n1 c1] W fun e W' => e = .returned (.bool true) ∧ Below W.heap.size W W' := by
  have HEL := Lib.hid (el_of hl hu hnc hc)
  have HU := Lib.hid hu; have HN := Lib.hid hn; have HL := Lib.hid hl
  have HA := Lib.hid HAL
  have HT := Lib.hid h1
  have hms : ∀ w, (Instr.makeSlice 26 (.int .i64 3) (.int .i64 3)).run Try.prog w = .ok (.slice (some ⟨w.heap.size, 0, none⟩) 3 3) (w.alloc (.cells #[.slice none 0 0, .slice none 0 0, .slice none 0 0] 22)) := fun _ => by kernel_rfl
  clear hl hu hn HAL h1
  go_enter Try.func5, Try.ntmps5
  go_wp2_with fail
  with_reducible refine Calls.mono (HA.out W) ?_
  rintro e w1 ⟨rfl, hb1⟩
  have H1 := Lib.hid hb1
  have HG := Lib.hid (many12_any A n c l w1 ((HL.out.below hb1).more hb1.size) HU.out (by omega))
  clear hb1
  go_wp2_with fail
  with_reducible refine Calls.mono HG.out ?_
  rintro e w1b ⟨b, rfl, hb3, hb2⟩
  have H1 := Lib.hid (H1.out.trans (hb2.mono H1.out.size))
  clear hb2 HG
  cases b with
  | true =>
    clear hb3
    go_wp2_with fail
    with_reducible refine Calls.mono (HA.out w1b) ?_
    rintro e w2 ⟨rfl, hb2⟩
    have HF := Lib.hid (H1.out.trans (hb2.mono H1.out.size))
    clear hb2
    go_wp2
    go_ret
    exact ⟨rfl, HF.out⟩
  | false =>
    have hn150 := hb3 rfl
    clear hb3
    by_cases hnn : n1 = n
    · subst hnn
      have HRi := Lib.hid (rises12_any (HEL.out.below H1.out) (by omega))
      by_cases hr : Rise l
      · have hd : decide (Rise l) = true := decide_eq_true hr
        rw [hd] at HRi
        have HR := Lib.hid hr
        clear hd hr
        go_wp2_with fail
        with_reducible refine Calls.mono HRi.out ?_
        rintro e w2 ⟨rfl, hb2⟩
        have H2 := Lib.hid (H1.out.trans (hb2.mono H1.out.size))
        have HG0 : Hid (GLI w2 w2.heap.size 3 l (.int .i64 0) (w2.alloc (.cells #[.slice none 0 0, .slice none 0 0, .slice none 0 0] 22))) := GLI.start w2 3 l
        obtain ⟨g, hg⟩ : ∃ g, w2.heap.size = g := ⟨_, rfl⟩
        rw [hg] at HG0
        have HGg := Lib.hid hg
        clear hb2 HRi
        go_wp2_with fail
        clear hg
        go_loopw [6] (fun i wr => GLI w2 g 3 l i wr) (fun i _ => n1 - (intOf i).toNat)
        case atStart => exact HG0.out
        case round =>
          clear HG0
          obtain ⟨k, L, hk, rfl, hL, hgl, hdl⟩ := hrel
          have HN' := HN.out
          have HGL := Lib.hid hgl; have HDL := Lib.hid hdl
          by_cases hlt : k < n1
          · have hbw : Below W.heap.size W wr := H2.out.trans (hgl.low.mono H2.out.size)
            obtain ⟨eb, eo, x, rfl, heb, hx, c0, c1x, c2, c3⟩ := (HEL.out.below hbw).lies.entry hlt
            obtain ⟨tb, to, y, rfl, htb, hy, t0⟩ := (HT.out.below hbw).byte hlt
            obtain ⟨yy, hyy⟩ : ∃ yy, y.toNat = yy := ⟨_, rfl⟩
            rw [hyy] at t0
            obtain ⟨j, hj⟩ : ∃ j, yy % 3 = j := ⟨_, rfl⟩
            have hj3 : j < 3 := by omega
            have m1 : (yy : Int) % 3 = (j : Int) := by omega
            have m2 : Int.tmod (yy : Int) 3 = (j : Int) := by rw [Int.tmod_eq_emod_of_nonneg (by omega)]; exact m1
            obtain ⟨r, hr⟩ : ∃ r, L[j]? = some r := ⟨_, List.getElem?_eq_getElem (by omega)⟩
            obtain ⟨hrn, hro⟩ := hgl.own r (List.mem_of_getElem? hr)
            have hrl : r.l.length ≤ 150 := by
              have h1 := (hdl.sub r.l (List.mem_map_of_mem (List.mem_of_getElem? hr))).length_le
              rw [List.length_take] at h1; omega
            obtain ⟨d0, d1⟩ := hgl.cell hr
            have hi0 : (0 : Int) ≤ (k : Int) := by omega
            have hi1 : (k : Int) < (n1 : Int) := by omega
            have hit : ((k : Int)).toNat = k := by simp
            have hj0 : (0 : Int) ≤ (j : Int) := by omega
            have hj1 : (j : Int) < 3 := by omega
            have hjt : ((j : Int)).toNat = j := by simp
            have hwsz := hbw.size
            have hw2 := hgl.low.size
            have hglt := hgl.lt
            have hX : ∀ p : Addr, p.block < wr.heap.size → (wr.alloc (.cells #[.string x.m.k, .int .u64 (x.m.s : Int), .bool x.m.g, .string x.x] 31)).cell? p = wr.cell? p := fun p hp => World.cell?_alloc_lt wr _ _ hp
            have t1 := (hX ⟨tb, to + k, none⟩ (by show tb < _; omega)).trans t0
            have d2 := (hX ⟨g, j, none⟩ hglt).trans d0
            have HE3 : Hid (Lies ((wr.drew).alloc (.cells #[.string x.m.k, .int .u64 (x.m.s : Int), .bool x.m.g, .string x.x] 31)) (wr.heap.size + 1) 4 (some ⟨wr.heap.size, 0, none⟩) 1 (ecs [x])) := en_lies wr.drew x
            have hgd : GL w2 wr.drew g L := hgl.below (Below.refl _ _).drew
            have HGD := Lib.hid hgd
            have hro' := (hgd.own r (List.mem_of_getElem? hr)).2
            have HRO : Hid (wr.drew.ownsRow w2.heap.size 31 4 (.slice r.A r.n r.c) r.n (ecs r.l)) := hro'
            have HT4 : Hid (∀ w4, ((wr.drew).alloc (.cells #[.string x.m.k, .int .u64 (x.m.s : Int), .bool x.m.g, .string x.x] 31)).grownBy w4 (Value.slice r.A r.n r.c).ownBlock → w4.cell? ⟨tb, to + k, none⟩ = some (.int .u8 (yy : Int)) ∧ w4.frozen? ⟨g, j, none⟩ = false ∧ w4.cell? ⟨g, j, none⟩ = some (.slice r.A r.n r.c)) := fun w4 hg4 => by
              have hz : ((wr.drew).alloc (.cells #[.string x.m.k, .int .u64 (x.m.s : Int), .bool x.m.g, .string x.x] 31)).heap.size = wr.heap.size + 1 := by simp
              have hgA := hgd.below (al_belowM _ (.cells #[.string x.m.k, .int .u64 (x.m.s : Int), .bool x.m.g, .string x.x] 31))
              have hg4b := hg4.block g (by rw [hz]; omega) (fun e => hgd.ne (List.mem_of_getElem? hr) e.symm)
              refine ⟨?_, ?_, ?_⟩
              · rw [World.cell?_of_block (hg4.block tb (by rw [hz]; omega) (fun e => by have := (hro'.lt tb e.symm).1; have := H2.out.size; omega))]
                exact t1
              · have h1 := hg4b.trans hgA.row
                simp [World.frozen?, h1]
              · rw [World.cell?_of_block hg4b]
                exact (hgA.cell hr).1
            have HSt : Hid (∀ w4 A4 c4, ((wr.drew).alloc (.cells #[.string x.m.k, .int .u64 (x.m.s : Int), .bool x.m.g, .string x.x] 31)).grownBy w4 (Value.slice r.A r.n r.c).ownBlock → w4.ownsRow w2.heap.size 31 4 (.slice A4 (r.n + 1) c4) (r.n + 1) (ecs r.l ++ ecs [x]) →
                ((Value.slice A4 (r.n + 1) c4).ownBlock = (Value.slice r.A r.n r.c).ownBlock ∨ (Value.slice A4 (r.n + 1) c4).ownBlock = some ((wr.drew).alloc (.cells #[.string x.m.k, .int .u64 (x.m.s : Int), .bool x.m.g, .string x.x] 31)).heap.size) →
                GLI w2 g 3 l (.int .i64 ((k : Int) + 1)) (w4.setCell ⟨g, j, none⟩ (.slice A4 (r.n + 1) c4))) := fun w4 A4 c4 hg4 ho4 hat4 =>
              GLI.step hgd hL hdl (by omega) hx hr hg4 ho4 hat4
            obtain ⟨i0, hi, hz0, hz1, hz2⟩ := info_parts entry_info
            have hrn150 : r.n ≤ 150 := by omega
            clear hgl hdl hyy hy hx hr hro hro' hgd hX hrl hrn hbw hj HGL HDL HGD hL
            obtain ⟨rA, rn, rc, rl⟩ := r
            dsimp only at *
            go_wp2_with fail
            go_region_law (first
              | (refine step_app _ rfl (.tmp 54) (.tmp 59) 22 rfl w2.heap.size 31 i0 _ 4 48 Try.underlying22 hi hz0 hz1 hz2 rfl (by decide) (.slice rA rn rc) rn (ecs rl) rfl (World.ownsRow.alloc (w := wr.drew) HRO.out _) (wr.heap.size + 1) (some ⟨wr.heap.size, 0, none⟩) 1 1 (ecs [x]) rfl HE3.out (ecs_one _) (by unfold maxLen; omega) (by omega) (by simp; omega) ?_; intro v4 w4 hown4 hg4 hat4; obtain ⟨A4, c4, rfl, _⟩ := own_shape hown4; obtain ⟨t4, f4, d4⟩ := HT4.out w4 hg4; have HR4 := Lib.hid (HSt.out w4 A4 c4 hg4 hown4 hat4); clear hown4 hg4 hat4)
              | fail)
            all_goals try simp only [Act.put, List.setIfInBounds_toArray, List.set_cons_zero, List.set_cons_succ, List.getElem_toArray, List.getElem_cons_zero, List.getElem_cons_succ]
            all_goals clear t0 t1 d0 d1 d2 c0 c1x c2 c3
            all_goals go_wp2
            all_goals go_roundw
            all_goals first
              | exact HR4.out
              | (simp [intOf]; omega)
          · obtain rfl : k = n1 := by omega
            have htk : l.take k = l := List.take_of_length_le (by omega)
            rw [htk] at hdl
            have hlt' : ¬ ((k : Int) < (k : Int)) := by omega
            obtain ⟨a0, m0, d0, l0, a1, m1, d1, l1', a2, m2, d2, l2, rfl⟩ : ∃ a0 m0 d0 l0 a1 m1 d1 l1' a2 m2 d2 l2, L = [⟨a0, m0, d0, l0⟩, ⟨a1, m1, d1, l1'⟩, ⟨a2, m2, d2, l2⟩] := by
              match L, hL with
              | [a, b, c], _ => exact ⟨_, _, _, _, _, _, _, _, _, _, _, _, rfl⟩
            obtain rfl : m0 = l0.length := (hgl.own ⟨a0, m0, d0, l0⟩ (by simp)).1
            obtain rfl : m1 = l1'.length := (hgl.own ⟨a1, m1, d1, l1'⟩ (by simp)).1
            obtain rfl : m2 = l2.length := (hgl.own ⟨a2, m2, d2, l2⟩ (by simp)).1
            have hsz : ∀ r ∈ [(⟨a0, l0.length, d0, l0⟩ : Ls), ⟨a1, l1'.length, d1, l1'⟩, ⟨a2, l2.length, d2, l2⟩], ∀ x ∈ r.l, x.m.k.size ≤ 140737488351232 ∧ x.x.size ≤ 140737488351232 := fun r hr x hx => (HU.out x ((hdl.sub r.l (List.mem_map_of_mem hr)).subset hx)).2
            obtain ⟨U, hmU⟩ := hdl.part HR.out 2
            have hmS := hdl.merged HR.out
            have hmU : mgL [l0, l1'] U := hmU
            have hmS : mgL [l0, l1', l2] l := hmS
            have hpU := hmU.2.1
            have hpS := hmS.2.1
            simp only [List.flatten_cons, List.flatten_nil, List.append_nil] at hpU hpS
            have hlU := hpU.length_eq
            have hlS := hpS.length_eq
            rw [List.length_append] at hlU
            rw [List.length_append, List.length_append, HN'] at hlS
            have hmB : mgL [U, l2] l := ⟨fun q hq => by
              rcases List.mem_cons.1 hq with rfl | hq
              · exact hmU.2.2
              · obtain rfl := List.mem_singleton.1 hq; exact hmS.1 _ (by simp), by
              simp only [List.flatten_cons, List.flatten_nil, List.append_nil]
              refine hpS.trans ?_
              rw [← List.append_assoc]
              exact List.Perm.append_right _ hpU.symm, HR.out⟩
            have hr1 := hmS.1 l1' (by simp)
            have hmD : mgL [[], l1'] l1' := ⟨fun q hq => by
              rcases List.mem_cons.1 hq with rfl | hq
              · exact List.Pairwise.nil
              · obtain rfl := List.mem_singleton.1 hq; exact hr1, by simp, hr1⟩
            have hUs : ∀ x ∈ U, x.m.k.size ≤ 140737488351232 ∧ x.x.size ≤ 140737488351232 := fun x hx => by
              rcases List.mem_append.1 (hpU.mem_iff.1 hx) with h | h
              · exact hsz ⟨a0, l0.length, d0, l0⟩ (by simp) x h
              · exact hsz ⟨a1, l1'.length, d1, l1'⟩ (by simp) x h
            have hsl : ∀ W, (Instr.slice 26 (.slice (some ⟨g, 0, none⟩) 3 3) none (some (.int .i64 2)) none).run Try.prog W = .ok (.slice (some ⟨g, 0, none⟩) 2 3) W := fun _ => by kernel_rfl
            have hM1 := merge_any wr wr.heap.size 2 3 (some ⟨g, 0, none⟩) [⟨a0, l0.length, d0, l0⟩, ⟨a1, l1'.length, d1, l1'⟩] (hgl.lies 2 (by simp)) (Nat.le_refl _) (fun r hr => hgl.els hsz r (by
              rcases List.mem_cons.1 hr with rfl | hr
              · simp
              · obtain rfl := List.mem_singleton.1 hr; simp)) (by decide) (by simp; omega)
            have HM1 := Lib.hid (hM1.mono fun e w' h => mergeR_yes h hmU)
            have HS := Lib.hid hsz; have HmS := Lib.hid hmS; have HmB := Lib.hid hmB; have HmD := Lib.hid hmD; have HUs := Lib.hid hUs; have HlU := Lib.hid hlU; have HlS := Lib.hid hlS
            clear HN' hgl hdl hk hL htk hmU hmS hpU hpS hlU hlS hmB hmD hUs hr1 hsz hM1 HDL
            go_wp2_with fail
            with_reducible refine Calls.mono HM1.out ?_
            rintro e w3 ⟨Aa, ca, rfl, hoa, hb3⟩
            have HG3 := Lib.hid (HGL.out.below hb3)
            have hc2 := (HG3.out.cell (j := 2) rfl).1
            have hb4 := al_belowM w3 (.cells #[.slice Aa U.length ca, .slice a2 l2.length d2] 22)
            have hLb : Lies (w3.alloc (.cells #[.slice Aa U.length ca, .slice a2 l2.length d2] 22)) (w3.alloc (.cells #[.slice Aa U.length ca, .slice a2 l2.length d2] 22)).heap.size 1 (some ⟨w3.heap.size, 0, none⟩) 2 (([⟨Aa, U.length, ca, U⟩, ⟨a2, l2.length, d2, l2⟩] : List Ls).map Ls.v) :=
              (lits_lie rfl [.slice Aa U.length ca, .slice a2 l2.length d2] 22).more (by simp)
            have hM2 := merge_any _ _ 2 2 (some ⟨w3.heap.size, 0, none⟩) [⟨Aa, U.length, ca, U⟩, ⟨a2, l2.length, d2, l2⟩] hLb (Nat.le_refl _) (fun r hr => by
              rcases List.mem_cons.1 hr with rfl | hr
              · exact own_el (own_below hoa hb4) HUs.out
              · obtain rfl := List.mem_singleton.1 hr; exact (HG3.out.below hb4).els HS.out _ (by simp)) (by decide) (by have := HlU.out; have := HlS.out; simp; omega)
            have HM2 := Lib.hid (hM2.mono fun e w' h => mergeR_yes h HmB.out)
            have HB4 := Lib.hid hb4
            clear hoa hb3 hb4 hLb hM2 HM1 hsl
            go_wp2_with fail
            with_reducible refine Calls.mono HM2.out ?_
            rintro e w5 ⟨Ab, cb, rfl, hob, hb5⟩
            have HG5 := Lib.hid (HG3.out.below (HB4.out.trans (hb5.mono HB4.out.size)))
            have hM3 := merge_any w5 w5.heap.size 3 3 (some ⟨g, 0, none⟩) [⟨a0, l0.length, d0, l0⟩, ⟨a1, l1'.length, d1, l1'⟩, ⟨a2, l2.length, d2, l2⟩] (HG5.out.lies 3 (by simp)) (Nat.le_refl _) (HG5.out.els HS.out) (by decide) (by have := HlU.out; have := HlS.out; simp; omega)
            have HM3 := Lib.hid (hM3.mono fun e w' h => mergeR_yes h HmS.out)
            have HOb := Lib.hid hob
            clear hob hb5 hM3 HM2 HG3 hc2 HB4
            go_wp2_with fail
            with_reducible refine Calls.mono HM3.out ?_
            rintro e w6 ⟨Ac, cc, rfl, hoc, hb6⟩
            have HG6 := Lib.hid (HG5.out.below hb6)
            have hc1' := (HG6.out.cell (j := 1) rfl).1
            have HO6 := Lib.hid (own_below HOb.out hb6)
            have hb7 := al_belowM w6 (.cells #[.slice none 0 0, .slice a1 l1'.length d1] 22)
            have hLd : Lies (w6.alloc (.cells #[.slice none 0 0, .slice a1 l1'.length d1] 22)) (w6.alloc (.cells #[.slice none 0 0, .slice a1 l1'.length d1] 22)).heap.size 1 (some ⟨w6.heap.size, 0, none⟩) 2 (([nilL, ⟨a1, l1'.length, d1, l1'⟩] : List Ls).map Ls.v) :=
              (lits_lie rfl [.slice none 0 0, .slice a1 l1'.length d1] 22).more (by simp)
            have hM4 := merge_any _ _ 2 2 (some ⟨w6.heap.size, 0, none⟩) [nilL, ⟨a1, l1'.length, d1, l1'⟩] hLd (Nat.le_refl _) (fun r hr => by
              rcases List.mem_cons.1 hr with rfl | hr
              · exact ⟨Lies.none_ _ _ _ _, Nat.le_refl _, Nat.le_refl _, by unfold maxLen; decide, fun x hx => by cases hx⟩
              · obtain rfl := List.mem_singleton.1 hr; exact (HG6.out.below hb7).els HS.out _ (by simp)) (by decide) (by have := HlS.out; simp [nilL]; omega)
            have HM4 := Lib.hid (hM4.mono fun e w' h => mergeR_yes h HmD.out)
            have HB7 := Lib.hid hb7
            have HOc := Lib.hid hoc
            clear hoc hb6 hb7 hLd hM4 HM3 HG5 HOb
            go_wp2_with fail
            with_reducible refine Calls.mono HM4.out ?_
            rintro e w8 ⟨Ad, cd, rfl, hod, hb8⟩
            have HB8 := Lib.hid (HB7.out.trans (hb8.mono HB7.out.size))
            have HG8 := Lib.hid (HG6.out.below HB8.out)
            have hlb : Lies w8 w8.heap.size 4 Ab l.length (ecs l) := Lies.of_own (own_below HO6.out HB8.out)
            have hlc : Lies w8 w8.heap.size 4 Ac l.length (ecs l) := Lies.of_own (own_below HOc.out HB8.out)
            have HSm := Lib.hid (sameE_yes (c := cb) (c2 := cc) hlb hlc (by have := HN.out; omega))
            have HOd := Lib.hid hod
            clear hb8 hod hlb hlc HM4 HG6 HO6 HOc hc1' HB7 HB8
            have hc18 := (HG8.out.cell (j := 1) rfl).1
            go_wp2_with fail
            with_reducible refine Calls.mono HSm.out ?_
            rintro e w9 ⟨rfl, hb9⟩
            have HG9 := Lib.hid (HG8.out.below hb9)
            have hc19 := (HG9.out.cell (j := 1) rfl).1
            have hld : Lies w9 w9.heap.size 4 Ad l1'.length (ecs l1') := Lies.of_own (own_below HOd.out hb9)
            have hl1 : Lies w9 w9.heap.size 4 a1 l1'.length (ecs l1') := (HG9.out.els HS.out ⟨a1, l1'.length, d1, l1'⟩ (by simp)).lies
            have HSm2 := Lib.hid (sameE_yes (c := cd) (c2 := d1) hld hl1 (by have := HlS.out; omega))
            clear hb9 hld hl1 HSm HG8 HOd hc18
            go_wp2_with fail
            with_reducible refine Calls.mono HSm2.out ?_
            rintro e wa ⟨rfl, hba⟩
            have HF := Lib.hid (H2.out.trans ((HG9.out.low.trans (hba.mono HG9.out.low.size)).mono H2.out.size))
            clear hba hc19
            go_wp2
            go_ret
            exact ⟨rfl, HF.out⟩
      · have hd : decide (Rise l) = false := decide_eq_false hr
        rw [hd] at HRi
        clear hd hr
        go_wp2_with fail
        with_reducible refine Calls.mono HRi.out ?_
        rintro e w2 ⟨rfl, hb2⟩
        have H2 := Lib.hid (H1.out.trans (hb2.mono H1.out.size))
        clear hb2 HRi
        go_wp2_with fail
        with_reducible refine Calls.mono (HA.out w2) ?_
        rintro e w3 ⟨rfl, hb3⟩
        have HF := Lib.hid (H2.out.trans (hb3.mono H2.out.size))
        clear hb3
        go_wp2
        go_ret
        exact ⟨rfl, HF.out⟩
    · have hnb : ¬ ((n1 : Int) = (n : Int)) := by omega
      go_wp2_with fail
      with_reducible refine Calls.mono (HA.out w1b) ?_
      rintro e w2 ⟨rfl, hb2⟩
      have HF := Lib.hid (H1.out.trans (hb2.mono H1.out.size))
      clear hb2
      go_wp2
      go_ret
      exact ⟨rfl, HF.out⟩
end Go.Proofs.Ytoljldokehfokaa
