/-
  The walk of MergesAll.
-/
import Derived.Test.YtoljldokehfokaaLaw12
import Derived.Test.YtoljldokehfokaaMgLs
import Derived.Deep.Cut
namespace Go.Proofs.Ytoljldokehfokaa
open Go.RowKit
set_option linter.unusedVariables false
set_option maxRecDepth 100000

theorem lst_infoA : (Try.prog.info? 22).map (fun i => (i.zero, i.size, i.bytes)) = some (some (.slice none 0 0), 1, 24) := by kernel_rfl
theorem GL.holds {w0 w : World} {g : Nat} {L : List Ls} (h : GL w0 w g L) : ∀ b, some (⟨g, 0, none⟩ : Addr) = some b → ∀ j u, (L.map Ls.v)[j]? = some u → w.cell? (b.add j) = some u := fun b hb j u hu => by
  injection hb with hb
  subst hb
  rw [add_lit, Nat.zero_add, cell_of_row _ g j _ _ (0, 0) h.row]
  simpa using hu
theorem mergeR_no {w w' : World} {L : List (List En)} {e : Ending} (h : MergeR w L e w') (hno : ∀ out, MgO L out → ¬ Rise out) :
    e = .returned (.tuple #[.slice none 0 0, .int .i64 1]) ∧ Below w.heap.size w w' := by
  obtain ⟨hb, out, ho, hor⟩ := h
  rcases hor with ⟨hr, _⟩ | ⟨_, rfl⟩
  · exact absurd hr (hno out ho)
  · exact ⟨rfl, hb⟩
set_option maxHeartbeats 16000000 in
theorem mergesAll_walk0 (HAL : ∀ w, Calls Try.prog 6 #[] w fun e w' => e = .returned (.bool true) ∧ Below w.heap.size w w') (A : Option Addr) (n c : Nat) (l : List En) (A1 : Option Addr) (n1 c1 : Nat) (l1 : List UInt8) (f : Nat) (W : World) (hl : Lies W W.heap.size 4 A n (ecs l)) (hu : Fits l) (hn : l.length = n) (hnc : n ≤ c) (hc : c ≤ 140737488351232)
    (h1 : Lies W W.heap.size 1 A1 n1 (l1.map bv)) (hnc1 : n1 ≤ c1) (hc1 : c1 ≤ 140737488351232) (hf : f < 256) :
    Calls Try.prog 3 #[.slice A n c, .slice A1 n1 c1, .int .u8 (f : Int)] W fun e W' => e = .returned (.bool true) ∧ Below W.heap.size W W' := by
  have HEL := Lib.hid (el_of hl hu hnc hc)
  have HU := Lib.hid hu; have HN := Lib.hid hn; have HL := Lib.hid hl
  have HA := Lib.hid HAL
  have HT := Lib.hid h1
  have hms : ∀ w, (Instr.makeSlice 26 (.int .i64 4) (.int .i64 4)).run Try.prog w = .ok (.slice (some ⟨w.heap.size, 0, none⟩) 4 4) (w.alloc (.cells #[.slice none 0 0, .slice none 0 0, .slice none 0 0, .slice none 0 0] 22)) := fun _ => by kernel_rfl
  clear hl hu hn HAL h1
  go_enter Try.func3, Try.ntmps3
  go_wp2_with fail
  with_reducible refine Calls.mono (HA.out W) ?_
  rintro e w1 ⟨rfl, hb1⟩
  have H1 := Lib.hid hb1
  have HG := Lib.hid (many12_any A n c l w1 ((HL.out.below hb1).more hb1.size) HU.out (by omega))
  clear hb1
  go_wp2_with fail
  with_reducible refine Calls.mono HG.out ?_
  rintro e w1b ⟨b, rfl, hb3, hb2⟩
  have H1 := Lib.hid (H1.out.trans (hb2.mono H1.out.size))
  clear hb2 HG
  cases b with
  | true =>
    clear hb3
    go_wp2_with fail
    with_reducible refine Calls.mono (HA.out w1b) ?_
    rintro e w2 ⟨rfl, hb2⟩
    have HF := Lib.hid (H1.out.trans (hb2.mono H1.out.size))
    clear hb2
    go_wp2
    go_ret
    exact ⟨rfl, HF.out⟩
  | false =>
    have hn150 := hb3 rfl
    clear hb3
    by_cases hnn : n1 = n
    · subst hnn
      have HRi := Lib.hid (rises12_any (HEL.out.below H1.out) (by omega))
      by_cases hr : Rise l
      · have hd : decide (Rise l) = true := decide_eq_true hr
        rw [hd] at HRi
        have HR := Lib.hid hr
        clear hd hr
        go_wp2_with fail
        with_reducible refine Calls.mono HRi.out ?_
        rintro e w2 ⟨rfl, hb2⟩
        have H2 := Lib.hid (H1.out.trans (hb2.mono H1.out.size))
        have HG0 : Hid (GLI w2 w2.heap.size 4 l (.int .i64 0) (w2.alloc (.cells #[.slice none 0 0, .slice none 0 0, .slice none 0 0, .slice none 0 0] 22))) := GLI.start w2 4 l
        obtain ⟨g, hg⟩ : ∃ g, w2.heap.size = g := ⟨_, rfl⟩
        rw [hg] at HG0
        have HGg := Lib.hid hg
        clear hb2 HRi
        go_wp2_with fail
        clear hg
        go_loopw [8] (fun i wr => GLI w2 g 4 l i wr) (fun i _ => n1 - (intOf i).toNat)
        case atStart => exact HG0.out
        case round =>
          clear HG0
          obtain ⟨k, L, hk, rfl, hL, hgl, hdl⟩ := hrel
          have HN' := HN.out
          have HGL := Lib.hid hgl; have HDL := Lib.hid hdl
          by_cases hlt : k < n1
          · have hbw : Below W.heap.size W wr := H2.out.trans (hgl.low.mono H2.out.size)
            obtain ⟨eb, eo, x, rfl, heb, hx, c0, c1x, c2, c3⟩ := (HEL.out.below hbw).lies.entry hlt
            obtain ⟨tb, to, y, rfl, htb, hy, t0⟩ := (HT.out.below hbw).byte hlt
            obtain ⟨yy, hyy⟩ : ∃ yy, y.toNat = yy := ⟨_, rfl⟩
            rw [hyy] at t0
            obtain ⟨j, hj⟩ : ∃ j, (yy + f) % 4 = j := ⟨_, rfl⟩
            have hj3 : j < 4 := by omega
            have hyl : yy < 256 := by rw [← hyy]; exact y.toNat_lt
            have m1 : ((yy : Int) + (f : Int)) % 4 = (j : Int) := by omega
            have q1 : IntKind.i64.wrap (yy : Int) = (yy : Int) := by rw [IntWalk.i64_in] <;> omega
            have q2 : IntKind.i64.wrap (f : Int) = (f : Int) := by rw [IntWalk.i64_in] <;> omega
            have q3 : IntKind.i64.wrap ((yy : Int) + (f : Int)) = (yy : Int) + (f : Int) := by rw [IntWalk.i64_in] <;> omega
            have m2 : Int.tmod ((yy : Int) + (f : Int)) 4 = (j : Int) := by rw [Int.tmod_eq_emod_of_nonneg (by omega)]; exact m1
            obtain ⟨r, hr⟩ : ∃ r, L[j]? = some r := ⟨_, List.getElem?_eq_getElem (by omega)⟩
            obtain ⟨hrn, hro⟩ := hgl.own r (List.mem_of_getElem? hr)
            have hrl : r.l.length ≤ 150 := by
              have h1 := (hdl.sub r.l (List.mem_map_of_mem (List.mem_of_getElem? hr))).length_le
              rw [List.length_take] at h1; omega
            obtain ⟨d0, d1⟩ := hgl.cell hr
            have hi0 : (0 : Int) ≤ (k : Int) := by omega
            have hi1 : (k : Int) < (n1 : Int) := by omega
            have hit : ((k : Int)).toNat = k := by simp
            have hj0 : (0 : Int) ≤ (j : Int) := by omega
            have hj1 : (j : Int) < 4 := by omega
            have hjt : ((j : Int)).toNat = j := by simp
            have hwsz := hbw.size
            have hw2 := hgl.low.size
            have hglt := hgl.lt
            have hX : ∀ p : Addr, p.block < wr.heap.size → (wr.alloc (.cells #[.string x.m.k, .int .u64 (x.m.s : Int), .bool x.m.g, .string x.x] 31)).cell? p = wr.cell? p := fun p hp => World.cell?_alloc_lt wr _ _ hp
            have t1 := (hX ⟨tb, to + k, none⟩ (by show tb < _; omega)).trans t0
            have d2 := (hX ⟨g, j, none⟩ hglt).trans d0
            have HE3 : Hid (Lies ((wr.drew).alloc (.cells #[.string x.m.k, .int .u64 (x.m.s : Int), .bool x.m.g, .string x.x] 31)) (wr.heap.size + 1) 4 (some ⟨wr.heap.size, 0, none⟩) 1 (ecs [x])) := en_lies wr.drew x
            have hgd : GL w2 wr.drew g L := hgl.below (Below.refl _ _).drew
            have HGD := Lib.hid hgd
            have hro' := (hgd.own r (List.mem_of_getElem? hr)).2
            have HRO : Hid (wr.drew.ownsRow w2.heap.size 31 4 (.slice r.A r.n r.c) r.n (ecs r.l)) := hro'
            have HT4 : Hid (∀ w4, ((wr.drew).alloc (.cells #[.string x.m.k, .int .u64 (x.m.s : Int), .bool x.m.g, .string x.x] 31)).grownBy w4 (Value.slice r.A r.n r.c).ownBlock → w4.cell? ⟨tb, to + k, none⟩ = some (.int .u8 (yy : Int)) ∧ w4.frozen? ⟨g, j, none⟩ = false ∧ w4.cell? ⟨g, j, none⟩ = some (.slice r.A r.n r.c)) := fun w4 hg4 => by
              have hz : ((wr.drew).alloc (.cells #[.string x.m.k, .int .u64 (x.m.s : Int), .bool x.m.g, .string x.x] 31)).heap.size = wr.heap.size + 1 := by simp
              have hgA := hgd.below (al_belowM _ (.cells #[.string x.m.k, .int .u64 (x.m.s : Int), .bool x.m.g, .string x.x] 31))
              have hg4b := hg4.block g (by rw [hz]; omega) (fun e => hgd.ne (List.mem_of_getElem? hr) e.symm)
              refine ⟨?_, ?_, ?_⟩
              · rw [World.cell?_of_block (hg4.block tb (by rw [hz]; omega) (fun e => by have := (hro'.lt tb e.symm).1; have := H2.out.size; omega))]
                exact t1
              · have h1 := hg4b.trans hgA.row
                simp [World.frozen?, h1]
              · rw [World.cell?_of_block hg4b]
                exact (hgA.cell hr).1
            have HSt : Hid (∀ w4 A4 c4, ((wr.drew).alloc (.cells #[.string x.m.k, .int .u64 (x.m.s : Int), .bool x.m.g, .string x.x] 31)).grownBy w4 (Value.slice r.A r.n r.c).ownBlock → w4.ownsRow w2.heap.size 31 4 (.slice A4 (r.n + 1) c4) (r.n + 1) (ecs r.l ++ ecs [x]) →
                ((Value.slice A4 (r.n + 1) c4).ownBlock = (Value.slice r.A r.n r.c).ownBlock ∨ (Value.slice A4 (r.n + 1) c4).ownBlock = some ((wr.drew).alloc (.cells #[.string x.m.k, .int .u64 (x.m.s : Int), .bool x.m.g, .string x.x] 31)).heap.size) →
                GLI w2 g 4 l (.int .i64 ((k : Int) + 1)) (w4.setCell ⟨g, j, none⟩ (.slice A4 (r.n + 1) c4))) := fun w4 A4 c4 hg4 ho4 hat4 =>
              GLI.step hgd hL hdl (by omega) hx hr hg4 ho4 hat4
            obtain ⟨i0, hi, hz0, hz1, hz2⟩ := info_parts entry_info
            have hrn150 : r.n ≤ 150 := by omega
            clear hyl hgl hdl hyy hy hx hr hro hro' hgd hX hrl hrn hbw hj HGL HDL HGD hL
            obtain ⟨rA, rn, rc, rl⟩ := r
            dsimp only at *
            go_wp2_with fail
            go_region_law (first
              | (refine step_app _ rfl (.tmp 57) (.tmp 62) 22 rfl w2.heap.size 31 i0 _ 4 48 Try.underlying22 hi hz0 hz1 hz2 rfl (by decide) (.slice rA rn rc) rn (ecs rl) rfl (World.ownsRow.alloc (w := wr.drew) HRO.out _) (wr.heap.size + 1) (some ⟨wr.heap.size, 0, none⟩) 1 1 (ecs [x]) rfl HE3.out (ecs_one _) (by unfold maxLen; omega) (by omega) (by simp; omega) ?_; intro v4 w4 hown4 hg4 hat4; obtain ⟨A4, c4, rfl, _⟩ := own_shape hown4; obtain ⟨t4, f4, d4⟩ := HT4.out w4 hg4; have HR4 := Lib.hid (HSt.out w4 A4 c4 hg4 hown4 hat4); clear hown4 hg4 hat4)
              | fail)
            all_goals try simp only [Act.put, List.setIfInBounds_toArray, List.set_cons_zero, List.set_cons_succ, List.getElem_toArray, List.getElem_cons_zero, List.getElem_cons_succ]
            all_goals clear t0 t1 d0 d1 d2 c0 c1x c2 c3
            all_goals go_wp2
            all_goals go_roundw
            all_goals first
              | exact HR4.out
              | (simp [intOf]; omega)
          · obtain rfl : k = n1 := by omega
            have htk : l.take k = l := List.take_of_length_le (by omega)
            rw [htk] at hdl
            have hlt' : ¬ ((k : Int) < (k : Int)) := by omega
            have hsz : ∀ r ∈ L, ∀ x ∈ r.l, x.m.k.size ≤ 140737488351232 ∧ x.x.size ≤ 140737488351232 := fun r hr x hx => (HU.out x ((hdl.sub r.l (List.mem_map_of_mem hr)).subset hx)).2
            have hmS := hdl.merged HR.out
            have hpS := hmS.2.1
            have hlS := hpS.length_eq
            rw [HN'] at hlS
            have htL : L.take 4 = L := List.take_of_length_le (by omega)
            have hl4 := hgl.lies 4 (by omega)
            rw [htL] at hl4
            have hM1 := merge_any wr wr.heap.size 4 4 (some ⟨g, 0, none⟩) L hl4 (Nat.le_refl _) (hgl.els hsz) (by decide) (by omega)
            have HM1 := Lib.hid (hM1.mono fun e w' h => mergeR_yes h hmS)
            have HS := Lib.hid hsz; have HmS := Lib.hid hmS; have HlS := Lib.hid hlS; have HLL := Lib.hid hL; have HpS := Lib.hid hpS
            clear hdl hk hL htk hmS hpS hlS hsz hM1 HDL hl4 htL hgl
            go_wp2_with fail
            with_reducible refine Calls.mono HM1.out ?_
            rintro e w3 ⟨Aa, ca, rfl, hoa, hb3⟩
            have HG3 := Lib.hid (HGL.out.below hb3)
            have hb4 := al_belowM w3 (.cells #[.slice none 0 0] 22)
            have hg4 := HG3.out.below hb4
            have hone : ∀ j u, [Value.slice none 0 0][j]? = some u → (w3.alloc (.cells #[.slice none 0 0] 22)).cell? ((⟨w3.heap.size, 0, none⟩ : Addr).add j) = some u := fun j u hju => by
              match j, hju with
              | 0, hju =>
                injection hju with hju
                subst hju
                exact cell_of_row _ _ 0 _ _ (0, 0) (heap_alloc_new w3 _)
            obtain ⟨i1, hi1, hy0, hy1, hy2⟩ := info_parts lst_infoA
            have HOA := Lib.hid (own_below hoa hb4)
            have HG4 := Lib.hid hg4; have HB4 := Lib.hid hb4; have HOn := Lib.hid hone
            have HCs := Lib.hid (hg4.holds)
            have HLm : Hid ((L.map Ls.v).length = 4 * 1) := by unfold Hid; rw [List.length_map, HLL.out]
            clear hoa hb3 hb4 hg4 hone HM1
            go_wp2_with (at_builtin; refine wpList_append_grows _ rfl (.tmp 71) (.tmp 72) 26 rfl 22 i1 _ 1 24 Try.underlying26 hi1 hy0 hy1 hy2 rfl (by decide) (some ⟨g, 0, none⟩) 4 4 (L.map Ls.v) rfl (fun e => by cases e) HLm.out HCs.out ⟨w3.heap.size, 0, none⟩ 1 1 [.slice none 0 0] rfl rfl HOn.out (by intro u hu; simp at hu; subst hu; rfl) (by omega) (by unfold maxLen; omega) (by omega) ?_; intro v5 w5 ho5 hg5; obtain ⟨A5, c5, rfl, hc5a, hc5b, _⟩ := own_shape ho5)
            have hb5 : Below (w3.alloc (.cells #[.slice none 0 0] 22)).heap.size (w3.alloc (.cells #[.slice none 0 0] 22)) w5 := (Below.refl _ _).grown hg5 (Nat.le_refl _) (fun j hj => by cases hj)
            have HG5 := Lib.hid (HG4.out.below hb5)
            have HO5 := Lib.hid (own_below HOA.out hb5)
            have hl5 : Lies w5 w5.heap.size 1 A5 5 ((L ++ [nilL]).map Ls.v) := by
              have := Lies.of_own ho5
              rw [List.map_append]
              exact this
            have hM2 := merge_any w5 w5.heap.size 5 c5 A5 (L ++ [nilL]) hl5 (Nat.le_refl _) (fun r hr => by
              rcases List.mem_append.1 hr with hr | hr
              · exact HG5.out.els HS.out r hr
              · obtain rfl := List.mem_singleton.1 hr
                exact ⟨Lies.none_ _ _ _ _, Nat.le_refl _, Nat.le_refl _, by unfold maxLen; decide, fun x hx => by cases hx⟩) (by decide) (by
              rw [List.map_append, List.flatten_append, List.length_append]
              have := HlS.out
              have h0 : (([nilL] : List Ls).map Ls.l).flatten.length = 0 := rfl
              omega)
            have hmB : mgL ((L ++ [nilL]).map Ls.l) l := by
              refine ⟨fun q hq => ?_, ?_, HR.out⟩
              · rw [List.map_append] at hq
                rcases List.mem_append.1 hq with hq | hq
                · exact HmS.out.1 q hq
                · obtain rfl := List.mem_singleton.1 hq; exact List.Pairwise.nil
              · rw [List.map_append, List.flatten_append]
                simpa [nilL] using HpS.out
            have HM2 := Lib.hid (hM2.mono fun e w' h => mergeR_yes h hmB)
            clear ho5 hg5 hb5 hl5 hM2 hmB HG4 HOA HCs HOn HB4
            go_wp2_with fail
            with_reducible refine Calls.mono HM2.out ?_
            rintro e w6 ⟨Ab, cb, rfl, hob, hb6⟩
            have HG6 := Lib.hid (HG5.out.below hb6)
            have HB6 := Lib.hid (H2.out.trans (HG6.out.low.mono H2.out.size))
            have HL6 := Lib.hid ((HL.out.below HB6.out).more HB6.out.size)
            have hla : Lies w6 w6.heap.size 4 Aa k (ecs l) := by have := Lies.of_own (own_below HO5.out hb6); rw [HN.out] at this; exact this
            have HSm := Lib.hid (sameE_yes (c := ca) (c2 := c) hla HL6.out (by omega))
            have HOb := Lib.hid hob
            clear hob hb6 hla HM2 HO5 HG5
            go_wp2_with fail
            with_reducible refine Calls.mono HSm.out ?_
            rintro e w7 ⟨rfl, hb7⟩
            have HG7 := Lib.hid (HG6.out.below hb7)
            have hlb : Lies w7 w7.heap.size 4 Ab k (ecs l) := by have := Lies.of_own (own_below HOb.out hb7); rw [HN.out] at this; exact this
            have HSm2 := Lib.hid (sameE_yes (c := cb) (c2 := c) hlb ((HL6.out.below hb7).more hb7.size) (by omega))
            clear hb7 hlb HSm HOb HL6 HG6 HB6
            go_wp2_with fail
            with_reducible refine Calls.mono HSm2.out ?_
            rintro e w8 ⟨rfl, hb8⟩
            have HG8 := Lib.hid (HG7.out.below hb8)
            have HB8 := Lib.hid (H2.out.trans (HG8.out.low.mono H2.out.size))
            clear hb8 HSm2 HG7
            by_cases hk0 : k = 0
            · subst hk0
              clear hlt' HN'
              go_wp2
              go_ret
              exact ⟨rfl, HB8.out⟩
            · obtain ⟨m, hm⟩ : ∃ m, f % k = m := ⟨_, rfl⟩
              have hmk : m < k := by rw [← hm]; exact Nat.mod_lt _ (by omega)
              have hkb : ¬ ((k : Int) = 0) := by omega
              have q2 : IntKind.i64.wrap (f : Int) = (f : Int) := by rw [IntWalk.i64_in] <;> omega
              have m2 : Int.tmod (f : Int) (k : Int) = (m : Int) := by rw [Int.tmod_eq_emod_of_nonneg (by omega), ← hm]; exact (Int.natCast_emod f k).symm
              have q3 : IntKind.i64.wrap (m : Int) = (m : Int) := by rw [IntWalk.i64_in] <;> omega
              have hm0 : (0 : Int) ≤ (m : Int) := by omega
              have hm1 : (m : Int) < (k : Int) := by omega
              have hmt : ((m : Int)).toNat = m := by simp
              obtain ⟨eb, eo, x, rfl, heb, hx, c0, c1x, c2, c3⟩ := (HEL.out.below HB8.out).lies.entry hmk
              have hebw : eb < w8.heap.size := by have := HB8.out.size; omega
              have hZr : (w8.alloc (.cells #[.string ⟨#[]⟩, .int .u64 0, .bool false, .string ⟨#[]⟩] 31)).heap[w8.heap.size]? = some (.cells #[.string ⟨#[]⟩, .int .u64 0, .bool false, .string ⟨#[]⟩] 31) := heap_alloc_new w8 _
              have hZb := al_belowM w8 (.cells #[.string ⟨#[]⟩, .int .u64 0, .bool false, .string ⟨#[]⟩] 31)
              have hup : ∀ p : Addr, p.block < w8.heap.size → (w8.alloc (.cells #[.string ⟨#[]⟩, .int .u64 0, .bool false, .string ⟨#[]⟩] 31)).cell? p = w8.cell? p := fun p hp => World.cell?_alloc_lt w8 _ _ hp
              have e0 := (hup ⟨eb, eo + m * 4, none⟩ hebw).trans c0
              have e1 := (hup ⟨eb, eo + m * 4 + 1, none⟩ hebw).trans c1x
              have e2 := (hup ⟨eb, eo + m * 4 + 2, none⟩ hebw).trans c2
              have e3 := (hup ⟨eb, eo + m * 4 + 3, none⟩ hebw).trans c3
              obtain ⟨Z, hZ⟩ : ∃ Z, w8.alloc (.cells #[.string ⟨#[]⟩, .int .u64 0, .bool false, .string ⟨#[]⟩] 31) = Z := ⟨_, rfl⟩
              rw [hZ] at hZr hZb e0 e1 e2 e3
              have z0 := cell_of_row Z _ 0 _ _ (0, 0) hZr
              have z1 := cell_of_row Z _ 1 _ _ (0, 0) hZr
              have z2 := cell_of_row Z _ 2 _ _ (0, 0) hZr
              have z3 := cell_of_row Z _ 3 _ _ (0, 0) hZr
              have f0 : Z.frozen? ⟨w8.heap.size, 0, none⟩ = false := by simp [World.frozen?, hZr]
              have f1 : Z.frozen? ⟨w8.heap.size, 1, none⟩ = false := by simp [World.frozen?, hZr]
              have f2 : Z.frozen? ⟨w8.heap.size, 2, none⟩ = false := by simp [World.frozen?, hZr]
              have f3 : Z.frozen? ⟨w8.heap.size, 3, none⟩ = false := by simp [World.frozen?, hZr]
              have hS4 := set4E_at hZr x
              have hS4b : Below w8.heap.size w8 (set4E Z w8.heap.size x) := set4E_below hZb (Nat.le_refl _)
              have HS4 := Lib.hid hS4; have HS4b := Lib.hid hS4b
              obtain ⟨y, hy⟩ : ∃ y : En, y = ⟨x.m, ⟨#[111, 116, 104, 101, 114]⟩⟩ := ⟨_, rfl⟩
              have HY := Lib.hid hy; have HX := Lib.hid (List.mem_of_getElem? hx); have HXs := Lib.hid (HU.out x (List.mem_of_getElem? hx))
              unfold set4E at HS4 HS4b
              clear hZr hZb hup hS4 hS4b hm hx hy
              go_upto_region 16 with fail
              clear e0 e1 e2 e3 c0 c1x c2 c3 z0 z1 z2 z3 f0 f1 f2 f3 hZ
              generalize (((Z.setCell ⟨w8.heap.size, 0, none⟩ (.string x.m.k)).setCell ⟨w8.heap.size, 1, none⟩ (.int .u64 (x.m.s : Int))).setCell ⟨w8.heap.size, 2, none⟩ (.bool x.m.g)).setCell ⟨w8.heap.size, 3, none⟩ (.string x.x) = V at *
              obtain ⟨p0, p1, p2, p3, f0, f1, f2, f3⟩ := box4 HS4.out
              have hV : (V.setCell ⟨w8.heap.size, 3, none⟩ (.string ⟨#[111, 116, 104, 101, 114]⟩)).heap[w8.heap.size]? = some (.cells #[.string x.m.k, .int .u64 (x.m.s : Int), .bool x.m.g, .string ⟨#[111, 116, 104, 101, 114]⟩] 31) := by
                have := HS4.out
                simp [World.setCell, Array.getElem?_modify, this]
              have hVb : Below w8.heap.size w8 (V.setCell ⟨w8.heap.size, 3, none⟩ (.string ⟨#[111, 116, 104, 101, 114]⟩)) := HS4b.out.setCell (Nat.le_refl _) _
              have HV := Lib.hid hV; have HVb := Lib.hid hVb
              clear hV hVb HS4 HS4b
              go_upto_region 17 with fail
              clear p0 p1 p2 p3 f0 f1 f2 f3
              generalize V.setCell ⟨w8.heap.size, 3, none⟩ (.string ⟨#[111, 116, 104, 101, 114]⟩) = T at *
              have p0 := cell_of_row T _ 0 _ _ (0, 0) HV.out
              have p1 := cell_of_row T _ 1 _ _ (0, 0) HV.out
              have p2 := cell_of_row T _ 2 _ _ (0, 0) HV.out
              have p3 := cell_of_row T _ 3 _ _ (0, 0) HV.out
              have hE1 := en_lies T y
              have hEb : Below T.heap.size T (enW T y) := al_belowM T _
              have hEz : (enW T y).heap.size = T.heap.size + 1 := by unfold enW; simp
              rw [HY.out] at hE1 hEb hEz
              unfold enW at hE1 hEb hEz
              obtain ⟨T1, hT1⟩ : ∃ T1, T.alloc (.cells #[.string x.m.k, .int .u64 (x.m.s : Int), .bool x.m.g, .string ⟨#[111, 116, 104, 101, 114]⟩] 31) = T1 := ⟨_, rfl⟩
              have hE1 : Lies T1 (T.heap.size + 1) 4 (some ⟨T.heap.size, 0, none⟩) 1 (ecs [⟨x.m, ⟨#[111, 116, 104, 101, 114]⟩⟩]) := by rw [← hT1]; exact hE1
              have hEb : Below T.heap.size T T1 := by rw [← hT1]; exact hEb
              have hEz : T1.heap.size = T.heap.size + 1 := by rw [← hT1]; exact hEz
              have hLb := al_belowM T1 (.cells #[.slice (some ⟨T.heap.size, 0, none⟩) 1 1] 22)
              have HGT := Lib.hid (HG8.out.below HVb.out)
              have hgA := (HGT.out.below hEb).below hLb
              have hone : ∀ j u, [Value.slice (some ⟨T.heap.size, 0, none⟩) 1 1][j]? = some u → (T1.alloc (.cells #[.slice (some ⟨T.heap.size, 0, none⟩) 1 1] 22)).cell? ((⟨T1.heap.size, 0, none⟩ : Addr).add j) = some u := fun j u hju => by
                match j, hju with
                | 0, hju =>
                  injection hju with hju
                  subst hju
                  exact cell_of_row _ _ 0 _ _ (0, 0) (heap_alloc_new T1 _)
              have HOn := Lib.hid hone; have HCs := Lib.hid hgA.holds; have HGA := Lib.hid hgA
              have hE2 := (hE1.below (B := T.heap.size + 1) (by rw [← hEz]; exact hLb))
              have HE2 := Lib.hid hE2
              have HT := Lib.hid hT1
              have hT2 : T.alloc (.cells #[.string x.m.k, .int .u64 (x.m.s : Int), .bool x.m.g, .string ⟨#[111, 116, 104, 101, 114]⟩] 31) = T1 := hT1
              have HszT : Hid (T1.heap.size = T.heap.size + 1) := hEz
              clear hE1 hE2 hEb hLb hgA hone hT1 hEz
              go_wp2_with (at_builtin; refine wpList_append_grows _ rfl (.tmp 108) (.tmp 111) 26 rfl 22 i1 _ 1 24 Try.underlying26 hi1 hy0 hy1 hy2 rfl (by decide) (some ⟨g, 0, none⟩) 4 4 (L.map Ls.v) rfl (fun e => by cases e) HLm.out HCs.out ⟨T1.heap.size, 0, none⟩ 1 1 [.slice (some ⟨T.heap.size, 0, none⟩) 1 1] rfl rfl HOn.out (by intro u hu; simp at hu; subst hu; rfl) (by omega) (by unfold maxLen; omega) (by omega) ?_; intro v5 w9 ho5 hg5; obtain ⟨A9, c9, rfl, hc5a, hc5b, _⟩ := own_shape ho5)
              have hb9 : Below (T1.alloc (.cells #[.slice (some ⟨T.heap.size, 0, none⟩) 1 1] 22)).heap.size (T1.alloc (.cells #[.slice (some ⟨T.heap.size, 0, none⟩) 1 1] 22)) w9 := (Below.refl _ _).grown hg5 (Nat.le_refl _) (fun j hj => by cases hj)
              have HG9 := Lib.hid (HGA.out.below hb9)
              have hzA : (T1.alloc (.cells #[.slice (some ⟨T.heap.size, 0, none⟩) 1 1] 22)).heap.size = T1.heap.size + 1 := by simp
              have hl9 : Lies w9 w9.heap.size 1 A9 5 ((L ++ [(⟨some ⟨T.heap.size, 0, none⟩, 1, 1, [⟨x.m, ⟨#[111, 116, 104, 101, 114]⟩⟩]⟩ : Ls)]).map Ls.v) := by
                have := Lies.of_own ho5
                rw [List.map_append]
                exact this
              have hM3 := merge_any w9 w9.heap.size 5 c9 A9 (L ++ [⟨some ⟨T.heap.size, 0, none⟩, 1, 1, [⟨x.m, ⟨#[111, 116, 104, 101, 114]⟩⟩]⟩]) hl9 (Nat.le_refl _) (fun r hr => by
                rcases List.mem_append.1 hr with hr | hr
                · exact HG9.out.els HS.out r hr
                · obtain rfl := List.mem_singleton.1 hr
                  refine ⟨(HE2.out.below (hb9.mono (by have := HszT.out; omega))).more (by have := hb9.size; have := HszT.out; omega), Nat.le_refl _, Nat.le_refl _, by show 1 ≤ maxLen; unfold maxLen; decide, fun z hz => ?_⟩
                  obtain rfl := List.mem_singleton.1 hz
                  exact ⟨HXs.out.2.1, by show ByteArray.size ⟨#[111, 116, 104, 101, 114]⟩ ≤ _; decide⟩) (by decide) (by
                rw [List.map_append, List.flatten_append, List.length_append]
                have := HlS.out
                have h0 : (([⟨some ⟨T.heap.size, 0, none⟩, 1, 1, [⟨x.m, ⟨#[111, 116, 104, 101, 114]⟩⟩]⟩] : List Ls).map Ls.l).flatten.length = 1 := rfl
                omega)
              have HM3 := Lib.hid (hM3.mono fun e w' h => mergeR_no h (fun out ho => no_rise (S := l) (x := ⟨x.m, ⟨#[111, 116, 104, 101, 114]⟩⟩) (y := x) (by
                have hp := ho.perm
                rw [List.map_append, List.flatten_append] at hp
                refine hp.trans ?_
                simp only [List.map_cons, List.map_nil, List.flatten_cons, List.flatten_nil, List.append_nil]
                exact List.Perm.append_right _ HpS.out.symm) HX.out rfl))
              clear ho5 hg5 hb9 hl9 hM3 hzA p0 p1 p2 p3 hT2
              go_wp2_with fail
              with_reducible refine Calls.mono HM3.out ?_
              rintro e wa ⟨rfl, hba⟩
              have HF := Lib.hid (H2.out.trans ((HG9.out.low.trans (hba.mono HG9.out.low.size)).mono H2.out.size))
              clear hba HM3
              go_wp2
              go_ret
              exact ⟨rfl, HF.out⟩
      · have hd : decide (Rise l) = false := decide_eq_false hr
        rw [hd] at HRi
        clear hd hr
        go_wp2_with fail
        with_reducible refine Calls.mono HRi.out ?_
        rintro e w2 ⟨rfl, hb2⟩
        have H2 := Lib.hid (H1.out.trans (hb2.mono H1.out.size))
        clear hb2 HRi
        go_wp2_with fail
        with_reducible refine Calls.mono (HA.out w2) ?_
        rintro e w3 ⟨rfl, hb3⟩
        have HF := Lib.hid (H2.out.trans (hb3.mono H2.out.size))
        clear hb3
        go_wp2
        go_ret
        exact ⟨rfl, HF.out⟩
    · have hnb : ¬ ((n1 : Int) = (n : Int)) := by omega
      go_wp2_with fail
      with_reducible refine Calls.mono (HA.out w1b) ?_
      rintro e w2 ⟨rfl, hb2⟩
      have HF := Lib.hid (H1.out.trans (hb2.mono H1.out.size))
      clear hb2
      go_wp2
      go_ret
      exact ⟨rfl, HF.out⟩
end Go.Proofs.Ytoljldokehfokaa
