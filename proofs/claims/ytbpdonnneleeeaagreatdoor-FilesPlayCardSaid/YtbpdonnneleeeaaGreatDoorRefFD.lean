/-
  Contract of the document's own Fail, with the names kept.
-/
import Derived.Test.YtbpdonnneleeeaaGreatDoorRefF
import Derived.Deep.RegionLaw
namespace Go.Proofs.YtbpdonnneleeeaaGreatDoor
open Go.RowKit Go.Maps Go.Sort
set_option linter.unusedVariables false
set_option linter.unusedSectionVars false
set_option maxRecDepth 100000


set_option maxHeartbeats 4000000 in
theorem rfail_false {w : World} {G : Nat → Prop} {m : Nat} {S S' : St} (h : Rf w G m S) (keep : Nat) (hk : keep ≤ 9223372036854775807) (hs : FailSpec S S.dur keep S') (hinj : ∀ k k' f, look S'.pres k = some f → look S'.pres k' = some f → k = k') :
    Calls Tryz.prog 26 #[.pointer (some ⟨m, 0, none⟩), .int .i64 (keep : Int), .bool false] w fun x w' => ∃ mo, x = .returned (.tuple #[.pointer (some ⟨mo, 0, none⟩), er 0]) ∧ Below w.heap.size w w' ∧ Rf w' (fun i => w.heap.size ≤ i ∧ i < w'.heap.size) mo S' := by
  obtain ⟨ib, hib, hz0, hz1, hz2⟩ := info_parts byte_info
  obtain ⟨i1, hi1, hy0, hy1, hy2⟩ := info_parts nm_info
  obtain ⟨R, ρ0, A, n, c, L, A2, n2, c2, LS, fa0, fk0, h, h1, h2⟩ := h
  have c0 := h.c0
  have cL := h.c1
  have cL2 := h.c2'
  have hl70 : n2 ≤ 70 := by have := h.few2; have := h.nlen2; omega
  have hhi := h.hi
  have HH := Lib.hid h; have HRep := Lib.hid h2; have HS := Lib.hid hs; have HInj := Lib.hid hinj; have HNl := Lib.hid h.nlen2; have HKp := Lib.hid hk
  obtain ⟨N, hN⟩ : ∃ N, S.size = N := ⟨_, rfl⟩
  rw [hN] at c0 hhi
  have HN := Lib.hid hN
  have R1 : FlRel w w.heap.size N S' (leftRow S' LS) n2 (.int .i64 0) (w.alloc (.cells #[.int .i64 (N : Int), .slice none 0 0, .slice none 0 0] 88)) := by
    have hz := alloc_size w (.cells #[.int .i64 (N : Int), .slice none 0 0, .slice none 0 0] 88)
    exact ⟨0, id, fun _ => False, none, 0, fun _ => none, fun _ => 0, Nat.zero_le _, rfl, ⟨below_a (Below.refl _ _) _, Nat.le_refl _, heap_alloc_new w _, ⟨rfl, .inl ⟨rfl, rfl⟩⟩, fun e he => (by cases he), fun i hi => hi.elim, fun e he => (by cases he)⟩⟩
  have R0 := Lib.hid R1
  clear h h1 h2 hs hinj R1 hN
  go_enter Tryz.func26, Tryz.ntmps26
  go_wp2
  generalize w.alloc (.cells #[.int .i64 (N : Int), .slice none 0 0, .slice none 0 0] 88) = w1 at *
  go_loopw [10] (fun i wr => FlRel w w.heap.size N S' (leftRow S' LS) n2 i wr) (fun i _ => n2 - (intOf i).toNat)
  case atStart => exact R0.out
  case round =>
    clear R0
    obtain ⟨k, ρ, RB, A', c', fa, fk, hk2, rfl, hfi⟩ := hrel
    have HFi := Lib.hid hfi
    have hb := hfi.below
    have HHr := Lib.hid (HH.out.below hb)
    clear hfi
    by_cases hlt : k < n2
    · obtain ⟨b, o, e, hA, _, he, q1, q2⟩ := pair_at HHr.out.row2 hlt
      have hte := HHr.out.ids2 e (List.mem_of_getElem? he)
      have hfile := HHr.out.files e.2 hte
      obtain ⟨b', hb', hlk', hcut⟩ := leftRow_at HS.out HRep.out he
      have f0 := hfile.f0
      have f1 := hfile.f1
      have hsu := hfile.sure
      have hmx := hfile.max
      have hcap := hfile.cap.1
      obtain ⟨le, hle⟩ : ∃ le, (S.file e.2).bytes.length = le := ⟨_, rfl⟩
      obtain ⟨su, hsu'⟩ : ∃ su, (S.file e.2).sure = su := ⟨_, rfl⟩
      rw [hle] at f0 hsu hmx hcap
      rw [hsu'] at f1 hsu
      obtain ⟨nn, hnn⟩ : ∃ nn : Nat, nn = su + min keep (le - su) := ⟨_, rfl⟩
      have hnle : nn ≤ le := by omega
      have hni : (su : Int) + min (keep : Int) ((le : Int) - (su : Int)) = (nn : Int) := by omega
      have hw1 : IntKind.i64.wrap ((le : Int) - (su : Int)) = (le : Int) - (su : Int) := (IntWalk.i64_left _).trans (IntWalk.wrap64_in _ ⟨by omega, by omega⟩)
      have hw2 : IntKind.i64.wrap ((su : Int) + min (keep : Int) ((le : Int) - (su : Int))) = (nn : Int) := by rw [hni]; exact (IntWalk.i64_left _).trans (IntWalk.wrap64_in _ ⟨by omega, by omega⟩)
      have HFl : Hid (Lies wr wr.heap.size 1 (fa0 e.2) le ((S.file e.2).bytes.map bv)) := by have := hfile.lies.lies (fun i hi => HHr.out.lt i (HHr.out.rsub i hi)); rw [hle] at this; exact this
      have hbytes : (S'.file b').bytes = (S.file e.2).bytes.take nn ∧ (S'.file b').sure = nn := by
        rw [hcut]; unfold cutC; rw [hle, hsu']; exact ⟨by rw [hnn], hnn.symm⟩
      have hblen : nn = (S'.file b').bytes.length := by rw [hbytes.1, List.length_take, hle]; omega
      have HBy := Lib.hid hbytes; have HBl := Lib.hid hblen; have HB' := Lib.hid hb'; have HLk := Lib.hid hlk'
      have hnew : ∀ x ∈ (leftRow S' LS).take k, x.2 ≠ b' := fun x hx hxb => by
        obtain ⟨j, hj, hje⟩ := List.getElem_of_mem hx
        have hj2 : j < k := by rw [List.length_take] at hj; omega
        have hrl := leftRow_rep HS.out HRep.out
        have hxm : x ∈ leftRow S' LS := List.mem_of_mem_take hx
        have hlx := (hrl.2 x.1 x.2).1 hxm
        rw [hxb] at hlx
        have hkk := HInj.out x.1 e.1 b' hlx hlk'
        have h1 : (leftRow S' LS)[j]? = some x := by rw [← hje, List.getElem_take, List.getElem?_eq_getElem]
        obtain ⟨hk9, hk10⟩ := List.getElem?_eq_some_iff.1 hb'
        obtain ⟨hj9, hj10⟩ := List.getElem?_eq_some_iff.1 h1
        have hp := List.pairwise_iff_getElem.1 hrl.1 j k hj9 hk9 hj2
        rw [hj10, hk10] at hp
        have hp : x.1 < e.1 := hp
        rw [hkk] at hp
        exact List.lt_irrefl _ hp
      have HNew := Lib.hid hnew
      have HQ : Hid (∀ q : Nat, FI w (wr.drewN q) w.heap.size N S' (leftRow S' LS) k ρ RB A' c' fa fk ∧ (wr.drewN q).cell? ⟨b, o + k * 2, none⟩ = some (sv e.1) ∧ (wr.drewN q).cell? ⟨ρ0 e.2, 0, none⟩ = some (.slice (fa0 e.2) le (fk0 e.2)) ∧ Lies (wr.drewN q) (wr.drewN q).heap.size 1 (fa0 e.2) le ((S.file e.2).bytes.map bv)) := fun q => ⟨HFi.out.keep (below_q wr q), q1, f0, HFl.out.drewN q⟩
      have hr1 : ∀ W, (Instr.slice 46 (.slice (fa0 e.2) le (fk0 e.2)) none (some (.int .i64 (nn : Int))) none).run Tryz.prog W = .ok (.slice (fa0 e.2) nn (fk0 e.2)) W := fun W => run_headU W _ _ _ nn (by omega)
      subst hA
      clear hcut hbytes hblen hb' hlk' hle hsu' hnn he hte hfile hni hnew hb
      go_wp2
      go_quiet (fail)
      obtain ⟨fi2, q1', f0', lie'⟩ := HQ.out nq
      generalize wr.drewN nq = w2 at *
      have HFi2 := Lib.hid fi2
      obtain ⟨z, hz⟩ : ∃ z : ByteArray, z = ⟨e.1.toArray⟩ := ⟨_, rfl⟩
      have HZ := Lib.hid hz
      have HSv : Hid (sv e.1 = .string z) := by rw [hz]; rfl
      replace q1' : w2.cell? ⟨b, o + k * 2, none⟩ = some (.string z) := by rw [hz]; exact q1'
      have cm : w2.cell? ⟨w.heap.size, 1, none⟩ = some (.slice A' k c') := by rw [cell_of_row w2 w.heap.size 1 _ _ (0, 0) fi2.box]; rfl
      have HLt : Hid (Lies w2.drew w2.heap.size 1 (fa0 e.2) nn (((S.file e.2).bytes.take nn).map bv)) := by have := (lie'.drew).take_ hnle; rw [List.map_take]; exact this
      have hbb : b < w2.heap.size := World.block_lt_of_cell? w2 _ q1'
      have hfb : ρ0 e.2 < w2.heap.size := World.block_lt_of_cell? w2 _ f0'
      have hmb : w.heap.size < w2.heap.size := World.block_lt_of_cell? w2 _ cm
      have HCl : Hid (∀ W, Below w2.heap.size w2 W → W.cell? ⟨b, o + k * 2, none⟩ = some (.string z) ∧ W.cell? ⟨ρ0 e.2, 0, none⟩ = some (.slice (fa0 e.2) le (fk0 e.2)) ∧ W.cell? ⟨w.heap.size, 1, none⟩ = some (.slice A' k c')) := fun W hW => ⟨(hW.cell hbb).trans q1', (hW.cell hfb).trans f0', (hW.cell hmb).trans cm⟩
      have hd0 : Below w2.heap.size w2 w2.drew := below_any rfl rfl rfl rfl
      have HBx : Hid (w2.heap[w.heap.size]? = some (.cells #[.int .i64 (N : Int), .slice A' k c', .slice none 0 0] 88 (0, 0))) := fi2.box
      have HRl : Hid (∀ i, (Value.slice A' k c').ownBlock = some i → i ≠ w.heap.size) := fun i hi x => by
        rcases fi2.own.2 with ⟨hv, _⟩ | ⟨g, cap, cur, hv, _, hh, _⟩
        · rw [hv] at hi; cases hi
        · rw [hv] at hi; injection hi with hi; have hi : g = i := hi
          rw [hi, x, fi2.box] at hh; injection hh with hh; injection hh with _ hh; exact absurd hh (by decide)
      clear HQ fi2 lie' hz HFi HHr q1 q2 f0 f1 cL cL2 c0 HFl
      go_wp2
      go_region_law (first
        | (refine step_app _ rfl (.const (.slice none 0 0)) (.tmp 73) 46 rfl w2.heap.size 5 ib _ 1 1 Tryz.underlying46 hib hz0 hz1 hz2 rfl (by decide) (.slice none 0 0) 0 [] rfl (World.ownsRow_nil _ _ _ _) w2.heap.size (fa0 e.2) nn (fk0 e.2) (((S.file e.2).bytes.take nn).map bv) rfl HLt.out (bv_one _) (by unfold maxLen; omega) (by omega) (Nat.le_refl _) ?_; intro v1 w3 hown1 hg1 _; have hb3 : Below w2.heap.size w2 w3 := (Below.grown hd0 hg1 (Nat.le_refl _) (fun j hj => by cases hj)); obtain ⟨q13, f03, cm3⟩ := HCl.out w3 hb3; have hown1 : w3.ownsRow w2.heap.size 5 1 v1 nn (((S.file e.2).bytes.take nn).map bv) := (by simpa using hown1); obtain ⟨A1, cc1, rfl, _⟩ := own_shape hown1; obtain ⟨q14, f04, cm4⟩ := HCl.out (w3.alloc (.cells #[.slice A1 nn cc1, .int .i64 (nn : Int)] 103)) (below_a hb3 _); obtain ⟨q15, f05, cm5⟩ := HCl.out ((w3.alloc (.cells #[.slice A1 nn cc1, .int .i64 (nn : Int)] 103)).alloc (.cells #[.string z, fp w3.heap.size] 106)) (below_a (below_a hb3 _) _); have HO1 := Lib.hid hown1; have HB3 := Lib.hid hb3; have HOr := Lib.hid (own_below HFi2.out.own hb3); clear hown1 hg1 hb3)
        | (refine step_app _ rfl (.tmp 62) (.tmp 79) 86 rfl w.heap.size 106 i1 _ 2 24 Tryz.underlying86 hi1 hy0 hy1 hy2 rfl (by decide) (.slice A' k c') k (rowOf ρ ((leftRow S' LS).take k)) rfl ((HOr.out.alloc _).alloc _) (w3.heap.size + 1 + 1) (some ⟨w3.heap.size + 1, 0, none⟩) 1 1 [.string z, fp w3.heap.size] rfl (file_lies HSv.out) (by intro u hu; simp at hu; rcases hu with rfl | rfl <;> rfl) (by unfold maxLen; omega) (by omega) (by have := HB3.out.size; simp; omega) ?_; intro v2 w4 hown2 hg2 hat2; have hbx4 := box_grown ((HB3.out.block _ hmb).trans HBx.out) hg2 (fun x => HRl.out _ x.symm rfl); have cm4 : w4.cell? ⟨w.heap.size, 1, none⟩ = some (.slice A' k c') := (by rw [cell_of_row w4 w.heap.size 1 _ _ (0, 0) hbx4]; rfl); have hfz4 : w4.frozen? ⟨w.heap.size, 1, none⟩ = false := (by simp [World.frozen?, hbx4]); obtain ⟨A2', cc2, rfl, _⟩ := own_shape hown2)
        | fail)
      all_goals (
        have hfin := HFi2.out.step2 HSv.out HB'.out HNew.out HBl.out HBy.out (by omega) HB3.out HO1.out hg2 hown2 hat2
        have HFin := Lib.hid hfin
        clear hfin hg2 hown2 hat2 hbx4 cm4 hfz4 q13 f03 cm3 q14 f04 q15 f05 cm5 q1' cm f0')
      all_goals (go_wp2)
      all_goals (go_roundw)
      all_goals first
        | exact ⟨k + 1, _, _, _, _, _, _, hlt, by go_num, HFin.out⟩
        | (simp [intOf]; omega)
    · obtain rfl : k = n2 := by omega
      have hd := HFi.out.done (by unfold leftRow; rw [List.length_map]; exact HNl.out.symm) (leftRow_rep HS.out HRep.out) hl70 (HS.out.1.trans HN.out) hhi
      have HCd := Lib.hid (rnames_ok hd)
      have HNm := Lib.hid (names_dur HS.out.2.1)
      rw [HNm.out] at HCd
      have HB := Lib.hid hb
      clear hd hb HHr cL cL2 c0
      go_wp2_with fail
      refine HCd.out.mono ?_
      rintro x w' ⟨rfl, ht, hrf⟩
      have hbw : Below w.heap.size w w' := HB.out.trans (ht.below HB.out.size fun i hi => hi.1)
      have hsz := ht.size
      have hsz0 := HB.out.size
      have hrf' : Rf w' (fun i => w.heap.size ≤ i ∧ i < w'.heap.size) w.heap.size S' := hrf.mono (fun i hi => by rcases hi with ⟨h1, h2⟩ | ⟨h1, h2⟩ <;> exact ⟨by omega, by omega⟩) (fun i hi => hi.2)
      have HFin := Lib.hid hrf'; have HBw := Lib.hid hbw
      clear hbw hrf' hrf ht HCd
      go_wp2_with fail
      go_ret2
      exact ⟨w.heap.size, rfl, HBw.out, HFin.out⟩

end Go.Proofs.YtbpdonnneleeeaaGreatDoor
