/-
  The walk of FilesPlay.
-/
import Derived.Test.YtbpdonnneleeeaaGreatDoorPlayF
import Derived.Test.YtbpdonnneleeeaaGreatDoorGreat5
import Derived.Test.YtbpdonnneleeeaaGreatDoorMemZ
namespace Go.Proofs.YtbpdonnneleeeaaGreatDoor
open Go.RowKit Go.Maps Go.Sort
set_option linter.unusedVariables false
set_option linter.unusedSectionVars false
set_option maxRecDepth 100000

def boxP (x : AcC) (w : World) : World := w.alloc (.cells x.cs.toArray 48)
theorem boxP_below (x : AcC) (w : World) : Below w.heap.size w (boxP x w) := below_a (Below.refl _ w) _
theorem boxP_size (x : AcC) (w : World) : (boxP x w).heap.size = w.heap.size + 1 := (alloc_size w _).symm
/-- the cells of the box -/
def BoxIs (w : World) (p : Nat) (x : AcC) : Prop := w.heap[p]? = some (.cells x.cs.toArray 48 (0, 0))
theorem BoxIs.cells {w : World} {p : Nat} {x : AcC} (h : BoxIs w p x) : w.cell? ⟨p, 0, none⟩ = some (.int .u8 (x.kind : Int)) ∧ w.cell? ⟨p, 1, none⟩ = some (.string x.name) ∧ w.cell? ⟨p, 2, none⟩ = some (.string x.to_) ∧ w.cell? ⟨p, 3, none⟩ = some (.slice x.A x.n x.c) ∧ w.cell? ⟨p, 4, none⟩ = some (.int .i64 x.at_) ∧ w.cell? ⟨p, 5, none⟩ = some (.int .i64 x.m) ∧ w.cell? ⟨p, 6, none⟩ = some (.bool x.names) := by
  refine ⟨?_, ?_, ?_, ?_, ?_, ?_, ?_⟩ <;> (rw [cell_of_row w p _ _ _ (0, 0) h]; rfl)
theorem boxP_is (x : AcC) (w : World) : BoxIs (boxP x w) w.heap.size x := heap_alloc_new w _
theorem read_small {w : World} {F : Nat → Prop} {d : Nat} {S : St} (h : Disk w F d S) (l : List UInt8) (a n : Int) : (readB S l a n).length ≤ 1048576 := by
  by_cases he : readErr S l a n = 0
  · obtain ⟨f, a', n', hf, _, _, _, hle, _, hl⟩ := read_zero he
    obtain ⟨pm, dm, val, hD⟩ := h
    have h2 : S.len f ≤ 1048576 := (hD.files f (.inl ⟨l, hf⟩)).max
    omega
  · unfold readB; rw [if_neg he]; exact Nat.zero_le _
/-- the box and the twin, in a round -/
def Hs (w0 w : World) (p : Nat) (x : AcC) (gt ct : Nat) : Prop := BoxIs w p x ∧ w.ownsRow w0.heap.size 5 1 (.slice (some ⟨gt, 0, none⟩) (x.n + 1) ct) (x.n + 1) ((x.l ++ [77]).map bv)
theorem Hs.step {w0 w w' : World} {p gt ct : Nat} {x : AcC} (h : Hs w0 w p x gt ct) (ht : ∀ i, (i = p ∨ i = gt) → w'.heap[i]? = w.heap[i]?) : Hs w0 w' p x gt ct :=
  ⟨(ht p (.inl rfl)).trans h.1, own_kept h.2 fun i hi => ht i (.inr (by injection hi with hi; exact hi.symm))⟩
theorem Hs.below {w0 w w' : World} {p gt ct : Nat} {x : AcC} (h : Hs w0 w p x gt ct) (hb : Below w.heap.size w w') : Hs w0 w' p x gt ct :=
  h.step fun i hi => hb.block i (by
    rcases hi with rfl | rfl
    · exact (Array.getElem?_eq_some_iff.1 h.1).1
    · exact (h.2.lt i rfl).2)
theorem Play.disk {w0 w : World} {d m g : Nat} {S S2 : St} {ls : List BL} {T : Nat → Prop} (h : Play w0 w d m g S S2 ls T) : ∃ F, Disk w F d S := by obtain ⟨F, G, K, vb, h⟩ := h; exact ⟨F, h.disk⟩
theorem Play.ref {w0 w : World} {d m g : Nat} {S S2 : St} {ls : List BL} {T : Nat → Prop} (h : Play w0 w d m g S S2 ls T) : ∃ G, Rf w G m S2 := by obtain ⟨F, G, K, vb, h⟩ := h; exact ⟨G, h.ref⟩
/-- what a round starts from -/
def PR (w : World) (n : Nat) (g : Nat) (d m i : Value) (wr : World) : Prop :=
  ∃ (k dd mm : Nat) (S : St) (ls : List BL), k ≤ n ∧ i = .int .i64 (k : Int) ∧ d = dp dd ∧ m = dp mm ∧ ls.length ≤ 2 * k ∧ Named S ∧ Play w wr dd mm g S S ls (fun _ => False)

set_option maxHeartbeats 40000000 in
theorem filesPlay_walk (size : Int) (A : Option Addr) (n c : Nat) (l : List AcC) (w : World) (hs : -9223372036854775808 ≤ size ∧ size ≤ 9223372036854775807) (y : Lies w w.heap.size 7 A n (acs l)) (u : Acts w w.heap.size l) (hnc : n ≤ c) (hc : c ≤ 140737488351232) :
    Calls Tryz.prog 3 #[.int .i64 size, .slice A n c] w fun e w' => e = .returned (.bool true) ∧ Below w.heap.size w w' := by
  obtain ⟨hs1, hs2⟩ := hs
  have HL := Lib.hid y; have HAc := Lib.hid u
  have HN := Lib.hid (show n ≤ 140737488351232 by omega)
  clear y u hnc hc
  go_enter Tryz.func3, Tryz.ntmps3
  go_wp2_with fail
  refine (great_any A n c w.heap.size l w HL.out HAc.out HN.out).mono ?_
  rintro x w2 ⟨gb, rfl, hfit, q, rfl⟩
  have HB2 := Lib.hid (below_q w q)
  have HFit := Lib.hid hfit
  clear hfit
  generalize w.drewN q = w2 at *
  cases gb with
  | true =>
    go_wp2_with fail
    go_ret
    exact ⟨rfl, HB2.out⟩
  | false =>
    have HFt := Lib.hid (HFit.out rfl)
    by_cases hsz : size < 1 ∨ 8388608 < size
    · go_wp2_with fail
      refine (new_bad size w2 hsz).mono ?_
      rintro x w3 ⟨rfl, rfl⟩
      go_wp2_with fail
      refine (rnew_bad size w3 hsz).mono ?_
      rintro x w4 ⟨rfl, rfl⟩
      go_wp2_with fail
      go_ret
      exact ⟨rfl, HB2.out⟩
    · obtain ⟨N, rfl⟩ := Int.eq_ofNat_of_zero_le (show 0 ≤ size by omega)
      have hN1 : 1 ≤ N := by omega
      have hN2 : N ≤ 8388608 := by omega
      clear hsz
      go_wp2_with fail
      refine (new_ok N w2 hN1 hN2).mono ?_
      rintro x w3 ⟨d, rfl, hb3, hD⟩
      have HD := Lib.hid hD; have HB3 := Lib.hid hb3
      clear hD hb3
      go_wp2_with fail
      refine (rnew_ok N w3 hN1 hN2).mono ?_
      rintro x w4 ⟨m, rfl, hb4, hR⟩
      have HB23 := Lib.hid (HB2.out.trans (HB3.out.mono HB2.out.size))
      have HP := Lib.hid (play_start (w0 := w) (G := fun _ => False) HB23.out HD.out (fun i hi => Nat.le_trans HB2.out.size hi.1) hb4 hR)
      have hn200 : n ≤ 200 := HFt.out.2
      have R1 : PR w n w4.heap.size (dp d) (dp m) (.int .i64 0) (w4.alloc (.cells (bookCells 0 nilS) 45)) := ⟨0, d, m, _, [], Nat.zero_le _, rfl, rfl, rfl, Nat.zero_le _, ⟨fun k f h => (by cases h), fun k f h => (by cases h)⟩, HP.out⟩
      have R0 := Lib.hid R1
      clear hb4 hR R1 HP HB3 HB23 HD hN1 hN2
      go_wp2_with fail
      go_loopw [5, 7, 10] (fun dv mv i wr => PR w n w4.heap.size dv mv i wr) (fun _ _ i _ => n - (intOf i).toNat)
      case atStart => exact R0.out
      case round =>
        clear R0
        obtain ⟨k, dd, mm, S, ls, hk, rfl, rfl, rfl, hls, hNm, hP⟩ := hrel
        have HP := Lib.hid hP; have HNm := Lib.hid hNm; have HSd := Lib.hid hP.sound
        have hlow := hP.low
        clear hNm
        by_cases hlt : k < n
        · obtain ⟨b, o, x, hAe, hbB, hx, q0, q1, q2, q3, q4, q5, q6⟩ := (HL.out.below hlow).act hlt
          subst hAe
          have hok := (HAc.out x (List.mem_of_getElem? hx)).below hlow
          have hkk := hok.kind
          obtain ⟨r, hr⟩ : ∃ r : Nat, r = x.kind % 10 := ⟨_, rfl⟩
          have hr10 : r < 10 := by rw [hr]; omega
          have m1 : (x.kind : Int) % 10 = (r : Int) := by omega
          have m2 : Int.tmod (x.kind : Int) 10 = (r : Int) := by rw [Int.tmod_eq_emod_of_nonneg (by omega)]; exact m1
          have hsn : x.name.size ≤ 140737488355328 := by have := hok.name; omega
          have hst : x.to_.size ≤ 140737488355328 := by have := hok.to_; omega
          have hxn : x.n ≤ 40000 := by have h1 := weigh_take l k x hx; have h2 := weigh_take_le l (k + 1); have h3 := HFt.out.1; omega
          have HOk := Lib.hid hok
          have HAt : Hid (-9223372036854775808 ≤ x.at_ ∧ x.at_ ≤ 9223372036854775807) := ⟨hok.at1, hok.at2⟩
          have HMt : Hid (-9223372036854775808 ≤ x.m ∧ x.m ≤ 9223372036854775807) := ⟨hok.m1, hok.m2⟩
          have hwl : w.heap.size ≤ wr.heap.size := hlow.size
          have HP1 := Lib.hid (hP.more (boxP_below x wr) (T' := fun i => i = wr.heap.size) (fun i hi => .inr ⟨by omega, by rw [boxP_size]; omega⟩))
          have hby : Lies (boxP x wr) (boxP x wr).heap.size 1 x.A x.n (x.l.map bv) := (hok.bytes.below ((boxP_below x wr).mono hwl)).more (by rw [boxP_size]; omega)
          have HT1 := Lib.hid (twin_any x.A x.n x.c x.l (boxP x wr) hby (by omega))
          have HOk2 : Hid (∀ W, Below w.heap.size w W → Lies W W.heap.size 1 x.A x.n (x.l.map bv)) := fun W hW => ((HAc.out x (List.mem_of_getElem? hx)).bytes.below hW).more hW.size
          have hzz : (boxP x wr).heap.size = wr.heap.size + 1 := boxP_size x wr
          have HZz := Lib.hid hzz; have HWl := Lib.hid hwl
          clear hx hok hr hby hP hlow hwl hzz
          go_wp2_with fail
          change Calls _ _ _ (boxP x wr) _
          refine HT1.out.mono ?_
          rintro e w5 ⟨gt, ct, rfl, hownT, hb5⟩
          have hgt := hownT.lt gt rfl
          have HHs5 : Hid (Hs w w5 wr.heap.size x gt ct) := ⟨(hb5.block wr.heap.size (by rw [HZz.out]; omega)).trans (boxP_is x wr), own_base hownT (by rw [HZz.out]; have := HWl.out; omega)⟩
          have HP5 := Lib.hid (HP1.out.more hb5 (T' := fun i => i = wr.heap.size ∨ i = gt) (fun i hi => by
            rcases hi with hi | hi
            · exact .inl hi
            · exact .inr (by rw [hi]; exact hgt)))
          have hne : gt ≠ wr.heap.size := by have := hgt.1; rw [HZz.out] at this; omega
          obtain ⟨_, _, eT, hctn, hctm, _⟩ := own_shape hownT
          injection eT with eT1 eT2 eT3
          subst eT3
          clear eT1 eT2
          obtain ⟨p, hp⟩ : ∃ p, p = wr.heap.size := ⟨_, rfl⟩
          rw [← hp] at HHs5 HP5 hne
          rw [← hp]
          have HNe := Lib.hid hne; have HCt := Lib.hid hctn; have HCm := Lib.hid hctm
          clear hownT hb5 hgt HT1 HP1 q0 q1 q2 q3 q4 q5 q6 hne hctn hctm hp HZz
          obtain ⟨p0, p1, p2, p3, p4, p5, p6⟩ := HHs5.out.1.cells
          by_cases r0 : r = 0
          · as_aux_lemma =>
              subst r0
              go_wp2_with fail
              refine (HP5.out.prog (fun F hF => pcreate hF HNm.out x.name hsn)).mono ?_
              rintro x' w6 ⟨Sz, ⟨rfl, hr, hn'⟩, hP6, hs6, ht6⟩
              have HP6 := Lib.hid hP6; have HHs6 := Lib.hid (HHs5.out.step ht6); have HR := Lib.hid hr; have HNz := Lib.hid hn'
              clear hP6 hs6 ht6 hr hn' p0 p1 p2 p3 p4 p5 p6
              obtain ⟨p0, p1, p2, p3, p4, p5, p6⟩ := HHs6.out.1.cells
              have HDc := Lib.hid (HP6.out.doc (fun G hG => rcreate hG HSd.out x.name hsn HR.out))
              obtain ⟨e0, hE0⟩ : ∃ e0, createErr S x.name.data.toList = e0 := ⟨_, rfl⟩
              rw [hE0] at HDc
              rw [hE0]
              have he0 : ((e0 : Int) != e0) = false := by simp
              clear hE0
              go_wp2_with fail
              refine HDc.out.mono ?_
              rintro x' w7 ⟨rfl, hP7, hs7, ht7⟩
              have HPz := Lib.hid hP7; have HHz := Lib.hid (HHs6.out.step ht7)
              clear hP7 hs7 ht7 HDc p0 p1 p2 p3 p4 p5 p6
              obtain ⟨F, hF⟩ := HPz.out.disk
              obtain ⟨G, hG⟩ := HPz.out.ref
              obtain ⟨p0, p1, p2, p3, p4, p5, p6⟩ := HHz.out.1.cells
              have HSz := Lib.hid (psize_any hF x.name hsn)
              have HSd' := Lib.hid hF.sound
              clear hF hG
              generalize hE1 : sizeErr Sz x.name.data.toList = e1 at HSz
              generalize hE2 : sizeN Sz x.name.data.toList = e2 at HSz
              have he1 : ((e1 : Int) != e1) = false := by simp
              have he2 : ((e2 : Int) != (e2 : Int)) = false := by simp
              have hll : ((Sz.left : Int) != (Sz.left : Int)) = false := by simp
              have HE1 := Lib.hid hE1; have HE2 := Lib.hid hE2
              clear hE1 hE2
              go_wp2_with fail
              refine HSz.out.mono ?_
              rintro x' w8 ⟨rfl, hb8⟩
              have HPy := Lib.hid (HPz.out.below hb8); have HHy := Lib.hid (HHz.out.below hb8)
              clear hb8 HSz p0 p1 p2 p3 p4 p5 p6
              obtain ⟨p0, p1, p2, p3, p4, p5, p6⟩ := HHy.out.1.cells
              obtain ⟨G, hG⟩ := HPy.out.ref
              have HSy := Lib.hid (rsize_any hG x.name hsn)
              rw [HE1.out, HE2.out] at HSy
              clear hG
              go_wp2_with fail
              refine HSy.out.mono ?_
              rintro x' w9 ⟨rfl, rfl⟩
              obtain ⟨F, hF⟩ := HPy.out.disk
              obtain ⟨pm, dm, val, hF⟩ := hF
              have HLf := Lib.hid (left_ok hF)
              clear hF HSy
              go_wp2_with fail
              refine HLf.out.mono ?_
              rintro x' w10 ⟨rfl, hb10⟩
              have HPx := Lib.hid (HPy.out.below hb10); have HHx := Lib.hid (HHy.out.below hb10)
              clear hb10 HLf p0 p1 p2 p3 p4 p5 p6
              obtain ⟨p0, p1, p2, p3, p4, p5, p6⟩ := HHx.out.1.cells
              obtain ⟨G, hG⟩ := HPx.out.ref
              have HLr := Lib.hid (rleft_ok hG HSd'.out.1 HSd'.out.2)
              clear hG
              go_wp2_with fail
              refine HLr.out.mono ?_
              rintro x' w11 ⟨rfl, rfl⟩
              go_wp2_with fail
              refine (left_any x.A gt 0 x.n ct x.c w11.heap.size x.l w11 (Lies.of_own (c := ct) HHx.out.2) HCt.out HCm.out (HOk2.out w11 HPx.out.low)).mono ?_
              rintro x' w12 ⟨rfl, q12, hw12⟩
              have hb12 : Below w11.heap.size w11 w12 := by rw [hw12]; exact below_q w11 q12
              have HPw := Lib.hid (HPx.out.below hb12); have HHw := Lib.hid (HHx.out.below hb12)
              have HBt := Lib.hid (HPw.out.bytes (T' := fun _ => False) (some ⟨gt, 0, none⟩) x.n ct (by first | omega | (simp; omega)) (by omega) ⟨_, by have h := HHw.out.2; rw [List.map_append] at h; exact own_less h⟩ (fun i hi => .inr (by injection hi with hi; exact hi.symm)) (fun i hi => hi.elim))
              clear hb12 hw12 HPx HHx HLr
              go_wp2_with fail
              refine HBt.out.mono ?_
              rintro x' w13 ⟨rfl, hP13, _, _⟩
              have HP13 := Lib.hid hP13
              clear hP13 HBt
              go_wp2_with fail
              go_roundw
              case rel => exact ⟨k + 1, dd, mm, Sz, _, hlt, by go_num, rfl, rfl, by simp; omega, HNz.out, HP13.out⟩
              case measure => simp [intOf]; omega
          by_cases r1 : r = 1
          · as_aux_lemma =>
              subst r1
              go_wp2_with fail
              refine (HP5.out.prog (fun F hF => premove hF HNm.out x.name hsn)).mono ?_
              rintro x' w6 ⟨Sz, ⟨rfl, hr, hn'⟩, hP6, hs6, ht6⟩
              have HP6 := Lib.hid hP6; have HHs6 := Lib.hid (HHs5.out.step ht6); have HR := Lib.hid hr; have HNz := Lib.hid hn'
              clear hP6 hs6 ht6 hr hn' p0 p1 p2 p3 p4 p5 p6
              obtain ⟨p0, p1, p2, p3, p4, p5, p6⟩ := HHs6.out.1.cells
              have HDc := Lib.hid (HP6.out.doc (fun G hG => rremove hG x.name hsn HR.out))
              obtain ⟨e0, hE0⟩ : ∃ e0, sizeErr S x.name.data.toList = e0 := ⟨_, rfl⟩
              rw [hE0] at HDc
              rw [hE0]
              have he0 : ((e0 : Int) != e0) = false := by simp
              clear hE0
              go_wp2_with fail
              refine HDc.out.mono ?_
              rintro x' w7 ⟨rfl, hP7, hs7, ht7⟩
              have HPz := Lib.hid hP7; have HHz := Lib.hid (HHs6.out.step ht7)
              clear hP7 hs7 ht7 HDc p0 p1 p2 p3 p4 p5 p6
              obtain ⟨F, hF⟩ := HPz.out.disk
              obtain ⟨G, hG⟩ := HPz.out.ref
              obtain ⟨p0, p1, p2, p3, p4, p5, p6⟩ := HHz.out.1.cells
              have HSz := Lib.hid (psize_any hF x.name hsn)
              have HSd' := Lib.hid hF.sound
              clear hF hG
              generalize hE1 : sizeErr Sz x.name.data.toList = e1 at HSz
              generalize hE2 : sizeN Sz x.name.data.toList = e2 at HSz
              have he1 : ((e1 : Int) != e1) = false := by simp
              have he2 : ((e2 : Int) != (e2 : Int)) = false := by simp
              have hll : ((Sz.left : Int) != (Sz.left : Int)) = false := by simp
              have HE1 := Lib.hid hE1; have HE2 := Lib.hid hE2
              clear hE1 hE2
              go_wp2_with fail
              refine HSz.out.mono ?_
              rintro x' w8 ⟨rfl, hb8⟩
              have HPy := Lib.hid (HPz.out.below hb8); have HHy := Lib.hid (HHz.out.below hb8)
              clear hb8 HSz p0 p1 p2 p3 p4 p5 p6
              obtain ⟨p0, p1, p2, p3, p4, p5, p6⟩ := HHy.out.1.cells
              obtain ⟨G, hG⟩ := HPy.out.ref
              have HSy := Lib.hid (rsize_any hG x.name hsn)
              rw [HE1.out, HE2.out] at HSy
              clear hG
              go_wp2_with fail
              refine HSy.out.mono ?_
              rintro x' w9 ⟨rfl, rfl⟩
              obtain ⟨F, hF⟩ := HPy.out.disk
              obtain ⟨pm, dm, val, hF⟩ := hF
              have HLf := Lib.hid (left_ok hF)
              clear hF HSy
              go_wp2_with fail
              refine HLf.out.mono ?_
              rintro x' w10 ⟨rfl, hb10⟩
              have HPx := Lib.hid (HPy.out.below hb10); have HHx := Lib.hid (HHy.out.below hb10)
              clear hb10 HLf p0 p1 p2 p3 p4 p5 p6
              obtain ⟨p0, p1, p2, p3, p4, p5, p6⟩ := HHx.out.1.cells
              obtain ⟨G, hG⟩ := HPx.out.ref
              have HLr := Lib.hid (rleft_ok hG HSd'.out.1 HSd'.out.2)
              clear hG
              go_wp2_with fail
              refine HLr.out.mono ?_
              rintro x' w11 ⟨rfl, rfl⟩
              go_wp2_with fail
              refine (left_any x.A gt 0 x.n ct x.c w11.heap.size x.l w11 (Lies.of_own (c := ct) HHx.out.2) HCt.out HCm.out (HOk2.out w11 HPx.out.low)).mono ?_
              rintro x' w12 ⟨rfl, q12, hw12⟩
              have hb12 : Below w11.heap.size w11 w12 := by rw [hw12]; exact below_q w11 q12
              have HPw := Lib.hid (HPx.out.below hb12); have HHw := Lib.hid (HHx.out.below hb12)
              have HBt := Lib.hid (HPw.out.bytes (T' := fun _ => False) (some ⟨gt, 0, none⟩) x.n ct (by first | omega | (simp; omega)) (by omega) ⟨_, by have h := HHw.out.2; rw [List.map_append] at h; exact own_less h⟩ (fun i hi => .inr (by injection hi with hi; exact hi.symm)) (fun i hi => hi.elim))
              clear hb12 hw12 HPx HHx HLr
              go_wp2_with fail
              refine HBt.out.mono ?_
              rintro x' w13 ⟨rfl, hP13, _, _⟩
              have HP13 := Lib.hid hP13
              clear hP13 HBt
              go_wp2_with fail
              go_roundw
              case rel => exact ⟨k + 1, dd, mm, Sz, _, hlt, by go_num, rfl, rfl, by simp; omega, HNz.out, HP13.out⟩
              case measure => simp [intOf]; omega
          by_cases r2 : r = 2
          · as_aux_lemma =>
              subst r2
              go_wp2_with fail
              refine (HP5.out.prog (fun F hF => prename hF HNm.out x.name x.to_ hsn hst)).mono ?_
              rintro x' w6 ⟨Sz, ⟨rfl, hr, hn'⟩, hP6, hs6, ht6⟩
              have HP6 := Lib.hid hP6; have HHs6 := Lib.hid (HHs5.out.step ht6); have HR := Lib.hid hr; have HNz := Lib.hid hn'
              clear hP6 hs6 ht6 hr hn' p0 p1 p2 p3 p4 p5 p6
              obtain ⟨p0, p1, p2, p3, p4, p5, p6⟩ := HHs6.out.1.cells
              have HDc := Lib.hid (HP6.out.doc (fun G hG => rrename hG HSd.out x.name x.to_ hsn hst HR.out))
              obtain ⟨e0, hE0⟩ : ∃ e0, renErr S x.name.data.toList x.to_.data.toList = e0 := ⟨_, rfl⟩
              rw [hE0] at HDc
              rw [hE0]
              have he0 : ((e0 : Int) != e0) = false := by simp
              clear hE0
              go_wp2_with fail
              refine HDc.out.mono ?_
              rintro x' w7 ⟨rfl, hP7, hs7, ht7⟩
              have HPz := Lib.hid hP7; have HHz := Lib.hid (HHs6.out.step ht7)
              clear hP7 hs7 ht7 HDc p0 p1 p2 p3 p4 p5 p6
              obtain ⟨F, hF⟩ := HPz.out.disk
              obtain ⟨G, hG⟩ := HPz.out.ref
              obtain ⟨p0, p1, p2, p3, p4, p5, p6⟩ := HHz.out.1.cells
              have HSz := Lib.hid (psize_any hF x.name hsn)
              have HSd' := Lib.hid hF.sound
              clear hF hG
              generalize hE1 : sizeErr Sz x.name.data.toList = e1 at HSz
              generalize hE2 : sizeN Sz x.name.data.toList = e2 at HSz
              have he1 : ((e1 : Int) != e1) = false := by simp
              have he2 : ((e2 : Int) != (e2 : Int)) = false := by simp
              have hll : ((Sz.left : Int) != (Sz.left : Int)) = false := by simp
              have HE1 := Lib.hid hE1; have HE2 := Lib.hid hE2
              clear hE1 hE2
              go_wp2_with fail
              refine HSz.out.mono ?_
              rintro x' w8 ⟨rfl, hb8⟩
              have HPy := Lib.hid (HPz.out.below hb8); have HHy := Lib.hid (HHz.out.below hb8)
              clear hb8 HSz p0 p1 p2 p3 p4 p5 p6
              obtain ⟨p0, p1, p2, p3, p4, p5, p6⟩ := HHy.out.1.cells
              obtain ⟨G, hG⟩ := HPy.out.ref
              have HSy := Lib.hid (rsize_any hG x.name hsn)
              rw [HE1.out, HE2.out] at HSy
              clear hG
              go_wp2_with fail
              refine HSy.out.mono ?_
              rintro x' w9 ⟨rfl, rfl⟩
              obtain ⟨F, hF⟩ := HPy.out.disk
              obtain ⟨pm, dm, val, hF⟩ := hF
              have HLf := Lib.hid (left_ok hF)
              clear hF HSy
              go_wp2_with fail
              refine HLf.out.mono ?_
              rintro x' w10 ⟨rfl, hb10⟩
              have HPx := Lib.hid (HPy.out.below hb10); have HHx := Lib.hid (HHy.out.below hb10)
              clear hb10 HLf p0 p1 p2 p3 p4 p5 p6
              obtain ⟨p0, p1, p2, p3, p4, p5, p6⟩ := HHx.out.1.cells
              obtain ⟨G, hG⟩ := HPx.out.ref
              have HLr := Lib.hid (rleft_ok hG HSd'.out.1 HSd'.out.2)
              clear hG
              go_wp2_with fail
              refine HLr.out.mono ?_
              rintro x' w11 ⟨rfl, rfl⟩
              go_wp2_with fail
              refine (left_any x.A gt 0 x.n ct x.c w11.heap.size x.l w11 (Lies.of_own (c := ct) HHx.out.2) HCt.out HCm.out (HOk2.out w11 HPx.out.low)).mono ?_
              rintro x' w12 ⟨rfl, q12, hw12⟩
              have hb12 : Below w11.heap.size w11 w12 := by rw [hw12]; exact below_q w11 q12
              have HPw := Lib.hid (HPx.out.below hb12); have HHw := Lib.hid (HHx.out.below hb12)
              have HBt := Lib.hid (HPw.out.bytes (T' := fun _ => False) (some ⟨gt, 0, none⟩) x.n ct (by first | omega | (simp; omega)) (by omega) ⟨_, by have h := HHw.out.2; rw [List.map_append] at h; exact own_less h⟩ (fun i hi => .inr (by injection hi with hi; exact hi.symm)) (fun i hi => hi.elim))
              clear hb12 hw12 HPx HHx HLr
              go_wp2_with fail
              refine HBt.out.mono ?_
              rintro x' w13 ⟨rfl, hP13, _, _⟩
              have HP13 := Lib.hid hP13
              clear hP13 HBt
              go_wp2_with fail
              go_roundw
              case rel => exact ⟨k + 1, dd, mm, Sz, _, hlt, by go_num, rfl, rfl, by simp; omega, HNz.out, HP13.out⟩
              case measure => simp [intOf]; omega
          by_cases r3 : r = 3
          · as_aux_lemma =>
              subst r3
              go_wp2_with fail
              refine (HP5.out.prog (fun F hF => pappend hF HNm.out x.name hsn (some ⟨gt, 0, none⟩) x.n ct x.l (by have h := HHs5.out.2; rw [List.map_append] at h; exact Lies.of_own (own_less h)) (by omega))).mono ?_
              rintro x' w6 ⟨Sz, ⟨rfl, hr, hn'⟩, hP6, hs6, ht6⟩
              have HP6 := Lib.hid hP6; have HHs6 := Lib.hid (HHs5.out.step ht6); have HR := Lib.hid hr; have HNz := Lib.hid hn'
              clear hP6 hs6 ht6 hr hn' p0 p1 p2 p3 p4 p5 p6
              obtain ⟨p0, p1, p2, p3, p4, p5, p6⟩ := HHs6.out.1.cells
              have HDc := Lib.hid (HP6.out.doc (fun G hG => rappend hG HSd.out x.name hsn x.A x.n x.c x.l (HOk2.out _ HP6.out.low) (by omega) HR.out))
              obtain ⟨e0, hE0⟩ : ∃ e0, appErr S x.name.data.toList x.n = e0 := ⟨_, rfl⟩
              rw [hE0] at HDc
              rw [hE0]
              have he0 : ((e0 : Int) != e0) = false := by simp
              clear hE0
              go_wp2_with fail
              refine HDc.out.mono ?_
              rintro x' w7 ⟨rfl, hP7, hs7, ht7⟩
              have HPz := Lib.hid hP7; have HHz := Lib.hid (HHs6.out.step ht7)
              clear hP7 hs7 ht7 HDc p0 p1 p2 p3 p4 p5 p6
              obtain ⟨F, hF⟩ := HPz.out.disk
              obtain ⟨G, hG⟩ := HPz.out.ref
              obtain ⟨p0, p1, p2, p3, p4, p5, p6⟩ := HHz.out.1.cells
              have HSz := Lib.hid (psize_any hF x.name hsn)
              have HSd' := Lib.hid hF.sound
              clear hF hG
              generalize hE1 : sizeErr Sz x.name.data.toList = e1 at HSz
              generalize hE2 : sizeN Sz x.name.data.toList = e2 at HSz
              have he1 : ((e1 : Int) != e1) = false := by simp
              have he2 : ((e2 : Int) != (e2 : Int)) = false := by simp
              have hll : ((Sz.left : Int) != (Sz.left : Int)) = false := by simp
              have HE1 := Lib.hid hE1; have HE2 := Lib.hid hE2
              clear hE1 hE2
              go_wp2_with fail
              refine HSz.out.mono ?_
              rintro x' w8 ⟨rfl, hb8⟩
              have HPy := Lib.hid (HPz.out.below hb8); have HHy := Lib.hid (HHz.out.below hb8)
              clear hb8 HSz p0 p1 p2 p3 p4 p5 p6
              obtain ⟨p0, p1, p2, p3, p4, p5, p6⟩ := HHy.out.1.cells
              obtain ⟨G, hG⟩ := HPy.out.ref
              have HSy := Lib.hid (rsize_any hG x.name hsn)
              rw [HE1.out, HE2.out] at HSy
              clear hG
              go_wp2_with fail
              refine HSy.out.mono ?_
              rintro x' w9 ⟨rfl, rfl⟩
              obtain ⟨F, hF⟩ := HPy.out.disk
              obtain ⟨pm, dm, val, hF⟩ := hF
              have HLf := Lib.hid (left_ok hF)
              clear hF HSy
              go_wp2_with fail
              refine HLf.out.mono ?_
              rintro x' w10 ⟨rfl, hb10⟩
              have HPx := Lib.hid (HPy.out.below hb10); have HHx := Lib.hid (HHy.out.below hb10)
              clear hb10 HLf p0 p1 p2 p3 p4 p5 p6
              obtain ⟨p0, p1, p2, p3, p4, p5, p6⟩ := HHx.out.1.cells
              obtain ⟨G, hG⟩ := HPx.out.ref
              have HLr := Lib.hid (rleft_ok hG HSd'.out.1 HSd'.out.2)
              clear hG
              go_wp2_with fail
              refine HLr.out.mono ?_
              rintro x' w11 ⟨rfl, rfl⟩
              go_wp2_with fail
              refine (left_any x.A gt 0 x.n ct x.c w11.heap.size x.l w11 (Lies.of_own (c := ct) HHx.out.2) HCt.out HCm.out (HOk2.out w11 HPx.out.low)).mono ?_
              rintro x' w12 ⟨rfl, q12, hw12⟩
              have hb12 : Below w11.heap.size w11 w12 := by rw [hw12]; exact below_q w11 q12
              have HPw := Lib.hid (HPx.out.below hb12); have HHw := Lib.hid (HHx.out.below hb12)
              have HBt := Lib.hid (HPw.out.bytes (T' := fun _ => False) (some ⟨gt, 0, none⟩) x.n ct (by first | omega | (simp; omega)) (by omega) ⟨_, by have h := HHw.out.2; rw [List.map_append] at h; exact own_less h⟩ (fun i hi => .inr (by injection hi with hi; exact hi.symm)) (fun i hi => hi.elim))
              clear hb12 hw12 HPx HHx HLr
              go_wp2_with fail
              refine HBt.out.mono ?_
              rintro x' w13 ⟨rfl, hP13, _, _⟩
              have HP13 := Lib.hid hP13
              clear hP13 HBt
              go_wp2_with fail
              go_roundw
              case rel => exact ⟨k + 1, dd, mm, Sz, _, hlt, by go_num, rfl, rfl, by simp; omega, HNz.out, HP13.out⟩
              case measure => simp [intOf]; omega
          by_cases r4 : r = 4
          · as_aux_lemma =>
              subst r4
              go_wp2_with fail
              refine (HP5.out.prog (fun F hF => pappend hF HNm.out x.name hsn (some ⟨gt, 0, none⟩) x.n ct x.l (by have h := HHs5.out.2; rw [List.map_append] at h; exact Lies.of_own (own_less h)) (by omega))).mono ?_
              rintro x' w6 ⟨Sz, ⟨rfl, hr, hn'⟩, hP6, hs6, ht6⟩
              have HP6 := Lib.hid hP6; have HHs6 := Lib.hid (HHs5.out.step ht6); have HR := Lib.hid hr; have HNz := Lib.hid hn'
              clear hP6 hs6 ht6 hr hn' p0 p1 p2 p3 p4 p5 p6
              obtain ⟨p0, p1, p2, p3, p4, p5, p6⟩ := HHs6.out.1.cells
              have HDc := Lib.hid (HP6.out.doc (fun G hG => rappend hG HSd.out x.name hsn x.A x.n x.c x.l (HOk2.out _ HP6.out.low) (by omega) HR.out))
              obtain ⟨e0, hE0⟩ : ∃ e0, appErr S x.name.data.toList x.n = e0 := ⟨_, rfl⟩
              rw [hE0] at HDc
              rw [hE0]
              have he0 : ((e0 : Int) != e0) = false := by simp
              clear hE0
              go_wp2_with fail
              refine HDc.out.mono ?_
              rintro x' w7 ⟨rfl, hP7, hs7, ht7⟩
              have HPz := Lib.hid hP7; have HHz := Lib.hid (HHs6.out.step ht7)
              clear hP7 hs7 ht7 HDc p0 p1 p2 p3 p4 p5 p6
              obtain ⟨F, hF⟩ := HPz.out.disk
              obtain ⟨G, hG⟩ := HPz.out.ref
              obtain ⟨p0, p1, p2, p3, p4, p5, p6⟩ := HHz.out.1.cells
              have HSz := Lib.hid (psize_any hF x.name hsn)
              have HSd' := Lib.hid hF.sound
              clear hF hG
              generalize hE1 : sizeErr Sz x.name.data.toList = e1 at HSz
              generalize hE2 : sizeN Sz x.name.data.toList = e2 at HSz
              have he1 : ((e1 : Int) != e1) = false := by simp
              have he2 : ((e2 : Int) != (e2 : Int)) = false := by simp
              have hll : ((Sz.left : Int) != (Sz.left : Int)) = false := by simp
              have HE1 := Lib.hid hE1; have HE2 := Lib.hid hE2
              clear hE1 hE2
              go_wp2_with fail
              refine HSz.out.mono ?_
              rintro x' w8 ⟨rfl, hb8⟩
              have HPy := Lib.hid (HPz.out.below hb8); have HHy := Lib.hid (HHz.out.below hb8)
              clear hb8 HSz p0 p1 p2 p3 p4 p5 p6
              obtain ⟨p0, p1, p2, p3, p4, p5, p6⟩ := HHy.out.1.cells
              obtain ⟨G, hG⟩ := HPy.out.ref
              have HSy := Lib.hid (rsize_any hG x.name hsn)
              rw [HE1.out, HE2.out] at HSy
              clear hG
              go_wp2_with fail
              refine HSy.out.mono ?_
              rintro x' w9 ⟨rfl, rfl⟩
              obtain ⟨F, hF⟩ := HPy.out.disk
              obtain ⟨pm, dm, val, hF⟩ := hF
              have HLf := Lib.hid (left_ok hF)
              clear hF HSy
              go_wp2_with fail
              refine HLf.out.mono ?_
              rintro x' w10 ⟨rfl, hb10⟩
              have HPx := Lib.hid (HPy.out.below hb10); have HHx := Lib.hid (HHy.out.below hb10)
              clear hb10 HLf p0 p1 p2 p3 p4 p5 p6
              obtain ⟨p0, p1, p2, p3, p4, p5, p6⟩ := HHx.out.1.cells
              obtain ⟨G, hG⟩ := HPx.out.ref
              have HLr := Lib.hid (rleft_ok hG HSd'.out.1 HSd'.out.2)
              clear hG
              go_wp2_with fail
              refine HLr.out.mono ?_
              rintro x' w11 ⟨rfl, rfl⟩
              go_wp2_with fail
              refine (left_any x.A gt 0 x.n ct x.c w11.heap.size x.l w11 (Lies.of_own (c := ct) HHx.out.2) HCt.out HCm.out (HOk2.out w11 HPx.out.low)).mono ?_
              rintro x' w12 ⟨rfl, q12, hw12⟩
              have hb12 : Below w11.heap.size w11 w12 := by rw [hw12]; exact below_q w11 q12
              have HPw := Lib.hid (HPx.out.below hb12); have HHw := Lib.hid (HHx.out.below hb12)
              have HBt := Lib.hid (HPw.out.bytes (T' := fun _ => False) (some ⟨gt, 0, none⟩) x.n ct (by first | omega | (simp; omega)) (by omega) ⟨_, by have h := HHw.out.2; rw [List.map_append] at h; exact own_less h⟩ (fun i hi => .inr (by injection hi with hi; exact hi.symm)) (fun i hi => hi.elim))
              clear hb12 hw12 HPx HHx HLr
              go_wp2_with fail
              refine HBt.out.mono ?_
              rintro x' w13 ⟨rfl, hP13, _, _⟩
              have HP13 := Lib.hid hP13
              clear hP13 HBt
              go_wp2_with fail
              go_roundw
              case rel => exact ⟨k + 1, dd, mm, Sz, _, hlt, by go_num, rfl, rfl, by simp; omega, HNz.out, HP13.out⟩
              case measure => simp [intOf]; omega
          by_cases r6 : r = 6
          · as_aux_lemma =>
              subst r6
              go_wp2_with fail
              refine (HP5.out.prog (fun F hF => psync hF HNm.out x.name hsn)).mono ?_
              rintro x' w6 ⟨Sz, ⟨rfl, hr, hn'⟩, hP6, hs6, ht6⟩
              have HP6 := Lib.hid hP6; have HHs6 := Lib.hid (HHs5.out.step ht6); have HR := Lib.hid hr; have HNz := Lib.hid hn'
              clear hP6 hs6 ht6 hr hn' p0 p1 p2 p3 p4 p5 p6
              obtain ⟨p0, p1, p2, p3, p4, p5, p6⟩ := HHs6.out.1.cells
              have HDc := Lib.hid (HP6.out.doc (fun G hG => rsync hG x.name hsn HR.out))
              obtain ⟨e0, hE0⟩ : ∃ e0, sizeErr S x.name.data.toList = e0 := ⟨_, rfl⟩
              rw [hE0] at HDc
              rw [hE0]
              have he0 : ((e0 : Int) != e0) = false := by simp
              clear hE0
              go_wp2_with fail
              refine HDc.out.mono ?_
              rintro x' w7 ⟨rfl, hP7, hs7, ht7⟩
              have HPz := Lib.hid hP7; have HHz := Lib.hid (HHs6.out.step ht7)
              clear hP7 hs7 ht7 HDc p0 p1 p2 p3 p4 p5 p6
              obtain ⟨F, hF⟩ := HPz.out.disk
              obtain ⟨G, hG⟩ := HPz.out.ref
              obtain ⟨p0, p1, p2, p3, p4, p5, p6⟩ := HHz.out.1.cells
              have HSz := Lib.hid (psize_any hF x.name hsn)
              have HSd' := Lib.hid hF.sound
              clear hF hG
              generalize hE1 : sizeErr Sz x.name.data.toList = e1 at HSz
              generalize hE2 : sizeN Sz x.name.data.toList = e2 at HSz
              have he1 : ((e1 : Int) != e1) = false := by simp
              have he2 : ((e2 : Int) != (e2 : Int)) = false := by simp
              have hll : ((Sz.left : Int) != (Sz.left : Int)) = false := by simp
              have HE1 := Lib.hid hE1; have HE2 := Lib.hid hE2
              clear hE1 hE2
              go_wp2_with fail
              refine HSz.out.mono ?_
              rintro x' w8 ⟨rfl, hb8⟩
              have HPy := Lib.hid (HPz.out.below hb8); have HHy := Lib.hid (HHz.out.below hb8)
              clear hb8 HSz p0 p1 p2 p3 p4 p5 p6
              obtain ⟨p0, p1, p2, p3, p4, p5, p6⟩ := HHy.out.1.cells
              obtain ⟨G, hG⟩ := HPy.out.ref
              have HSy := Lib.hid (rsize_any hG x.name hsn)
              rw [HE1.out, HE2.out] at HSy
              clear hG
              go_wp2_with fail
              refine HSy.out.mono ?_
              rintro x' w9 ⟨rfl, rfl⟩
              obtain ⟨F, hF⟩ := HPy.out.disk
              obtain ⟨pm, dm, val, hF⟩ := hF
              have HLf := Lib.hid (left_ok hF)
              clear hF HSy
              go_wp2_with fail
              refine HLf.out.mono ?_
              rintro x' w10 ⟨rfl, hb10⟩
              have HPx := Lib.hid (HPy.out.below hb10); have HHx := Lib.hid (HHy.out.below hb10)
              clear hb10 HLf p0 p1 p2 p3 p4 p5 p6
              obtain ⟨p0, p1, p2, p3, p4, p5, p6⟩ := HHx.out.1.cells
              obtain ⟨G, hG⟩ := HPx.out.ref
              have HLr := Lib.hid (rleft_ok hG HSd'.out.1 HSd'.out.2)
              clear hG
              go_wp2_with fail
              refine HLr.out.mono ?_
              rintro x' w11 ⟨rfl, rfl⟩
              go_wp2_with fail
              refine (left_any x.A gt 0 x.n ct x.c w11.heap.size x.l w11 (Lies.of_own (c := ct) HHx.out.2) HCt.out HCm.out (HOk2.out w11 HPx.out.low)).mono ?_
              rintro x' w12 ⟨rfl, q12, hw12⟩
              have hb12 : Below w11.heap.size w11 w12 := by rw [hw12]; exact below_q w11 q12
              have HPw := Lib.hid (HPx.out.below hb12); have HHw := Lib.hid (HHx.out.below hb12)
              have HBt := Lib.hid (HPw.out.bytes (T' := fun _ => False) (some ⟨gt, 0, none⟩) x.n ct (by first | omega | (simp; omega)) (by omega) ⟨_, by have h := HHw.out.2; rw [List.map_append] at h; exact own_less h⟩ (fun i hi => .inr (by injection hi with hi; exact hi.symm)) (fun i hi => hi.elim))
              clear hb12 hw12 HPx HHx HLr
              go_wp2_with fail
              refine HBt.out.mono ?_
              rintro x' w13 ⟨rfl, hP13, _, _⟩
              have HP13 := Lib.hid hP13
              clear hP13 HBt
              go_wp2_with fail
              go_roundw
              case rel => exact ⟨k + 1, dd, mm, Sz, _, hlt, by go_num, rfl, rfl, by simp; omega, HNz.out, HP13.out⟩
              case measure => simp [intOf]; omega
          by_cases r7 : r = 7
          · as_aux_lemma =>
              subst r7
              go_wp2_with fail
              refine (HP5.out.prog (fun F hF => pnames hF HNm.out)).mono ?_
              rintro x' w6 ⟨Sz, ⟨rfl, hr, hn'⟩, hP6, hs6, ht6⟩
              have HP6 := Lib.hid hP6; have HHs6 := Lib.hid (HHs5.out.step ht6); have HR := Lib.hid hr; have HNz := Lib.hid hn'
              clear hP6 hs6 ht6 hr hn' p0 p1 p2 p3 p4 p5 p6
              obtain ⟨p0, p1, p2, p3, p4, p5, p6⟩ := HHs6.out.1.cells
              have HDc := Lib.hid (HP6.out.doc (fun G hG => rnames hG HR.out))
              go_wp2_with fail
              refine HDc.out.mono ?_
              rintro x' w7 ⟨rfl, hP7, hs7, ht7⟩
              have HPz := Lib.hid hP7; have HHz := Lib.hid (HHs6.out.step ht7)
              clear hP7 hs7 ht7 HDc p0 p1 p2 p3 p4 p5 p6
              obtain ⟨F, hF⟩ := HPz.out.disk
              obtain ⟨G, hG⟩ := HPz.out.ref
              obtain ⟨p0, p1, p2, p3, p4, p5, p6⟩ := HHz.out.1.cells
              have HSz := Lib.hid (psize_any hF x.name hsn)
              have HSd' := Lib.hid hF.sound
              clear hF hG
              generalize hE1 : sizeErr Sz x.name.data.toList = e1 at HSz
              generalize hE2 : sizeN Sz x.name.data.toList = e2 at HSz
              have he1 : ((e1 : Int) != e1) = false := by simp
              have he2 : ((e2 : Int) != (e2 : Int)) = false := by simp
              have hll : ((Sz.left : Int) != (Sz.left : Int)) = false := by simp
              have HE1 := Lib.hid hE1; have HE2 := Lib.hid hE2
              clear hE1 hE2
              go_wp2_with fail
              refine HSz.out.mono ?_
              rintro x' w8 ⟨rfl, hb8⟩
              have HPy := Lib.hid (HPz.out.below hb8); have HHy := Lib.hid (HHz.out.below hb8)
              clear hb8 HSz p0 p1 p2 p3 p4 p5 p6
              obtain ⟨p0, p1, p2, p3, p4, p5, p6⟩ := HHy.out.1.cells
              obtain ⟨G, hG⟩ := HPy.out.ref
              have HSy := Lib.hid (rsize_any hG x.name hsn)
              rw [HE1.out, HE2.out] at HSy
              clear hG
              go_wp2_with fail
              refine HSy.out.mono ?_
              rintro x' w9 ⟨rfl, rfl⟩
              obtain ⟨F, hF⟩ := HPy.out.disk
              obtain ⟨pm, dm, val, hF⟩ := hF
              have HLf := Lib.hid (left_ok hF)
              clear hF HSy
              go_wp2_with fail
              refine HLf.out.mono ?_
              rintro x' w10 ⟨rfl, hb10⟩
              have HPx := Lib.hid (HPy.out.below hb10); have HHx := Lib.hid (HHy.out.below hb10)
              clear hb10 HLf p0 p1 p2 p3 p4 p5 p6
              obtain ⟨p0, p1, p2, p3, p4, p5, p6⟩ := HHx.out.1.cells
              obtain ⟨G, hG⟩ := HPx.out.ref
              have HLr := Lib.hid (rleft_ok hG HSd'.out.1 HSd'.out.2)
              clear hG
              go_wp2_with fail
              refine HLr.out.mono ?_
              rintro x' w11 ⟨rfl, rfl⟩
              go_wp2_with fail
              refine (left_any x.A gt 0 x.n ct x.c w11.heap.size x.l w11 (Lies.of_own (c := ct) HHx.out.2) HCt.out HCm.out (HOk2.out w11 HPx.out.low)).mono ?_
              rintro x' w12 ⟨rfl, q12, hw12⟩
              have hb12 : Below w11.heap.size w11 w12 := by rw [hw12]; exact below_q w11 q12
              have HPw := Lib.hid (HPx.out.below hb12); have HHw := Lib.hid (HHx.out.below hb12)
              have HBt := Lib.hid (HPw.out.bytes (T' := fun _ => False) (some ⟨gt, 0, none⟩) x.n ct (by first | omega | (simp; omega)) (by omega) ⟨_, by have h := HHw.out.2; rw [List.map_append] at h; exact own_less h⟩ (fun i hi => .inr (by injection hi with hi; exact hi.symm)) (fun i hi => hi.elim))
              clear hb12 hw12 HPx HHx HLr
              go_wp2_with fail
              refine HBt.out.mono ?_
              rintro x' w13 ⟨rfl, hP13, _, _⟩
              have HP13 := Lib.hid hP13
              clear hP13 HBt
              go_wp2_with fail
              go_roundw
              case rel => exact ⟨k + 1, dd, mm, Sz, _, hlt, by go_num, rfl, rfl, by simp; omega, HNz.out, HP13.out⟩
              case measure => simp [intOf]; omega
          by_cases r5 : r = 5
          · as_aux_lemma =>
              subst r5
              obtain ⟨F, hF⟩ := HP5.out.disk
              have hsm := read_small hF x.name.data.toList x.at_ x.m
              have HRp := Lib.hid (pread_any hF x.name hsn x.at_ x.m HAt.out.2)
              generalize hRb : readB S x.name.data.toList x.at_ x.m = rb at HRp hsm
              generalize hE0 : readErr S x.name.data.toList x.at_ x.m = e0 at HRp
              obtain ⟨lr, hlr⟩ : ∃ lr, rb.length = lr := ⟨_, rfl⟩
              rw [hlr] at HRp hsm
              have HRb := Lib.hid hRb; have HE0 := Lib.hid hE0; have HLr := Lib.hid hlr
              have he0 : ((e0 : Int) != e0) = false := by simp
              clear hF hRb hE0 hlr
              go_wp2_with fail
              refine HRp.out.mono ?_
              rintro x' w6 ⟨v6, rfl, ho6, hb6⟩
              obtain ⟨A6, c6, rfl, _⟩ := own_shape ho6
              have HP6 := Lib.hid (HP5.out.more hb6 (T' := fun i => i = p ∨ i = gt ∨ (Value.slice A6 lr c6).ownBlock = some i) (fun i hi => by
                rcases hi with hi | hi | hi
                · exact .inl (.inl hi)
                · exact .inl (.inr hi)
                · exact .inr (ho6.lt i hi)))
              have HHs6 := Lib.hid (HHs5.out.below hb6)
              have HO6 := Lib.hid ho6
              have hl5 : p < w5.heap.size ∧ gt < w5.heap.size := ⟨(Array.getElem?_eq_some_iff.1 HHs5.out.1).1, (HHs5.out.2.lt gt rfl).2⟩
              have HApt : Hid (∀ i, (Value.slice A6 lr c6).ownBlock = some i → i ≠ p ∧ i ≠ gt) := fun i hi => by have := (ho6.lt i hi).1; omega
              clear ho6 hb6 hl5 HRp p0 p1 p2 p3 p4 p5 p6
              obtain ⟨p0, p1, p2, p3, p4, p5, p6⟩ := HHs6.out.1.cells
              obtain ⟨G, hG⟩ := HP6.out.ref
              have HRr := Lib.hid (rread_any hG x.name hsn x.at_ x.m HAt.out.2 HAt.out.1)
              rw [HRb.out, HE0.out, HLr.out] at HRr
              clear hG
              go_wp2_with fail
              refine HRr.out.mono ?_
              rintro x' w7 ⟨v7, rfl, ho7, hb7⟩
              obtain ⟨A7, c7, rfl, _⟩ := own_shape ho7
              have HP7 := Lib.hid (HP6.out.below hb7); have HHs7 := Lib.hid (HHs6.out.below hb7)
              have HO6 := Lib.hid (own_below HO6.out hb7); have HO7 := Lib.hid ho7
              clear ho7 hb7 HRr p0 p1 p2 p3 p4 p5 p6
              go_wp2_with fail
              refine (same_yes A6 A7 lr c6 c7 _ _ rb w7 HO6.out HO7.out (by omega)).mono ?_
              rintro x' w8 ⟨rfl, hq⟩
              have hb8 : Below w7.heap.size w7 w8 := by obtain ⟨q, rfl⟩ := hq; exact below_q w7 q
              have HP8 := Lib.hid (HP7.out.below hb8); have HHs8 := Lib.hid (HHs7.out.below hb8)
              have HO6 := Lib.hid (own_below HO6.out hb8)
              have HBy := Lib.hid (HP8.out.bytes (T' := fun i => i = p ∨ i = gt) A6 lr c6 (by omega) (by omega) ⟨_, own_base HO6.out HP5.out.low.size⟩ (fun i hi => .inr (.inr hi)) (fun i hi => ⟨by rcases hi with hi | hi; exact .inl hi; exact .inr (.inl hi), fun e => by have := HApt.out i e; omega⟩))
              clear hb8 hq HO7
              go_wp2_with fail
              refine HBy.out.mono ?_
              rintro x' w9 ⟨rfl, hP9, hs9, ht9⟩
              have HPz := Lib.hid hP9; have HHz := Lib.hid (HHs8.out.step ht9)
              clear hP9 hs9 ht9 HBy
              obtain ⟨F, hF⟩ := HPz.out.disk
              obtain ⟨G, hG⟩ := HPz.out.ref
              obtain ⟨p0, p1, p2, p3, p4, p5, p6⟩ := HHz.out.1.cells
              have HSz := Lib.hid (psize_any hF x.name hsn)
              have HSd' := Lib.hid hF.sound
              clear hF hG
              generalize hE1 : sizeErr S x.name.data.toList = e1 at HSz
              generalize hE2 : sizeN S x.name.data.toList = e2 at HSz
              have he1 : ((e1 : Int) != e1) = false := by simp
              have he2 : ((e2 : Int) != (e2 : Int)) = false := by simp
              have hll : ((S.left : Int) != (S.left : Int)) = false := by simp
              have HE1 := Lib.hid hE1; have HE2 := Lib.hid hE2
              clear hE1 hE2
              go_wp2_with fail
              refine HSz.out.mono ?_
              rintro x' w8 ⟨rfl, hb8⟩
              have HPy := Lib.hid (HPz.out.below hb8); have HHy := Lib.hid (HHz.out.below hb8)
              clear hb8 HSz p0 p1 p2 p3 p4 p5 p6
              obtain ⟨p0, p1, p2, p3, p4, p5, p6⟩ := HHy.out.1.cells
              obtain ⟨G, hG⟩ := HPy.out.ref
              have HSy := Lib.hid (rsize_any hG x.name hsn)
              rw [HE1.out, HE2.out] at HSy
              clear hG
              go_wp2_with fail
              refine HSy.out.mono ?_
              rintro x' w9 ⟨rfl, rfl⟩
              obtain ⟨F, hF⟩ := HPy.out.disk
              obtain ⟨pm, dm, val, hF⟩ := hF
              have HLf := Lib.hid (left_ok hF)
              clear hF HSy
              go_wp2_with fail
              refine HLf.out.mono ?_
              rintro x' w10 ⟨rfl, hb10⟩
              have HPx := Lib.hid (HPy.out.below hb10); have HHx := Lib.hid (HHy.out.below hb10)
              clear hb10 HLf p0 p1 p2 p3 p4 p5 p6
              obtain ⟨p0, p1, p2, p3, p4, p5, p6⟩ := HHx.out.1.cells
              obtain ⟨G, hG⟩ := HPx.out.ref
              have HLr := Lib.hid (rleft_ok hG HSd'.out.1 HSd'.out.2)
              clear hG
              go_wp2_with fail
              refine HLr.out.mono ?_
              rintro x' w11 ⟨rfl, rfl⟩
              go_wp2_with fail
              refine (left_any x.A gt 0 x.n ct x.c w11.heap.size x.l w11 (Lies.of_own (c := ct) HHx.out.2) HCt.out HCm.out (HOk2.out w11 HPx.out.low)).mono ?_
              rintro x' w12 ⟨rfl, q12, hw12⟩
              have hb12 : Below w11.heap.size w11 w12 := by rw [hw12]; exact below_q w11 q12
              have HPw := Lib.hid (HPx.out.below hb12); have HHw := Lib.hid (HHx.out.below hb12)
              have HBt := Lib.hid (HPw.out.bytes (T' := fun _ => False) (some ⟨gt, 0, none⟩) x.n ct (by first | omega | (simp; omega)) (by omega) ⟨_, by have h := HHw.out.2; rw [List.map_append] at h; exact own_less h⟩ (fun i hi => .inr (by injection hi with hi; exact hi.symm)) (fun i hi => hi.elim))
              clear hb12 hw12 HPx HHx HLr
              go_wp2_with fail
              refine HBt.out.mono ?_
              rintro x' w13 ⟨rfl, hP13, _, _⟩
              have HP13 := Lib.hid hP13
              clear hP13 HBt
              go_wp2_with fail
              go_roundw
              case rel => exact ⟨k + 1, dd, mm, S, _, hlt, by go_num, rfl, rfl, by simp; omega, HNm.out, HP13.out⟩
              case measure => simp [intOf]; omega
          by_cases r8 : r = 8
          · as_aux_lemma =>
              subst r8
              by_cases hm0 : x.m < 0
              · obtain ⟨F, hF⟩ := HP5.out.disk
                have HPf := Lib.hid (pfail_bad hF x.m x.names hm0)
                clear hF
                go_wp2_with fail
                refine HPf.out.mono ?_
                rintro x' w6 ⟨rfl, hb6⟩
                have HPz := Lib.hid (HP5.out.below hb6); have HHz := Lib.hid (HHs5.out.below hb6)
                clear hb6 HPf p0 p1 p2 p3 p4 p5 p6
                obtain ⟨p0, p1, p2, p3, p4, p5, p6⟩ := HHz.out.1.cells
                go_wp2_with fail
                refine (rfail_no x.m x.names hm0).mono ?_
                rintro x' w7 ⟨rfl, rfl⟩
                clear p0 p1 p2 p3 p4 p5 p6
                obtain ⟨F, hF⟩ := HPz.out.disk
                obtain ⟨G, hG⟩ := HPz.out.ref
                obtain ⟨p0, p1, p2, p3, p4, p5, p6⟩ := HHz.out.1.cells
                have HSz := Lib.hid (psize_any hF x.name hsn)
                have HSd' := Lib.hid hF.sound
                clear hF hG
                generalize hE1 : sizeErr S x.name.data.toList = e1 at HSz
                generalize hE2 : sizeN S x.name.data.toList = e2 at HSz
                have he1 : ((e1 : Int) != e1) = false := by simp
                have he2 : ((e2 : Int) != (e2 : Int)) = false := by simp
                have hll : ((S.left : Int) != (S.left : Int)) = false := by simp
                have HE1 := Lib.hid hE1; have HE2 := Lib.hid hE2
                clear hE1 hE2
                go_wp2_with fail
                refine HSz.out.mono ?_
                rintro x' w8 ⟨rfl, hb8⟩
                have HPy := Lib.hid (HPz.out.below hb8); have HHy := Lib.hid (HHz.out.below hb8)
                clear hb8 HSz p0 p1 p2 p3 p4 p5 p6
                obtain ⟨p0, p1, p2, p3, p4, p5, p6⟩ := HHy.out.1.cells
                obtain ⟨G, hG⟩ := HPy.out.ref
                have HSy := Lib.hid (rsize_any hG x.name hsn)
                rw [HE1.out, HE2.out] at HSy
                clear hG
                go_wp2_with fail
                refine HSy.out.mono ?_
                rintro x' w9 ⟨rfl, rfl⟩
                obtain ⟨F, hF⟩ := HPy.out.disk
                obtain ⟨pm, dm, val, hF⟩ := hF
                have HLf := Lib.hid (left_ok hF)
                clear hF HSy
                go_wp2_with fail
                refine HLf.out.mono ?_
                rintro x' w10 ⟨rfl, hb10⟩
                have HPx := Lib.hid (HPy.out.below hb10); have HHx := Lib.hid (HHy.out.below hb10)
                clear hb10 HLf p0 p1 p2 p3 p4 p5 p6
                obtain ⟨p0, p1, p2, p3, p4, p5, p6⟩ := HHx.out.1.cells
                obtain ⟨G, hG⟩ := HPx.out.ref
                have HLr := Lib.hid (rleft_ok hG HSd'.out.1 HSd'.out.2)
                clear hG
                go_wp2_with fail
                refine HLr.out.mono ?_
                rintro x' w11 ⟨rfl, rfl⟩
                go_wp2_with fail
                refine (left_any x.A gt 0 x.n ct x.c w11.heap.size x.l w11 (Lies.of_own (c := ct) HHx.out.2) HCt.out HCm.out (HOk2.out w11 HPx.out.low)).mono ?_
                rintro x' w12 ⟨rfl, q12, hw12⟩
                have hb12 : Below w11.heap.size w11 w12 := by rw [hw12]; exact below_q w11 q12
                have HPw := Lib.hid (HPx.out.below hb12); have HHw := Lib.hid (HHx.out.below hb12)
                have HBt := Lib.hid (HPw.out.bytes (T' := fun _ => False) (some ⟨gt, 0, none⟩) x.n ct (by first | omega | (simp; omega)) (by omega) ⟨_, by have h := HHw.out.2; rw [List.map_append] at h; exact own_less h⟩ (fun i hi => .inr (by injection hi with hi; exact hi.symm)) (fun i hi => hi.elim))
                clear hb12 hw12 HPx HHx HLr
                go_wp2_with fail
                refine HBt.out.mono ?_
                rintro x' w13 ⟨rfl, hP13, _, _⟩
                have HP13 := Lib.hid hP13
                clear hP13 HBt
                go_wp2_with fail
                go_roundw
                case rel => exact ⟨k + 1, dd, mm, S, _, hlt, by go_num, rfl, rfl, by simp; omega, HNm.out, HP13.out⟩
                case measure => simp [intOf]; omega
              · obtain ⟨kp, hkp⟩ : ∃ kp : Nat, x.m = (kp : Int) := ⟨x.m.toNat, by omega⟩
                rw [hkp] at p5
                have hkm : kp ≤ 9223372036854775807 := by have := HMt.out.2; omega
                have HKp := Lib.hid hkp
                clear hkp hm0
                obtain ⟨F, hF⟩ := HP5.out.disk
                have HPf := Lib.hid (pfail hF HNm.out kp hkm x.names)
                clear hF
                go_wp2_with fail
                refine HPf.out.mono ?_
                rintro x' w6 ⟨da, Sa, rfl, hb6, hDa, hLv⟩
                have HP6 := Lib.hid (HP5.out.below hb6); have HHs6 := Lib.hid (HHs5.out.below hb6)
                have HB6 := Lib.hid hb6; have HDa := Lib.hid hDa; have HLv := Lib.hid hLv
                clear hb6 hDa hLv HPf p0 p1 p2 p3 p4 p5 p6
                obtain ⟨p0, p1, p2, p3, p4, p5, p6⟩ := HHs6.out.1.cells
                rw [HKp.out] at p5
                obtain ⟨G, hG⟩ := HP6.out.ref
                have HRf := Lib.hid (rfail hG kp hkm x.names HLv.out)
                clear hG
                go_wp2_with fail
                refine HRf.out.mono ?_
                rintro x' w7 ⟨ma, rfl, hb7, hRa⟩
                have HPn := Lib.hid (HP5.out.fork HB6.out HDa.out hb7 hRa)
                have HPo := Lib.hid (HP6.out.below hb7); have HHs7 := Lib.hid (HHs6.out.below hb7)
                obtain ⟨F, hF⟩ := HPn.out.disk
                obtain ⟨G, hG⟩ := HPn.out.ref
                have HSm := Lib.hid (play_same hF hG HLv.out.2.2)
                have HNz := Lib.hid HLv.out.2.2
                clear hF hG hb7 hRa HRf p0 p1 p2 p3 p4 p5 p6
                go_wp2_with fail
                refine HSm.out.mono ?_
                rintro x' w8 ⟨rfl, hb8⟩
                have HPz := Lib.hid (HPn.out.below hb8); have HHz := Lib.hid (HHs7.out.below hb8)
                clear hb8 HSm
                obtain ⟨F, hF⟩ := HPz.out.disk
                obtain ⟨G, hG⟩ := HPz.out.ref
                obtain ⟨p0, p1, p2, p3, p4, p5, p6⟩ := HHz.out.1.cells
                have HSz := Lib.hid (psize_any hF x.name hsn)
                have HSd' := Lib.hid hF.sound
                clear hF hG
                generalize hE1 : sizeErr Sa x.name.data.toList = e1 at HSz
                generalize hE2 : sizeN Sa x.name.data.toList = e2 at HSz
                have he1 : ((e1 : Int) != e1) = false := by simp
                have he2 : ((e2 : Int) != (e2 : Int)) = false := by simp
                have hll : ((Sa.left : Int) != (Sa.left : Int)) = false := by simp
                have HE1 := Lib.hid hE1; have HE2 := Lib.hid hE2
                clear hE1 hE2
                go_wp2_with fail
                refine HSz.out.mono ?_
                rintro x' w8 ⟨rfl, hb8⟩
                have HPy := Lib.hid (HPz.out.below hb8); have HHy := Lib.hid (HHz.out.below hb8)
                clear hb8 HSz p0 p1 p2 p3 p4 p5 p6
                obtain ⟨p0, p1, p2, p3, p4, p5, p6⟩ := HHy.out.1.cells
                obtain ⟨G, hG⟩ := HPy.out.ref
                have HSy := Lib.hid (rsize_any hG x.name hsn)
                rw [HE1.out, HE2.out] at HSy
                clear hG
                go_wp2_with fail
                refine HSy.out.mono ?_
                rintro x' w9 ⟨rfl, rfl⟩
                obtain ⟨F, hF⟩ := HPy.out.disk
                obtain ⟨pm, dm, val, hF⟩ := hF
                have HLf := Lib.hid (left_ok hF)
                clear hF HSy
                go_wp2_with fail
                refine HLf.out.mono ?_
                rintro x' w10 ⟨rfl, hb10⟩
                have HPx := Lib.hid (HPy.out.below hb10); have HHx := Lib.hid (HHy.out.below hb10)
                clear hb10 HLf p0 p1 p2 p3 p4 p5 p6
                obtain ⟨p0, p1, p2, p3, p4, p5, p6⟩ := HHx.out.1.cells
                obtain ⟨G, hG⟩ := HPx.out.ref
                have HLr := Lib.hid (rleft_ok hG HSd'.out.1 HSd'.out.2)
                clear hG
                go_wp2_with fail
                refine HLr.out.mono ?_
                rintro x' w11 ⟨rfl, rfl⟩
                go_wp2_with fail
                refine (left_any x.A gt 0 x.n ct x.c w11.heap.size x.l w11 (Lies.of_own (c := ct) HHx.out.2) HCt.out HCm.out (HOk2.out w11 HPx.out.low)).mono ?_
                rintro x' w12 ⟨rfl, q12, hw12⟩
                have hb12 : Below w11.heap.size w11 w12 := by rw [hw12]; exact below_q w11 q12
                have HPw := Lib.hid (HPx.out.below hb12); have HHw := Lib.hid (HHx.out.below hb12)
                have HBt := Lib.hid (HPw.out.bytes (T' := fun _ => False) (some ⟨gt, 0, none⟩) x.n ct (by first | omega | (simp; omega)) (by omega) ⟨_, by have h := HHw.out.2; rw [List.map_append] at h; exact own_less h⟩ (fun i hi => .inr (by injection hi with hi; exact hi.symm)) (fun i hi => hi.elim))
                clear hb12 hw12 HPx HHx HLr
                go_wp2_with fail
                refine HBt.out.mono ?_
                rintro x' w13 ⟨rfl, hP13, _, _⟩
                have HP13 := Lib.hid hP13
                clear hP13 HBt
                go_wp2_with fail
                go_roundw
                case rel => exact ⟨k + 1, da, ma, Sa, _, hlt, by go_num, rfl, rfl, by simp; omega, HNz.out, HP13.out⟩
                case measure => simp [intOf]; omega
          · as_aux_lemma =>
              obtain rfl : r = 9 := by omega
              by_cases hm0 : x.m < 0
              · obtain ⟨F, hF⟩ := HP5.out.disk
                have HPf := Lib.hid (pfail_bad hF x.m x.names hm0)
                clear hF
                go_wp2_with fail
                refine HPf.out.mono ?_
                rintro x' w6 ⟨rfl, hb6⟩
                have HPz := Lib.hid (HP5.out.below hb6); have HHz := Lib.hid (HHs5.out.below hb6)
                clear hb6 HPf p0 p1 p2 p3 p4 p5 p6
                obtain ⟨p0, p1, p2, p3, p4, p5, p6⟩ := HHz.out.1.cells
                go_wp2_with fail
                refine (rfail_no x.m x.names hm0).mono ?_
                rintro x' w7 ⟨rfl, rfl⟩
                clear p0 p1 p2 p3 p4 p5 p6
                obtain ⟨F, hF⟩ := HPz.out.disk
                obtain ⟨G, hG⟩ := HPz.out.ref
                obtain ⟨p0, p1, p2, p3, p4, p5, p6⟩ := HHz.out.1.cells
                have HSz := Lib.hid (psize_any hF x.name hsn)
                have HSd' := Lib.hid hF.sound
                clear hF hG
                generalize hE1 : sizeErr S x.name.data.toList = e1 at HSz
                generalize hE2 : sizeN S x.name.data.toList = e2 at HSz
                have he1 : ((e1 : Int) != e1) = false := by simp
                have he2 : ((e2 : Int) != (e2 : Int)) = false := by simp
                have hll : ((S.left : Int) != (S.left : Int)) = false := by simp
                have HE1 := Lib.hid hE1; have HE2 := Lib.hid hE2
                clear hE1 hE2
                go_wp2_with fail
                refine HSz.out.mono ?_
                rintro x' w8 ⟨rfl, hb8⟩
                have HPy := Lib.hid (HPz.out.below hb8); have HHy := Lib.hid (HHz.out.below hb8)
                clear hb8 HSz p0 p1 p2 p3 p4 p5 p6
                obtain ⟨p0, p1, p2, p3, p4, p5, p6⟩ := HHy.out.1.cells
                obtain ⟨G, hG⟩ := HPy.out.ref
                have HSy := Lib.hid (rsize_any hG x.name hsn)
                rw [HE1.out, HE2.out] at HSy
                clear hG
                go_wp2_with fail
                refine HSy.out.mono ?_
                rintro x' w9 ⟨rfl, rfl⟩
                obtain ⟨F, hF⟩ := HPy.out.disk
                obtain ⟨pm, dm, val, hF⟩ := hF
                have HLf := Lib.hid (left_ok hF)
                clear hF HSy
                go_wp2_with fail
                refine HLf.out.mono ?_
                rintro x' w10 ⟨rfl, hb10⟩
                have HPx := Lib.hid (HPy.out.below hb10); have HHx := Lib.hid (HHy.out.below hb10)
                clear hb10 HLf p0 p1 p2 p3 p4 p5 p6
                obtain ⟨p0, p1, p2, p3, p4, p5, p6⟩ := HHx.out.1.cells
                obtain ⟨G, hG⟩ := HPx.out.ref
                have HLr := Lib.hid (rleft_ok hG HSd'.out.1 HSd'.out.2)
                clear hG
                go_wp2_with fail
                refine HLr.out.mono ?_
                rintro x' w11 ⟨rfl, rfl⟩
                go_wp2_with fail
                refine (left_any x.A gt 0 x.n ct x.c w11.heap.size x.l w11 (Lies.of_own (c := ct) HHx.out.2) HCt.out HCm.out (HOk2.out w11 HPx.out.low)).mono ?_
                rintro x' w12 ⟨rfl, q12, hw12⟩
                have hb12 : Below w11.heap.size w11 w12 := by rw [hw12]; exact below_q w11 q12
                have HPw := Lib.hid (HPx.out.below hb12); have HHw := Lib.hid (HHx.out.below hb12)
                have HBt := Lib.hid (HPw.out.bytes (T' := fun _ => False) (some ⟨gt, 0, none⟩) x.n ct (by first | omega | (simp; omega)) (by omega) ⟨_, by have h := HHw.out.2; rw [List.map_append] at h; exact own_less h⟩ (fun i hi => .inr (by injection hi with hi; exact hi.symm)) (fun i hi => hi.elim))
                clear hb12 hw12 HPx HHx HLr
                go_wp2_with fail
                refine HBt.out.mono ?_
                rintro x' w13 ⟨rfl, hP13, _, _⟩
                have HP13 := Lib.hid hP13
                clear hP13 HBt
                go_wp2_with fail
                go_roundw
                case rel => exact ⟨k + 1, dd, mm, S, _, hlt, by go_num, rfl, rfl, by simp; omega, HNm.out, HP13.out⟩
                case measure => simp [intOf]; omega
              · obtain ⟨kp, hkp⟩ : ∃ kp : Nat, x.m = (kp : Int) := ⟨x.m.toNat, by omega⟩
                rw [hkp] at p5
                have hkm : kp ≤ 9223372036854775807 := by have := HMt.out.2; omega
                have HKp := Lib.hid hkp
                clear hkp hm0
                obtain ⟨F, hF⟩ := HP5.out.disk
                have HPf := Lib.hid (pfail hF HNm.out kp hkm x.names)
                clear hF
                go_wp2_with fail
                refine HPf.out.mono ?_
                rintro x' w6 ⟨da, Sa, rfl, hb6, hDa, hLv⟩
                have HP6 := Lib.hid (HP5.out.below hb6); have HHs6 := Lib.hid (HHs5.out.below hb6)
                have HB6 := Lib.hid hb6; have HDa := Lib.hid hDa; have HLv := Lib.hid hLv
                clear hb6 hDa hLv HPf p0 p1 p2 p3 p4 p5 p6
                obtain ⟨p0, p1, p2, p3, p4, p5, p6⟩ := HHs6.out.1.cells
                rw [HKp.out] at p5
                obtain ⟨G, hG⟩ := HP6.out.ref
                have HRf := Lib.hid (rfail hG kp hkm x.names HLv.out)
                clear hG
                go_wp2_with fail
                refine HRf.out.mono ?_
                rintro x' w7 ⟨ma, rfl, hb7, hRa⟩
                have HPn := Lib.hid (HP5.out.fork HB6.out HDa.out hb7 hRa)
                have HPo := Lib.hid (HP6.out.below hb7); have HHs7 := Lib.hid (HHs6.out.below hb7)
                obtain ⟨F, hF⟩ := HPn.out.disk
                obtain ⟨G, hG⟩ := HPn.out.ref
                have HSm := Lib.hid (play_same hF hG HLv.out.2.2)
                have HNz := Lib.hid HLv.out.2.2
                clear hF hG hb7 hRa HRf p0 p1 p2 p3 p4 p5 p6
                go_wp2_with fail
                refine HSm.out.mono ?_
                rintro x' w8 ⟨rfl, hb8⟩
                have HPz := Lib.hid (HPo.out.below hb8); have HHz := Lib.hid (HHs7.out.below hb8)
                clear hb8 HSm
                obtain ⟨F, hF⟩ := HPz.out.disk
                obtain ⟨G, hG⟩ := HPz.out.ref
                obtain ⟨p0, p1, p2, p3, p4, p5, p6⟩ := HHz.out.1.cells
                have HSz := Lib.hid (psize_any hF x.name hsn)
                have HSd' := Lib.hid hF.sound
                clear hF hG
                generalize hE1 : sizeErr S x.name.data.toList = e1 at HSz
                generalize hE2 : sizeN S x.name.data.toList = e2 at HSz
                have he1 : ((e1 : Int) != e1) = false := by simp
                have he2 : ((e2 : Int) != (e2 : Int)) = false := by simp
                have hll : ((S.left : Int) != (S.left : Int)) = false := by simp
                have HE1 := Lib.hid hE1; have HE2 := Lib.hid hE2
                clear hE1 hE2
                go_wp2_with fail
                refine HSz.out.mono ?_
                rintro x' w8 ⟨rfl, hb8⟩
                have HPy := Lib.hid (HPz.out.below hb8); have HHy := Lib.hid (HHz.out.below hb8)
                clear hb8 HSz p0 p1 p2 p3 p4 p5 p6
                obtain ⟨p0, p1, p2, p3, p4, p5, p6⟩ := HHy.out.1.cells
                obtain ⟨G, hG⟩ := HPy.out.ref
                have HSy := Lib.hid (rsize_any hG x.name hsn)
                rw [HE1.out, HE2.out] at HSy
                clear hG
                go_wp2_with fail
                refine HSy.out.mono ?_
                rintro x' w9 ⟨rfl, rfl⟩
                obtain ⟨F, hF⟩ := HPy.out.disk
                obtain ⟨pm, dm, val, hF⟩ := hF
                have HLf := Lib.hid (left_ok hF)
                clear hF HSy
                go_wp2_with fail
                refine HLf.out.mono ?_
                rintro x' w10 ⟨rfl, hb10⟩
                have HPx := Lib.hid (HPy.out.below hb10); have HHx := Lib.hid (HHy.out.below hb10)
                clear hb10 HLf p0 p1 p2 p3 p4 p5 p6
                obtain ⟨p0, p1, p2, p3, p4, p5, p6⟩ := HHx.out.1.cells
                obtain ⟨G, hG⟩ := HPx.out.ref
                have HLr := Lib.hid (rleft_ok hG HSd'.out.1 HSd'.out.2)
                clear hG
                go_wp2_with fail
                refine HLr.out.mono ?_
                rintro x' w11 ⟨rfl, rfl⟩
                go_wp2_with fail
                refine (left_any x.A gt 0 x.n ct x.c w11.heap.size x.l w11 (Lies.of_own (c := ct) HHx.out.2) HCt.out HCm.out (HOk2.out w11 HPx.out.low)).mono ?_
                rintro x' w12 ⟨rfl, q12, hw12⟩
                have hb12 : Below w11.heap.size w11 w12 := by rw [hw12]; exact below_q w11 q12
                have HPw := Lib.hid (HPx.out.below hb12); have HHw := Lib.hid (HHx.out.below hb12)
                have HBt := Lib.hid (HPw.out.bytes (T' := fun _ => False) (some ⟨gt, 0, none⟩) x.n ct (by first | omega | (simp; omega)) (by omega) ⟨_, by have h := HHw.out.2; rw [List.map_append] at h; exact own_less h⟩ (fun i hi => .inr (by injection hi with hi; exact hi.symm)) (fun i hi => hi.elim))
                clear hb12 hw12 HPx HHx HLr
                go_wp2_with fail
                refine HBt.out.mono ?_
                rintro x' w13 ⟨rfl, hP13, _, _⟩
                have HP13 := Lib.hid hP13
                clear hP13 HBt
                go_wp2_with fail
                go_roundw
                case rel => exact ⟨k + 1, dd, mm, S, _, hlt, by go_num, rfl, rfl, by simp; omega, HNm.out, HP13.out⟩
                case measure => simp [intOf]; omega
        · obtain rfl : k = n := by omega
          obtain ⟨F, hF⟩ := HP.out.disk
          obtain ⟨G, hG⟩ := HP.out.ref
          have HSm := Lib.hid (play_same hF hG HNm.out)
          clear hF hG hP hlow
          go_wp2_with fail
          refine HSm.out.mono ?_
          rintro x' w5 ⟨rfl, hb5⟩
          have HP5 := Lib.hid (HP.out.below hb5)
          obtain ⟨F, G, K, vb, h⟩ := HP5.out
          have HAp := Lib.hid (h.kept.apart h.low.size (by omega))
          clear h hb5 HSm
          go_wp2_with fail
          refine HAp.out.mono ?_
          rintro x' w6 ⟨rfl, hb6⟩
          have HFin := Lib.hid (HP5.out.low.trans hb6)
          clear hb6 HAp
          go_wp2_with fail
          go_ret
          exact ⟨rfl, HFin.out⟩
end Go.Proofs.YtbpdonnneleeeaaGreatDoor
