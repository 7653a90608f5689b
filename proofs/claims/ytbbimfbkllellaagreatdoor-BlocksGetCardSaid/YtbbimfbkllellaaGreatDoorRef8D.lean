/-
  The document's own (bucketlineref08.Put).
-/
import Derived.Test.YtbbimfbkllellaaGreatDoorRefABC
import Derived.Test.YtbbimfbkllellaaGreatDoorBkPQ
import Derived.Test.YtbbimfbkllellaaGreatDoorRefPut4
import Derived.StillTailTactics
namespace Go.Proofs.YtbbimfbkllellaaGreatDoor
open Go.RowKit
set_option linter.unusedVariables false
set_option maxRecDepth 100000

/-- what the first loop keeps -/
def RpR (w : World) (n : Nat) (S : List En) (vb vo i : Value) (wr : World) : Prop :=
  ∃ k lb lo : Nat, k ≤ n ∧ i = .int .i64 (k : Int) ∧ wr.ownsRow w.heap.size 5 1 vb lb ((body (S.take k)).map bv) ∧ wr.ownsRow w.heap.size 3 1 vo lo ((places (S.take k)).map iv) ∧ Below w.heap.size w wr
/-- what the second loop keeps -/
def RpQ (w : World) (lo : Nat) (S : List En) (vo vb i : Value) (wr : World) : Prop :=
  ∃ k lb : Nat, k ≤ lo ∧ i = .int .i64 (k : Int) ∧ wr.ownsRow w.heap.size 5 1 vb lb ((body S ++ ((places S).take k).flatMap two).map bv) ∧ wr.ownsRow w.heap.size 3 1 vo lo ((places S).map iv) ∧ Below w.heap.size w wr
theorem own_blen {w : World} {base n : Nat} {v : Value} {l : List UInt8} (h : w.ownsRow base 5 1 v n (l.map bv)) : l.length = n := by
  obtain ⟨A, c, rfl, _⟩ := own_shape h
  exact (Lies.of_own h).blen
theorem own_ilen {w : World} {base n : Nat} {v : Value} {l : List Nat} (h : w.ownsRow base 3 1 v n (l.map iv)) : l.length = n := by
  have := h.1
  simpa using this
/-- an entry's cells -/
abbrev ECs (g : Nat) (k : ByteArray) (s : Nat) (b : Bool) (y : ByteArray) (w : World) : Prop :=
  w.cell? ⟨g, 0, none⟩ = some (.string k) ∧ w.cell? ⟨g, 1, none⟩ = some (.int .u64 (s : Int)) ∧ w.cell? ⟨g, 2, none⟩ = some (.bool b) ∧ w.cell? ⟨g, 3, none⟩ = some (.string y)
theorem ECs.below {g s : Nat} {k y : ByteArray} {b : Bool} {w w' : World} (H : ECs g k s b y w) (hb : Below w.heap.size w w') : ECs g k s b y w' := by
  have up : ∀ {a v}, w.cell? a = some v → w'.cell? a = some v := fun {a v} h => (hb.cell (World.block_lt_of_cell? w _ h)).trans h
  exact ⟨up H.1, up H.2.1, up H.2.2.1, up H.2.2.2⟩
theorem Lies.intE {w : World} {B n i : Nat} {A : Option Addr} {l : List Nat} (h : Lies w B 1 A n (l.map iv)) (hi : i < n) : ∃ b o m, A = some ⟨b, o, none⟩ ∧ b < B ∧ l[i]? = some m ∧ w.cell? ⟨b, o + i, none⟩ = some (.int .i64 (m : Int)) := by
  obtain ⟨b, o, e, hb, hc⟩ := h.elem (by decide) hi
  have hl : i < l.length := by have := h.len; rw [List.length_map] at this; omega
  refine ⟨b, o, l[i], e, hb, List.getElem?_eq_getElem hl, ?_⟩
  have := hc 0 (by decide)
  rw [Nat.mul_one, Nat.add_zero] at this
  rw [this, List.getElem?_map, List.getElem?_eq_getElem hl]; rfl
theorem preK_next {S : List En} {j : Nat} {y : En} (hy : S[j]? = some y) (h4 : (j + 1) % 4 ≠ 0) : preK (j + 1) (lastK ByteArray.empty (S.take (j + 1))) = y.m.k := by
  unfold preK; rw [if_neg h4, last_snoc hy]

set_option maxHeartbeats 8000000 in
theorem rbput_any (S : List En) (hok : okB S = true) (hsq : ∀ e ∈ S, e.m.s < 18446744073709551616) (A : Option Addr) (n c B : Nat) (w : World) (hL : EL w B A n c S) :
    Calls Tryz.prog 23 #[.slice A n c] w fun e w' => ∃ A' c', e = .returned (.tuple #[.slice A' (encB S).length c', .int .i64 0]) ∧ w'.ownsRow w.heap.size 5 1 (.slice A' (encB S).length c') (encB S).length ((encB S).map bv) ∧ Below w.heap.size w w' := by
  obtain ⟨i0, hi, hz0, hz1, hz2⟩ := info_parts byte_info
  obtain ⟨i1, hi1, hy0, hy1, hy2⟩ := info_parts int_info
  have hln := hL.lies.elen
  obtain ⟨q1, q2, q3, q4⟩ := (okB_iff S).1 hok
  have HM := Lib.hid (rmay_any S A n c B w hL)
  rw [hok] at HM
  have HEL := Lib.hid hL; have HLn := Lib.hid hln; have HF3 := Lib.hid q3; have HSQ := Lib.hid hsq
  have hn64 : n ≤ 64 := by omega
  clear hL hln q3 q4 hsq hok q1 q2
  go_enter Tryz.func23, Tryz.ntmps23
  go_wp2_with fail
  refine HM.out.mono ?_
  rintro e w1 ⟨rfl, hb1⟩
  have HB1 := Lib.hid hb1
  clear hb1 HM
  go_wp2
  go_loopw [4, 5, 6] (fun vb vo i wr => RpR w n S vb vo i wr) (fun _ _ i _ => n - (intOf i).toNat)
  case atStart => exact ⟨0, 0, 0, Nat.zero_le _, rfl, World.ownsRow_nil _ _ _ _, World.ownsRow_nil _ _ _ _, HB1.out⟩
  case round =>
    clear HB1
    obtain ⟨k, lb, lo, hk, rfl, hob, hoo, hbw⟩ := hrel
    obtain ⟨Ab, cb, rfl, hbc, hbm, _⟩ := own_shape hob
    obtain ⟨Ao, co, rfl, hoc, hom, _⟩ := own_shape hoo
    have hbl := own_blen hob
    have hol := own_ilen hoo
    unfold maxLen at hbm hom
    have HBw := Lib.hid hbw; have HOb := Lib.hid hob; have HOo := Lib.hid hoo
    have hsz := hbw.size
    clear hbw hob hoo
    have hbl2 : lb ≤ 21056 := by
      have h1 := bodyG_len (S.take k) 0 ByteArray.empty (fun e he => HF3.out e ((List.take_sublist k S).mem he))
      have h2 : (S.take k).length ≤ 64 := by rw [List.length_take]; have := HLn.out; omega
      unfold body at hbl; omega
    have hol2 : lo ≤ 17 := by
      have h1 := places_len (S.take k)
      have h2 : (S.take k).length ≤ 64 := by rw [List.length_take]; have := HLn.out; omega
      omega
    by_cases hlt : k < n
    · have hELr : EL wr B A n c S := HEL.out.keep (fun p hp => HBw.out.cell (Nat.lt_of_lt_of_le hp HEL.out.B)) HBw.out.size
      obtain ⟨b, o, x, rfl, hbB, hu, c0, c1, c2, c3⟩ := hELr.lies.entry hlt
      have HU := Lib.hid hu
      have hxm := List.mem_of_getElem? hu
      have hxf := fine_size (HF3.out x hxm)
      have HXs := Lib.hid (HSQ.out x hxm)
      have hx1 := hxf.2.1; have hx2 := hxf.2.2
      clear hxf
      have i0' : (0 : Int) ≤ (k : Int) := by omega
      have i1' : (k : Int) < (n : Int) := by omega
      have HBL := Lib.hid hbl; have HOL := Lib.hid hol
      have HbB := Lib.hid hbB
      clear hbl hol hbB
      by_cases h4 : k % 4 = 0
      · have hm : ((k : Int) % 4 == 0) = true := by rw [beq_iff_eq]; omega
        have hm2 : (k : Int) % 4 = 0 := by omega
        have HPL := Lib.hid (places_snoc hu)
        rw [if_pos h4, HBL.out] at HPL
        have HRw : Hid (rowE (preK k (lastK ByteArray.empty (S.take k))) x = Vi.enc 0 ++ encE ⟨⟨x.m.k, x.m.s, x.m.g⟩, x.x⟩) := by
          unfold Hid rowE preK restE
          rw [if_pos h4, cpK_empty, cutK_zero]
        have HLq : Hid ((body (S.take k) ++ Vi.enc 0).length = lb + (Vi.enc 0).length) := by unfold Hid; rw [List.length_append, HBL.out]
        have hve := Vi.enc_len 0
        have hsz0 : x.m.k.size ≤ 32 := by omega
        clear hu hELr h4 hxm
        go_wp2_with (at_builtin; refine wpList_app _ rfl (.tmp 22) (.tmp 25) 75 rfl w.heap.size 3 i1 _ 1 8 Tryz.underlying75 hi1 hy0 hy1 hy2 rfl (by decide) (.slice Ao lo co) lo ((places (S.take k)).map iv) rfl (HOo.out.alloc _) (wr.heap.size + 1) (some ⟨wr.heap.size, 0, none⟩) 1 1 [iv lb] rfl (one_lies rfl _ _) (by intro u hu; simp at hu; subst hu; rfl) (by unfold maxLen; omega) (by omega) (by simp; omega) ?_)
        intro vo2 W hown2 hg2 _
        obtain ⟨Ao2, co2, rfl, _⟩ := own_shape hown2
        obtain ⟨lo2, hlo2⟩ : ∃ m, lo + 1 = m := ⟨_, rfl⟩
        rw [hlo2] at hown2 ⊢
        have hownA := HOo.out.alloc (w := wr) (.cells #[.int .i64 (lb : Int)] 3)
        have hbA : Below wr.heap.size wr (wr.alloc (.cells #[.int .i64 (lb : Int)] 3)) := (Below.refl _ _).alloc (Nat.le_refl _) _
        have hbA2 := HBw.out.trans (hbA.mono HBw.out.size)
        have kb := own_other hownA (own_below HOb.out hbA) (by decide) hg2
        have HBw2 := Lib.hid (hbA2.grown hg2 hbA2.size (fun j hj => (hownA.lt j hj).1))
        have up : ∀ q, W.cell? ⟨b, q, none⟩ = wr.cell? ⟨b, q, none⟩ := fun q => (HBw2.out.cell (p := ⟨b, q, none⟩) (Nat.lt_of_lt_of_le HbB.out HEL.out.B)).trans (HBw.out.cell (p := ⟨b, q, none⟩) (Nat.lt_of_lt_of_le HbB.out HEL.out.B)).symm
        rw [← up] at c0 c1 c2 c3
        clear HBw HOb
        have HOo2 : Hid (W.ownsRow w.heap.size 3 1 (.slice Ao2 lo2 co2) lo2 ((places (S.take (k + 1))).map iv)) := by
          unfold Hid; rw [HPL.out, List.map_append]; exact hown2
        have HOb := Lib.hid kb
        have HBw := Lib.hid HBw2.out
        clear HOo HBw2 kb hbA2 hbA hownA hown2 hg2 hlo2 up
        have HOo := Lib.hid HOo2.out
        clear HOo2
        have HP1 : Hid (∀ W', Lies W' W'.heap.size 1 Ab lb ((body (S.take k)).map bv) → Calls Tryz.prog 83 #[.slice Ab lb cb, .int .u64 0] W' fun e w' => ∃ A3 n3 c3, e = .returned (.slice A3 n3 c3) ∧ Own W' (body (S.take k) ++ Vi.enc 0) A3 n3 c3 w') := fun W' h => (rput_on Ab lb cb 0 (body (S.take k)) W' h (by omega) (by omega)).mono fun _ _ q => q.own
        obtain ⟨W1, hW1⟩ : ∃ W1, W.alloc (.cells #[.string (x.m.k), .int .u64 (x.m.s : Int), .bool x.m.g, .string x.x] 59) = W1 := ⟨_, rfl⟩
        have b1 : Below W.heap.size W W1 := by rw [← hW1]; exact (Below.refl _ _).alloc (Nat.le_refl _) _
        have hE1 : ECs W.heap.size (x.m.k) x.m.s x.m.g x.x W1 := by rw [← hW1]; have := enW_facts W ⟨⟨x.m.k, x.m.s, x.m.g⟩, x.x⟩; exact ⟨this.1, this.2.1, this.2.2.1, this.2.2.2.1⟩
        have HW1 := Lib.hid hW1
        clear hW1
        go_wp2_with fail
        rw [HW1.out]
        clear HW1
        have hd1 : Below W1.heap.size W1 W1.drew := ⟨rfl, rfl, rfl, Nat.le_refl _, fun _ _ => rfl⟩
        have b2 := b1.trans (hd1.mono b1.size)
        have E0 := ECs.below hE1 hd1
        have HB2 := Lib.hid (HBw.out.trans (b2.mono HBw.out.size))
        have HO2 := Lib.hid (own_below HOo.out b2)
        have HL2 := Lib.hid (((Lies.of_own HOb.out).below b2).more b2.size)
        clear hd1 hE1 b1 b2 HOb HOo HBw
        go_region_held3 (fun w' => ECs W.heap.size (x.m.k) x.m.s x.m.g x.x w')
          (first | exact E0 | exact E1 | exact E2 | fail)
          (first
          | (go_at_call 83; refine (HP1.out _ HL2.out).mono ?_; rintro e w3 ⟨A3, n3, c3, rfl, hf3⟩; have E1 := ECs.below E0 hf3.2.2)
          | (go_at_call 82; refine ((rput4_any A3 n3 c3 _ (x.m.k) x.x x.m.s x.m.g _ (Lies.of_own hf3.2.1) HXs.out (by have h1 := hf3.1; rw [HLq.out] at h1; omega)).mono fun _ _ q => q.own).mono ?_; rintro e w5 ⟨A5, n5, c5, rfl, hf5⟩; have E2 := ECs.below E1 hf5.2.2)
          | fail)
        have HF : Hid (w5.ownsRow w.heap.size 5 1 (.slice A5 n5 c5) n5 ((body (S.take (k + 1))).map bv) ∧ w5.ownsRow w.heap.size 3 1 (.slice Ao2 lo2 co2) lo2 ((places (S.take (k + 1))).map iv) ∧ Below w.heap.size w w5) := by
          have g1 := HB2.out.trans (hf3.2.2.mono HB2.out.size)
          have g2 := g1.trans (hf5.2.2.mono g1.size)
          refine ⟨?_, own_below (own_below HO2.out hf3.2.2) hf5.2.2, g2⟩
          have := own_base hf5.2.1 g1.size
          rw [body_snoc HU.out, HRw.out, ← List.append_assoc]
          exact this
        clear E0 E1 E2 hf3 hf5 HB2 HO2 HL2 HP1 HLq
        go_wp2
        go_roundw
        case rel => exact ⟨k + 1, n5, lo2, hlt, by go_num, HF.out.1, HF.out.2.1, HF.out.2.2⟩
        case measure => simp [intOf]; omega
      · obtain ⟨j, hj⟩ : ∃ j, k = j + 1 := ⟨k - 1, by omega⟩
        obtain ⟨b', o', y, hA', _, hu', e0, _, _, _⟩ := hELr.lies.entry (i := j) (by omega)
        injection hA' with hA'
        injection hA' with ea eb
        subst ea eb
        have hm : ((k : Int) % 4 == 0) = false := by rw [beq_eq_false_iff_ne]; omega
        have hy1' := (fine_size (HF3.out y (List.mem_of_getElem? hu'))).2.1
        have HPL := Lib.hid (places_snoc hu)
        rw [if_neg h4, List.append_nil] at HPL
        obtain ⟨m, hmq⟩ : ∃ m, cpK y.m.k x.m.k = m := ⟨_, rfl⟩
        have hmx : m ≤ x.m.k.size := by rw [← hmq]; exact (cpK_le _ _).2
        have hwu : IntKind.u64.wrap (m : Int) = (m : Int) := by rw [IntKind.wrap_u64]; omega
        have HRw : Hid (rowE (preK k (lastK ByteArray.empty (S.take k))) x = Vi.enc m ++ encE ⟨⟨x.m.k.extract m x.m.k.size, x.m.s, x.m.g⟩, x.x⟩) := by
          unfold Hid
          rw [hj] at h4 ⊢
          rw [preK_next hu' h4]
          unfold rowE
          rw [cpK_comm, hmq]; rfl
        have HLq : Hid ((body (S.take k) ++ Vi.enc m).length = lb + (Vi.enc m).length) := by unfold Hid; rw [List.length_append, HBL.out]
        have hve := Vi.enc_len m
        have hsz0 : (x.m.k.extract m x.m.k.size).size ≤ 32 := by rw [ByteArray.size_extract]; omega
        have HC := Lib.hid (ralike_any y.m.k x.m.k wr.drew (by omega) (by omega))
        rw [hmq] at HC
        have i2 : IntKind.i64.wrap ((k : Int) - 1) = (j : Int) := by rw [IntWalk.i64_in] <;> omega
        have i3 : (0 : Int) ≤ (j : Int) := by omega
        have i4 : (j : Int) < (n : Int) := by omega
        have Sd : wr.drew.cell? ⟨b, o + j * 4, none⟩ = some (.string y.m.k) ∧ wr.drew.cell? ⟨b, o + k * 4, none⟩ = some (.string x.m.k) := ⟨e0, c0⟩
        have HC4 : Hid (wr.cell? ⟨b, o + k * 4, none⟩ = some (.string x.m.k) ∧ wr.cell? ⟨b, o + k * 4 + 1, none⟩ = some (.int .u64 (x.m.s : Int)) ∧ wr.cell? ⟨b, o + k * 4 + 2, none⟩ = some (.bool x.m.g) ∧ wr.cell? ⟨b, o + k * 4 + 3, none⟩ = some (.string x.x)) := ⟨c0, c1, c2, c3⟩
        clear hu hu' hELr h4 hxm hj hmq e0 c0 c1 c2 c3
        go_wp2
        go_region_held3 (fun w' => w'.cell? ⟨b, o + j * 4, none⟩ = some (.string y.m.k) ∧ w'.cell? ⟨b, o + k * 4, none⟩ = some (.string x.m.k)) (first | exact Sd | exact S1 | fail)
          (first | (go_at_call 81; refine HC.out.mono ?_; rintro e W ⟨rfl, hq⟩; have S1 : W.cell? ⟨b, o + j * 4, none⟩ = some (.string y.m.k) ∧ W.cell? ⟨b, o + k * 4, none⟩ = some (.string x.m.k) := (by obtain ⟨q, rfl⟩ := hq; exact Sd)) | fail)
        have hbW : Below wr.heap.size wr W := by obtain ⟨q, rfl⟩ := hq; exact below_drewN ((Below.refl _ wr).drew) q
        have cW : W.cell? ⟨b, o + k * 4, none⟩ = some (.string x.m.k) ∧ W.cell? ⟨b, o + k * 4 + 1, none⟩ = some (.int .u64 (x.m.s : Int)) ∧ W.cell? ⟨b, o + k * 4 + 2, none⟩ = some (.bool x.m.g) ∧ W.cell? ⟨b, o + k * 4 + 3, none⟩ = some (.string x.x) := by obtain ⟨q, rfl⟩ := hq; exact HC4.out
        obtain ⟨c0, c1, c2, c3⟩ := cW
        obtain ⟨Ao2, hAo2⟩ : ∃ a, Ao = a := ⟨_, rfl⟩
        obtain ⟨lo2, hlo2⟩ : ∃ a, lo = a := ⟨_, rfl⟩
        obtain ⟨co2, hco2⟩ : ∃ a, co = a := ⟨_, rfl⟩
        have HOo2 : Hid (W.ownsRow w.heap.size 3 1 (.slice Ao2 lo2 co2) lo2 ((places (S.take (k + 1))).map iv)) := by
          unfold Hid; rw [HPL.out, ← hAo2, ← hlo2, ← hco2]; exact own_below HOo.out hbW
        rw [hAo2, hlo2, hco2]
        have HOb2 := Lib.hid (own_below HOb.out hbW)
        have HBw2 := Lib.hid (HBw.out.trans (hbW.mono HBw.out.size))
        clear HOo HOb HBw hbW Sd S1 HC hq hAo2 hlo2 hco2 i2 HC4
        have HOo := Lib.hid HOo2.out
        have HOb := Lib.hid HOb2.out
        have HBw := Lib.hid HBw2.out
        clear HOo2 HOb2 HBw2
        have HP1 : Hid (∀ W', Lies W' W'.heap.size 1 Ab lb ((body (S.take k)).map bv) → Calls Tryz.prog 83 #[.slice Ab lb cb, .int .u64 (m : Int)] W' fun e w' => ∃ A3 n3 c3, e = .returned (.slice A3 n3 c3) ∧ Own W' (body (S.take k) ++ Vi.enc m) A3 n3 c3 w') := fun W' h => (rput_on Ab lb cb m (body (S.take k)) W' h (by omega) (by omega)).mono fun _ _ q => q.own
        obtain ⟨W1, hW1⟩ : ∃ W1, W.alloc (.cells #[.string ((x.m.k.extract m x.m.k.size)), .int .u64 (x.m.s : Int), .bool x.m.g, .string x.x] 59) = W1 := ⟨_, rfl⟩
        have b1 : Below W.heap.size W W1 := by rw [← hW1]; exact (Below.refl _ _).alloc (Nat.le_refl _) _
        have hE1 : ECs W.heap.size ((x.m.k.extract m x.m.k.size)) x.m.s x.m.g x.x W1 := by rw [← hW1]; have := enW_facts W ⟨⟨(x.m.k.extract m x.m.k.size), x.m.s, x.m.g⟩, x.x⟩; exact ⟨this.1, this.2.1, this.2.2.1, this.2.2.2.1⟩
        have HW1 := Lib.hid hW1
        clear hW1
        go_wp2_with fail
        rw [HW1.out]
        clear HW1
        have hd1 : Below W1.heap.size W1 W1.drew := ⟨rfl, rfl, rfl, Nat.le_refl _, fun _ _ => rfl⟩
        have b2 := b1.trans (hd1.mono b1.size)
        have E0 := ECs.below hE1 hd1
        have HB2 := Lib.hid (HBw.out.trans (b2.mono HBw.out.size))
        have HO2 := Lib.hid (own_below HOo.out b2)
        have HL2 := Lib.hid (((Lies.of_own HOb.out).below b2).more b2.size)
        clear hd1 hE1 b1 b2 HOb HOo HBw
        go_region_held3 (fun w' => ECs W.heap.size ((x.m.k.extract m x.m.k.size)) x.m.s x.m.g x.x w')
          (first | exact E0 | exact E1 | exact E2 | fail)
          (first
          | (go_at_call 83; refine (HP1.out _ HL2.out).mono ?_; rintro e w3 ⟨A3, n3, c3, rfl, hf3⟩; have E1 := ECs.below E0 hf3.2.2)
          | (go_at_call 82; refine ((rput4_any A3 n3 c3 _ ((x.m.k.extract m x.m.k.size)) x.x x.m.s x.m.g _ (Lies.of_own hf3.2.1) HXs.out (by have h1 := hf3.1; rw [HLq.out] at h1; omega)).mono fun _ _ q => q.own).mono ?_; rintro e w5 ⟨A5, n5, c5, rfl, hf5⟩; have E2 := ECs.below E1 hf5.2.2)
          | fail)
        have HF : Hid (w5.ownsRow w.heap.size 5 1 (.slice A5 n5 c5) n5 ((body (S.take (k + 1))).map bv) ∧ w5.ownsRow w.heap.size 3 1 (.slice Ao2 lo2 co2) lo2 ((places (S.take (k + 1))).map iv) ∧ Below w.heap.size w w5) := by
          have g1 := HB2.out.trans (hf3.2.2.mono HB2.out.size)
          have g2 := g1.trans (hf5.2.2.mono g1.size)
          refine ⟨?_, own_below (own_below HO2.out hf3.2.2) hf5.2.2, g2⟩
          have := own_base hf5.2.1 g1.size
          rw [body_snoc HU.out, HRw.out, ← List.append_assoc]
          exact this
        clear E0 E1 E2 hf3 hf5 HB2 HO2 HL2 HP1 HLq
        go_wp2
        go_roundw
        case rel => exact ⟨k + 1, n5, lo2, hlt, by go_num, HF.out.1, HF.out.2.1, HF.out.2.2⟩
        case measure => simp [intOf]; omega
    · obtain rfl : k = n := by omega
      have htk : S.take k = S := List.take_of_length_le (by rw [HLn.out]; exact Nat.le_refl _)
      rw [htk] at HOb HOo hbl hol
      have HBL := Lib.hid hbl; have HOL := Lib.hid hol
      have HPX : Hid (∀ x ∈ places S, x < 65536) := fun x hx => by
        have h1 := offG_le S 0 0 ByteArray.empty x hx
        have h2 := bodyG_len S 0 ByteArray.empty HF3.out
        have := HLn.out
        omega
      have HS0 : Hid (RpQ w lo S (.slice Ao lo co) (.slice Ab lb cb) (.int .i64 0) wr) := ⟨0, lb, Nat.zero_le _, rfl, by simpa using HOb.out, HOo.out, HBw.out⟩
      clear hbl hol htk HBw HOb HOo hlt
      go_wp2
      go_loopw [4, 9] (fun vb i wr => RpQ w lo S (.slice Ao lo co) vb i wr) (fun _ i _ => lo - (intOf i).toNat)
      case atStart => exact HS0.out
      case round =>
        clear HS0
        obtain ⟨k2, lb2, hk2, rfl, hob, hoo, hbw⟩ := hrel
        obtain ⟨Ab2, cb2, rfl, hbc2, hbm2, _⟩ := own_shape hob
        have hbl := own_blen hob
        unfold maxLen at hbm2
        have hlb2 : lb2 ≤ 22000 := by
          have h1 := bodyG_len S 0 ByteArray.empty HF3.out
          have h2 := HLn.out
          rw [List.length_append, flat_two, List.length_take] at hbl
          unfold body at hbl
          omega
        have hsz2 := hbw.size
        have HBw := Lib.hid hbw; have HOb := Lib.hid hob; have HOo := Lib.hid hoo
        clear hbw hob hoo hbl
        by_cases hlt2 : k2 < lo
        · obtain ⟨b, o, m, rfl, hbB, hu, c0⟩ := (Lies.of_own HOo.out).intE hlt2
          have HU := Lib.hid hu
          have hmx := HPX.out m (List.mem_of_getElem? hu)
          have HT := Lib.hid (two_bv m hmx)
          have e1 : (m : Int) / 256 = ((m / 256 : Nat) : Int) := by omega
          have e1' : Int.tdiv (m : Int) 256 = ((m / 256 : Nat) : Int) := by rw [Int.tdiv_eq_ediv_of_nonneg (by omega)]; omega
          have a1 : ((m / 256 : Nat) : Int) < 256 := by omega
          have e2 : (m : Int) % 256 = ((m % 256 : Nat) : Int) := by omega
          obtain ⟨x1, hx1⟩ : ∃ a, m / 256 = a := ⟨_, rfl⟩
          obtain ⟨x2, hx2⟩ : ∃ a, m % 256 = a := ⟨_, rfl⟩
          rw [hx1] at e1 e1' a1 HT
          rw [hx2] at e2 HT
          have i0' : (0 : Int) ≤ (k2 : Int) := by omega
          have i1' : (k2 : Int) < (lo : Int) := by omega
          have c0' : wr.drew.cell? ⟨b, o + k2, none⟩ = some (.int .i64 (m : Int)) := c0
          have hd1 : Below wr.heap.size wr wr.drew := ⟨rfl, rfl, rfl, Nat.le_refl _, fun _ _ => rfl⟩
          have HOb2 := Lib.hid (own_below HOb.out hd1)
          have HOo2 := Lib.hid (own_below HOo.out hd1)
          have HBw2 := Lib.hid (HBw.out.trans (hd1.mono HBw.out.size))
          clear hu hx1 hx2 HOb HOo HBw hd1 hmx hbB
          have hw1 : IntKind.i64.wrap (x1 : Int) = (x1 : Int) := by rw [IntWalk.i64_in] <;> omega
          have hw2 : IntKind.u8.wrap (x1 : Int) = (x1 : Int) := by rw [IntKind.wrap_u8]; omega
          have hw3 : IntKind.u8.wrap (m : Int) = (x2 : Int) := by rw [IntKind.wrap_u8]; exact e2
          have HKC2 : Hid (∀ w2, (wr.drew.alloc (.cells #[.int .u8 (x1 : Int), .int .u8 (x2 : Int)] 5)).grownBy w2 (Value.slice Ab2 lb2 cb2).ownBlock → w2.cell? ⟨b, o + k2, none⟩ = some (.int .i64 (m : Int))) := fun w2 hg => by
            have hA := HOb2.out.alloc (w := wr.drew) (.cells #[.int .u8 (x1 : Int), .int .u8 (x2 : Int)] 5)
            have hB := own_below HOo2.out ((Below.refl wr.drew.heap.size wr.drew).alloc (Nat.le_refl _) (.cells #[.int .u8 (x1 : Int), .int .u8 (x2 : Int)] 5))
            obtain ⟨b', o', m', hA', _, hu', c1⟩ := (Lies.of_own (own_other hA hB (by decide) hg)).intE hlt2
            injection hA' with hA'
            injection hA' with ea eb
            subst ea eb
            rw [HU.out] at hu'
            injection hu' with hu'
            rw [hu']; exact c1
          have hbA : ∀ W, Below wr.heap.size wr (W) → w.heap.size ≤ W.heap.size := fun W h => Nat.le_trans hsz2 h.size
          have HKC : Hid (∀ W, Below wr.heap.size wr W → W.cell? ⟨b, o + k2, none⟩ = some (.int .i64 (m : Int))) := fun W h => (h.cell (World.block_lt_of_cell? wr _ c0)).trans c0
          have hl0 : Below wr.heap.size wr wr.drew := (Below.refl _ wr).drew
          have hl1 : ∀ o, Below wr.heap.size wr (wr.drew.alloc o) := fun o => hl0.alloc (Nat.le_refl _) o
          clear c0
          go_wp2
          go_region_held3 (fun w' => w'.cell? ⟨b, o + k2, none⟩ = some (.int .i64 (m : Int)))
            (first | exact HKC.out _ hl0 | exact HKC.out _ (hl1 _) | exact hl6 | fail)
            (first
            | (refine step_app _ (by rfl) (.tmp 64) (.tmp 76) 22 (by rfl) w.heap.size 5 i0 _ 1 1 Tryz.underlying22 hi hz0 hz1 hz2 rfl (by decide) (.slice Ab2 lb2 cb2) lb2 ((body S ++ ((places S).take k2).flatMap two).map bv) (by rfl) (HOb2.out.alloc _) (wr.heap.size + 1) (some ⟨wr.heap.size, 0, none⟩) 2 2 [.int .u8 (x1 : Int), .int .u8 (x2 : Int)] (by rfl) ((lits_lie (w := wr) (g := wr.heap.size) rfl [.int .u8 (x1 : Int), .int .u8 (x2 : Int)] 5).drew) (by intro u hu; simp at hu; rcases hu with rfl | rfl <;> rfl) (by unfold maxLen; omega) (by omega) (Nat.le_trans hsz2 (by simp)) ?_; intro v2 w2 hown2 hg2 _; have hl6 := HKC2.out _ hg2)
            | fail)
          have hown3 : w2.ownsRow w.heap.size 5 1 v2 (lb2 + 2) ((body S ++ ((places S).take k2).flatMap two).map bv ++ [.int .u8 (x1 : Int), .int .u8 (x2 : Int)]) := hown2
          have hownA := HOb2.out.alloc (w := wr.drew) (.cells #[.int .u8 (x1 : Int), .int .u8 (x2 : Int)] 5)
          have hbB : Below wr.drew.heap.size wr.drew (wr.drew.alloc (.cells #[.int .u8 (x1 : Int), .int .u8 (x2 : Int)] 5)) := (Below.refl _ _).alloc (Nat.le_refl _) _
          have hbA2 := HBw2.out.trans (hbB.mono HBw2.out.size)
          have ko := own_other hownA (own_below HOo2.out hbB) (by decide) hg2
          have HBw3 := Lib.hid (hbA2.grown hg2 hbA2.size (fun j hj => (hownA.lt j hj).1))
          have HF : Hid (w2.ownsRow w.heap.size 5 1 v2 (lb2 + 2) ((body S ++ ((places S).take (k2 + 1)).flatMap two).map bv) ∧ w2.ownsRow w.heap.size 3 1 (.slice (some ⟨b, o, none⟩) lo co) lo ((places S).map iv) ∧ Below w.heap.size w w2) := by
            refine ⟨?_, ko, HBw3.out⟩
            rw [List.take_add_one, HU.out]
            simp only [Option.toList_some, List.flatMap_append, List.flatMap_cons, List.flatMap_nil, List.append_nil]
            rw [← List.append_assoc, List.map_append, HT.out]
            exact hown3
          clear hownA hbA hbB hbA2 ko HBw3 HOb2 HOo2 HBw2 hown2 hown3 hg2 c0' e1 e1' e2 a1 HKC HKC2 hl0 hl1 hl6 hw1 hw2 hw3
          go_wp2
          go_roundw
          case rel => exact ⟨k2 + 1, _, hlt2, by go_num, HF.out.1, HF.out.2.1, HF.out.2.2⟩
          case measure => simp [intOf]; omega
        · obtain rfl : k2 = lo := by omega
          have htk : (places S).take k2 = places S := List.take_of_length_le (by rw [HOL.out]; exact Nat.le_refl _)
          rw [htk] at HOb
          have HT := Lib.hid (two_bv k2 (by omega))
          have e1 : (k2 : Int) / 256 = 0 := by omega
          have e1' : Int.tdiv (k2 : Int) 256 = 0 := by rw [Int.tdiv_eq_ediv_of_nonneg (by omega)]; omega
          have e2 : (k2 : Int) % 256 = (k2 : Int) := by omega
          rw [show k2 / 256 = 0 from by omega, show k2 % 256 = k2 from by omega] at HT
          have hEn : encB S = body S ++ (places S).flatMap two ++ two k2 := by
            unfold encB tailB
            rw [HOL.out]; simp
          have HEn := Lib.hid hEn
          clear htk hEn
          go_wp2_with (at_builtin; refine wpList_app _ rfl (.tmp 78) (.tmp 86) 22 rfl w.heap.size 5 i0 _ 1 1 Tryz.underlying22 hi hz0 hz1 hz2 rfl (by decide) (.slice Ab2 lb2 cb2) lb2 ((body S ++ (places S).flatMap two).map bv) rfl (HOb.out.alloc _) (wr.heap.size + 1) (some ⟨wr.heap.size, 0, none⟩) 2 2 [.int .u8 0, .int .u8 (k2 : Int)] rfl (lits_lie rfl _ _) (by intro u hu; simp at hu; rcases hu with rfl | rfl <;> rfl) (by unfold maxLen; omega) (by omega) (by simp; omega) ?_)
          intro v2 w2 hown2 hg2 _
          obtain ⟨A2, c2, rfl, _⟩ := own_shape hown2
          have hownA := HOb.out.alloc (w := wr) (.cells #[.int .u8 0, .int .u8 (k2 : Int)] 5)
          have hbA2 := HBw.out.trans (((Below.refl _ wr).alloc (Nat.le_refl _) (.cells #[.int .u8 0, .int .u8 (k2 : Int)] 5)).mono HBw.out.size)
          have HBw3 := Lib.hid (hbA2.grown hg2 hbA2.size (fun j hj => (hownA.lt j hj).1))
          have HF : Hid (w2.ownsRow w.heap.size 5 1 (.slice A2 (lb2 + 2) c2) (lb2 + 2) ((encB S).map bv)) := by
            unfold Hid
            rw [HEn.out, List.map_append, HT.out]
            have := hown2
            simp only [List.map_append, List.append_assoc] at this ⊢
            exact this
          have hlen := own_blen HF.out
          rw [← hlen] at HF ⊢
          clear hownA hbA2 HOb HOo HBw hown2 hg2 e1 e1' e2 hlen
          go_wp2
          go_ret2
          exact ⟨_, _, rfl, HF.out, HBw3.out⟩

theorem rbput_no (S : List En) (hok : okB S = false) (A : Option Addr) (n c B : Nat) (w : World) (hL : EL w B A n c S) :
    Calls Tryz.prog 23 #[.slice A n c] w fun e w' => e = .returned (.tuple #[.slice none 0 0, .int .i64 1]) ∧ Below w.heap.size w w' := by
  have HM := Lib.hid (rmay_any S A n c B w hL)
  rw [hok] at HM
  clear hL hok
  go_enter Tryz.func23, Tryz.ntmps23
  go_wp2_with fail
  refine HM.out.mono ?_
  rintro e w1 ⟨rfl, hb1⟩
  have HB1 := Lib.hid hb1
  clear hb1 HM
  go_wp2
  go_ret2
  exact ⟨rfl, HB1.out⟩
/-- the document's Put answers what Put answers -/
theorem rbp_any (S : List En) (hsq : ∀ e ∈ S, e.m.s < 18446744073709551616) (A : Option Addr) (n c B : Nat) (w : World) (hL : EL w B A n c S) :
    Calls Tryz.prog 23 #[.slice A n c] w (BPut w S) := by
  cases h : okB S with
  | false => exact (rbput_no S h A n c B w hL).mono fun e w' ⟨he, hb⟩ => ⟨hb, (fun q => by rw [h] at q; cases q), fun _ => he⟩
  | true => exact (rbput_any S h hsq A n c B w hL).mono fun e w' ⟨A', c', he, ho, hb⟩ => ⟨hb, (fun _ => ⟨A', c', he, ho⟩), fun q => by rw [h] at q; cases q⟩
end Go.Proofs.YtbbimfbkllellaaGreatDoor
