/-
  The walk of BloomsJoin.
-/
import Derived.Test.YtjnmckchicmmgaaLaw9
import Derived.Test.YtjnmckchicmmgaaMore
import Derived.Test.YtjnmckchicmmgaaApp9
import Derived.Test.YtjnmckchicmmgaaPairs
import Derived.Deep.RegionLaw
namespace Go.Proofs.Ytjnmckchicmmgaa
open Go.RowKit
set_option linter.unusedVariables false
set_option maxRecDepth 100000

def fsts (P : List (ByteArray × ByteArray)) : List ByteArray := P.map Prod.fst
def snds (P : List (ByteArray × ByteArray)) : List ByteArray := P.map Prod.snd
theorem fsts_len (P : List (ByteArray × ByteArray)) : (fsts P).length = P.length := by simp [fsts]
theorem snds_len (P : List (ByteArray × ByteArray)) : (snds P).length = P.length := by simp [snds]
theorem dis_symm {a b : Option Nat} (h : a = none ∨ a ≠ b) : b = none ∨ b ≠ a := by
  rcases h with h | h
  · subst h; cases b <;> simp
  · exact .inr (Ne.symm h)
def psz (P : List (ByteArray × ByteArray)) : Nat := (P.map fun p => p.1.size + p.2.size).sum
theorem psz_snoc (P : List (ByteArray × ByteArray)) (k : Nat) (p : ByteArray × ByteArray) (h : P[k]? = some p) : psz (P.take (k + 1)) = psz (P.take k) + p.1.size + p.2.size := by
  unfold psz; rw [List.take_add_one, h]; simp; omega
theorem psz_le (P : List (ByteArray × ByteArray)) (hu : ∀ p ∈ P, p.1.size ≤ 140737488351232 ∧ p.2.size ≤ 140737488351232) : psz P ≤ P.length * 281474976702464 := by
  induction P with
  | nil => exact Nat.zero_le _
  | cons p P ih =>
    have h1 := hu p List.mem_cons_self
    have h2 := ih (fun q hq => hu q (List.mem_cons_of_mem _ hq))
    have h3 : psz (p :: P) = p.1.size + p.2.size + psz P := by simp [psz]
    rw [h3, List.length_cons, Nat.succ_mul]; omega
theorem psz_mem (P : List (ByteArray × ByteArray)) (p : ByteArray × ByteArray) (h : p ∈ P) : p.1.size + p.2.size ≤ psz P := by
  induction P with
  | nil => cases h
  | cons q P ih =>
    have h3 : psz (q :: P) = q.1.size + q.2.size + psz P := by simp [psz]
    rw [h3]
    rcases List.mem_cons.1 h with rfl | h
    · omega
    · have := ih h; omega
/-- what the loop that parts the pairs keeps -/
def JRel (w : World) (n : Nat) (P : List (ByteArray × ByteArray)) (va vb vs i : Value) (wr : World) : Prop :=
  ∃ (k s : Nat) (Aa Ab : Option Addr) (ca cb : Nat), k ≤ n ∧ i = .int .i64 (k : Int) ∧ vs = .int .i64 (s : Int) ∧ Hid (s = psz (P.take k)) ∧ va = .slice Aa k ca ∧ vb = .slice Ab k cb ∧
    wr.ownsRow w.heap.size 9 1 (.slice Aa k ca) k ((fsts (P.take k)).map Value.string) ∧ wr.ownsRow w.heap.size 9 1 (.slice Ab k cb) k ((snds (P.take k)).map Value.string) ∧
    ((Value.slice Aa k ca).ownBlock = none ∨ (Value.slice Aa k ca).ownBlock ≠ (Value.slice Ab k cb).ownBlock) ∧ Below w.heap.size w wr

set_option maxHeartbeats 8000000 in
/-- where nothing is let go at first -/
theorem bloomsJoin_main (A : Option Addr) (n c : Nat) (P : List (ByteArray × ByteArray)) (w : World) (y : Pairs w w.heap.size A n P) (u : ∀ p ∈ P, p.1.size ≤ 140737488351232 ∧ p.2.size ≤ 140737488351232) (z : n ≤ c) (x : c ≤ 140737488351232) (h1 : n ≤ 200) :
    Calls Try.prog 7 #[.slice A n c] w fun e w' => e = .returned (.bool true) ∧ Below w.heap.size w w' := by
  have d1 : decide ((200 : Int) < (n : Int)) = false := by simp; omega
  have HY := Lib.hid y; have HU := Lib.hid u
  have HPL := Lib.hid y.len
  clear y u
  go_enter Try.func7, Try.ntmps7
  go_wp2_with fail
  refine (alive9_any w).mono ?_
  rintro e w1 ⟨rfl, hb1⟩
  have R0 : Hid (JRel w n P (.slice none 0 0) (.slice none 0 0) (.int .i64 0) (.int .i64 0) w1) :=
    ⟨0, 0, none, none, 0, 0, Nat.zero_le _, rfl, rfl, rfl, rfl, rfl, World.ownsRow_nil _ _ _ _, World.ownsRow_nil _ _ _ _, .inl rfl, hb1⟩
  clear hb1
  go_wp2
  go_loopw [3, 4, 5, 6] (fun va vb vs i wr => JRel w n P va vb vs i wr) (fun _ _ _ i _ => n - (intOf i).toNat)
  case atStart => exact R0.out
  case round =>
    clear R0
    obtain ⟨k, s, Aa, Ab, ca, cb, hk, rfl, rfl, hs, rfl, rfl, hoa, hob, hdis, hb⟩ := hrel
    have HSE := Lib.hid hs.out; clear hs
    have HOA := Lib.hid hoa; have HOB := Lib.hid hob; have HDIS := Lib.hid hdis; have HB := Lib.hid hb
    have hsl : s ≤ 56294995340492800 := by
      rw [HSE.out]
      have h1 := psz_le (P.take k) (fun p hp => HU.out p (List.mem_of_mem_take hp))
      have h2 : (P.take k).length ≤ 200 := by rw [List.length_take]; omega
      have h3 : (P.take k).length * 281474976702464 ≤ 200 * 281474976702464 := Nat.mul_le_mul_right _ h2
      omega
    clear hoa hob hdis hb
    by_cases hlt : k < n
    · obtain ⟨p, hp⟩ : ∃ p, P[k]? = some p := ⟨_, List.getElem?_eq_getElem (by have := HPL.out; omega)⟩
      obtain ⟨b, o, rfl, hbB, c0, c1⟩ := HY.out.spot k p hp
      obtain ⟨hp1, hp2⟩ := HU.out p (List.mem_of_getElem? hp)
      have HC : Hid (∀ W, Below w.heap.size w W → W.cell? ⟨b, o + k * 2, none⟩ = some (.string p.1) ∧ W.cell? ⟨b, o + k * 2 + 1, none⟩ = some (.string p.2)) := fun W h => ⟨(h.cell (p := ⟨b, o + k * 2, none⟩) hbB).trans c0, (h.cell (p := ⟨b, o + k * 2 + 1, none⟩) hbB).trans c1⟩
      have HSN : Hid (psz (P.take (k + 1)) = s + p.1.size + p.2.size) := by rw [Hid, psz_snoc P k p hp, ← HSE.out]
      have HTA : Hid (fsts (P.take (k + 1)) = fsts (P.take k) ++ [p.1]) := by rw [Hid, List.take_add_one, hp]; simp [fsts]
      have HTB : Hid (snds (P.take (k + 1)) = snds (P.take k) ++ [p.2]) := by rw [Hid, List.take_add_one, hp]; simp [snds]
      obtain ⟨e0, e1⟩ := HC.out wr HB.out
      clear hp c0 c1
      go_wp2_with (at_builtin; refine wpList_appP _ (by rfl) (.tmp 25) (.tmp 31) rfl w.heap.size k 1 1 ca (wr.heap.size + 1) Aa (some ⟨wr.heap.size, 0, none⟩) (fsts (P.take k)) [p.1] rfl rfl (HOA.out.alloc _) (one_lies rfl _ _) (by omega) (by have := HB.out.size; simp; omega) ?_)
      intro A1 c1' wa haa hga hat
      have hza : (wr.alloc (.cells #[.string p.1] 9)).heap.size = wr.heap.size + 1 := World.size_alloc _ _
      have hba : Below w.heap.size w (wr.alloc (.cells #[.string p.1] 9)) := HB.out.alloc HB.out.size _
      have HBA := Lib.hid (hba.trans haa.below)
      have hoa1 : wa.ownsRow w.heap.size 9 1 (.slice A1 (k + 1) c1') (k + 1) ((fsts (P.take (k + 1))).map Value.string) := by rw [HTA.out]; exact haa.own
      have hob0 := (HOB.out.alloc (.cells #[.string p.1] 9))
      have hob1 := hob0.kept hga (dis_symm HDIS.out)
      have hd1 : (Value.slice A1 (k + 1) c1').ownBlock = none ∨ (Value.slice A1 (k + 1) c1').ownBlock ≠ (Value.slice Ab k cb).ownBlock := by
        rcases hat with h | h
        · rw [h]; exact HDIS.out
        · rw [h]
          refine .inr fun e => ?_
          have := (HOB.out.lt _ e.symm).2
          omega
      have HOA1 := Lib.hid hoa1; have HOB1 := Lib.hid hob1; have HD1 := Lib.hid hd1
      obtain ⟨e0', e1'⟩ := HC.out wa HBA.out
      clear hza hba hoa1 hob0 hob1 hd1 haa hga hat e0 e1 HOA HOB HDIS
      go_wp2_with (at_builtin; refine wpList_appP _ (by rfl) (.tmp 33) (.tmp 39) rfl w.heap.size k 1 1 cb (wa.heap.size + 1) Ab (some ⟨wa.heap.size, 0, none⟩) (snds (P.take k)) [p.2] rfl rfl (HOB1.out.alloc _) (one_lies rfl _ _) (by omega) (by have := HBA.out.size; simp; omega) ?_)
      intro A2 c2' wb hbb hgb hbt
      have hzb : (wa.alloc (.cells #[.string p.2] 9)).heap.size = wa.heap.size + 1 := World.size_alloc _ _
      have hbb2 : Below w.heap.size w (wa.alloc (.cells #[.string p.2] 9)) := HBA.out.alloc HBA.out.size _
      have HBB := Lib.hid (hbb2.trans hbb.below)
      have hob2 : wb.ownsRow w.heap.size 9 1 (.slice A2 (k + 1) c2') (k + 1) ((snds (P.take (k + 1))).map Value.string) := by rw [HTB.out]; exact hbb.own
      have hoa2 := (HOA1.out.alloc (.cells #[.string p.2] 9)).kept hgb HD1.out
      have hd2 : (Value.slice A1 (k + 1) c1').ownBlock = none ∨ (Value.slice A1 (k + 1) c1').ownBlock ≠ (Value.slice A2 (k + 1) c2').ownBlock := by
        rcases hbt with h | h
        · rw [h]; exact HD1.out
        · rw [h]
          cases hv : (Value.slice A1 (k + 1) c1').ownBlock with
          | none => exact .inl rfl
          | some j =>
            refine .inr fun e => ?_
            have := (HOA1.out.lt _ hv).2
            injection e with e
            omega
      obtain ⟨s1, hs1⟩ : ∃ s1, s + p.1.size = s1 := ⟨_, rfl⟩
      obtain ⟨s2, hs2⟩ : ∃ s2, s1 + p.2.size = s2 := ⟨_, rfl⟩
      have HS2 : Hid (s2 = psz (P.take (k + 1))) := by rw [Hid, HSN.out, hs1, hs2]
      have R : Hid (∀ q, JRel w n P (.slice A1 (k + 1) c1') (.slice A2 (k + 1) c2') (.int .i64 (s2 : Int)) (.int .i64 ((k : Int) + 1)) (wb.drewN q)) := fun q =>
        ⟨k + 1, s2, A1, A2, c1', c2', hlt, by simp, rfl, HS2, rfl, rfl, own_below hoa2 (below_drewN (Below.refl _ _) q), own_below hob2 (below_drewN (Below.refl _ _) q), hd2, below_drewN HBB.out q⟩
      obtain ⟨e0, e1⟩ := HC.out wb HBB.out
      have g1 : IntKind.i64.wrap ((s : Int) + (p.1.size : Int)) = (s1 : Int) := by rw [IntWalk.i64_in _ (by omega)]; omega
      have g2 : IntKind.i64.wrap ((s1 : Int) + (p.2.size : Int)) = (s2 : Int) := by rw [IntWalk.i64_in _ (by omega)]; omega
      have i1 : (k : Int) < (n : Int) := by omega
      have i2 : (0 : Int) ≤ (k : Int) := by omega
      clear hzb hbb2 hob2 hoa2 hd2 hbb hgb hbt e0' e1' HOA1 HOB1 HD1 hs1 hs2
      go_wp2
      go_quiet (fail)
      clear g1 g2 e0 e1
      go_wp2
      go_roundw
      case rel => exact R.out _
      case measure => simp [intOf]; omega
    · obtain rfl : k = n := by omega
      have hfull : P.take k = P := List.take_of_length_le (by have := HPL.out; omega)
      rw [hfull] at HSE HOA HOB
      clear hfull HDIS
      by_cases hbig : 20000 < s
      · have d2 : decide ((20000 : Int) < (s : Int)) = true := by simp; omega
        go_wp2
        go_ret
        exact ⟨rfl, HB.out⟩
      have d2 : decide ((20000 : Int) < (s : Int)) = false := by simp; omega
      have HMA : Hid (∀ t ∈ fsts P, t.size ≤ 1099511627776) := fun t ht => by
        obtain ⟨p, hp, rfl⟩ := List.mem_map.1 ht
        have h1 := psz_mem P p hp
        have h2 := HSE.out
        omega
      have HMB : Hid (∀ t ∈ snds P, t.size ≤ 1099511627776) := fun t ht => by
        obtain ⟨p, hp, rfl⟩ := List.mem_map.1 ht
        have h1 := psz_mem P p hp
        have h2 := HSE.out
        omega
      obtain ⟨M, hM⟩ : ∃ M, Blm.size k + 1 = M := ⟨_, rfl⟩
      have hMl : 9 ≤ M ∧ M ≤ 1000 := by
        have h1 := Blm.size_pos k
        have h2 : Blm.size k = max ((k * 10 + 7) / 8) 8 := rfl
        omega
      have HP := Lib.hid (put9_any k M hM Aa ca _ (fsts P) wr (Lies.of_own HOA.out) (Nat.le_refl _) HMA.out (by omega))
      have HMM := Lib.hid hM
      clear hM
      go_wp2_with fail
      refine HP.out.mono ?_
      rintro e w2 ⟨A2, c2, rfl, hc2, hm2, ho2, hb2⟩
      have HB2 := Lib.hid hb2
      have HP2 := Lib.hid (put9_any k M HMM.out Ab cb _ (snds P) w2 (Lies.of_own (own_below HOB.out hb2)) (Nat.le_refl _) HMB.out (by omega))
      have HO2 := Lib.hid ho2
      clear hb2 ho2 HP
      go_wp2_with fail
      refine HP2.out.mono ?_
      rintro e w3 ⟨A3, c3, rfl, hc3, hm3, ho3, hb3⟩
      obtain ⟨gx, rfl⟩ : ∃ gx, A2 = some ⟨gx, 0, none⟩ := by
        rcases HO2.out.2 with ⟨_, h0⟩ | ⟨g', cap, cur, hv, _⟩
        · omega
        · injection hv with h1 _ _; exact ⟨g', h1⟩
      obtain ⟨gy, rfl⟩ : ∃ gy, A3 = some ⟨gy, 0, none⟩ := by
        rcases ho3.2 with ⟨_, h0⟩ | ⟨g', cap, cur, hv, _⟩
        · omega
        · injection hv with h1 _ _; exact ⟨g', h1⟩
      have hgx := HO2.out.lt gx rfl
      have hgy := ho3.lt gy rfl
      have hgxy : gx ≠ gy := by omega
      have hxl : (Blm.filt (kys (fsts P))).length = M := by
        have := HO2.out.1; simp at this; exact this
      have hyl : (Blm.filt (kys (snds P))).length = M := by
        have := ho3.1; simp at this; exact this
      have HXL := Lib.hid hxl; have HYL := Lib.hid hyl
      have HKL : Hid ((kys (fsts P)).length = (kys (snds P)).length) := by rw [Hid, List.length_map, List.length_map, fsts_len, snds_len]
      have HMAY : Hid (∀ xb, OrRel (Blm.filt (kys (fsts P))) (Blm.filt (kys (snds P))) M xb → ∀ t : ByteArray, (t ∈ fsts P ∨ t ∈ snds P) → Blm.may xb t.data.toList = (true, 0)) := fun xb h t ht => by
        rw [← hxl] at h
        exact or_may HKL.out h (ht.imp (fun h => List.mem_map.2 ⟨t, h, rfl⟩) (fun h => List.mem_map.2 ⟨t, h, rfl⟩))
      have R1 : Hid (∃ (j : Nat) (xb : List UInt8), j ≤ M ∧ (Value.int .i64 0) = .int .i64 (j : Int) ∧ OrRel (Blm.filt (kys (fsts P))) (Blm.filt (kys (snds P))) j xb ∧ w3.ownsRow wr.heap.size 5 1 (.slice (some ⟨gx, 0, none⟩) M c2) M (xb.map bv) ∧ w3.ownsRow w2.heap.size 5 1 (.slice (some ⟨gy, 0, none⟩) M c3) M ((Blm.filt (kys (snds P))).map bv) ∧ Below wr.heap.size wr w3) :=
        ⟨0, _, Nat.zero_le _, rfl, OrRel.start _ _, own_below HO2.out hb3, ho3, HB2.out.trans (hb3.mono HB2.out.size)⟩
      have hmm : ((M : Int) != (M : Int)) = false := by simp
      unfold maxLen at hm2 hm3
      clear hxl hyl hb3 ho3 HP2 HKL HO2
      generalize Blm.filt (kys (fsts P)) = xa at *
      generalize Blm.filt (kys (snds P)) = ya at *
      obtain ⟨wp, rfl⟩ : ∃ wp : World, wp = wr := ⟨_, rfl⟩
      go_wp2
      go_loopw [9] (fun i wr => ∃ (j : Nat) (xb : List UInt8), j ≤ M ∧ i = .int .i64 (j : Int) ∧ OrRel xa ya j xb ∧ wr.ownsRow wp.heap.size 5 1 (.slice (some ⟨gx, 0, none⟩) M c2) M (xb.map bv) ∧ wr.ownsRow w2.heap.size 5 1 (.slice (some ⟨gy, 0, none⟩) M c3) M (ya.map bv) ∧ Below wp.heap.size wp wr) (fun i _ => M - (intOf i).toNat)
      case atStart => exact R1.out
      case round =>
        clear R1
        obtain ⟨j, xb, hj, rfl, hor, hox, hoy, hb⟩ := hrel
        have HOR := Lib.hid hor; have HOX := Lib.hid hox; have HOY := Lib.hid hoy; have HB3 := Lib.hid hb
        clear hor hox hoy hb
        by_cases hlt2 : j < M
        · obtain ⟨xv, hxv⟩ : ∃ v, xa[j]? = some v := ⟨_, List.getElem?_eq_getElem (by have := HXL.out; omega)⟩
          obtain ⟨yv, hyv⟩ : ∃ v, ya[j]? = some v := ⟨_, List.getElem?_eq_getElem (by have := HYL.out; omega)⟩
          have hxb := HOR.out.2 j xv yv hxv hyv
          rw [if_neg (Nat.lt_irrefl _)] at hxb
          have hcx : wr.cell? ⟨gx, j, none⟩ = some (.int .u8 (xv.toNat : Int)) := by rw [HOX.out.cellAt j (by omega), List.getElem?_map, hxb]; rfl
          have hcy : wr.cell? ⟨gy, j, none⟩ = some (.int .u8 (yv.toNat : Int)) := by rw [HOY.out.cellAt j (by omega), List.getElem?_map, hyv]; rfl
          have hfx := HOX.out.frozenAt j
          have hxl := xv.toNat_lt
          have hyl := yv.toNat_lt
          have hbor := u8_or_nat xv.toNat yv.toNat hxl hyl
          have hlt8 := or_byte xv yv
          have hst := HOX.out.stored j (.int .u8 ((xv.toNat ||| yv.toNat : Nat) : Int))
          have e : (xb.map bv).set j (.int .u8 ((xv.toNat ||| yv.toNat : Nat) : Int)) = (xb.set j (UInt8.ofNat (xv.toNat ||| yv.toNat))).map bv := by
            rw [List.map_set, bv_ofNat _ hlt8]
          rw [e] at hst
          have hoy2 := HOY.out.kept hst.2 (.inr (by intro e; injection e with e; exact hgxy e.symm))
          have R : Hid (∃ (j' : Nat) (xb : List UInt8), j' ≤ M ∧ (Value.int .i64 ((j : Int) + 1)) = .int .i64 (j' : Int) ∧ OrRel xa ya j' xb ∧ (wr.setCell ⟨gx, j, none⟩ (.int .u8 ((xv.toNat ||| yv.toNat : Nat) : Int))).drew.ownsRow wp.heap.size 5 1 (.slice (some ⟨gx, 0, none⟩) M c2) M (xb.map bv) ∧ (wr.setCell ⟨gx, j, none⟩ (.int .u8 ((xv.toNat ||| yv.toNat : Nat) : Int))).drew.ownsRow w2.heap.size 5 1 (.slice (some ⟨gy, 0, none⟩) M c3) M (ya.map bv) ∧ Below wp.heap.size wp (wr.setCell ⟨gx, j, none⟩ (.int .u8 ((xv.toNat ||| yv.toNat : Nat) : Int))).drew) :=
            ⟨j + 1, _, hlt2, by simp, HOR.out.step hxv hyv, hst.1, hoy2, (HB3.out.setCell (p := ⟨gx, j, none⟩) hgx.1 _).drew⟩
          clear hst e hoy2 hxv hyv hxb
          generalize xv.toNat = xn at *
          generalize yv.toNat = yn at *
          generalize xn ||| yn = zn at *
          have i3 : (j : Int) < (M : Int) := by omega
          have i4 : (0 : Int) ≤ (j : Int) := by omega
          go_wp2
          go_region_law (fail)
          all_goals (
            clear hcx hcy hfx hbor
            go_wp2
            go_roundw
            case rel => exact R.out
            case measure => simp [intOf]; omega)
        · obtain rfl : j = M := by omega
          have HW4 := Lib.hid (HB.out.trans (HB3.out.mono HB.out.size))
          have HLX := Lib.hid (Lies.of_own HOX.out)
          have HLA := Lib.hid ((Lies.of_own HOA.out).below HB3.out)
          have HLB := Lib.hid ((Lies.of_own HOB.out).below HB3.out)
          have HSZ : Hid (wp.heap.size ≤ wr.heap.size) := HB3.out.size
          obtain ⟨wq, rfl⟩ : ∃ wq : World, wq = wr := ⟨_, rfl⟩
          have R2 : Hid (∃ i : Nat, i ≤ k ∧ (Value.int .i64 0) = .int .i64 (i : Int) ∧ Below wq.heap.size wq wq) := ⟨0, Nat.zero_le _, rfl, Below.refl _ _⟩
          go_wp2
          go_loopw [10] (fun i wr => ∃ i' : Nat, i' ≤ k ∧ i = .int .i64 (i' : Int) ∧ Below wq.heap.size wq wr) (fun i _ => k - (intOf i).toNat)
          case atStart => exact R2.out
          case round =>
            clear R2
            obtain ⟨i, hi, rfl, hb⟩ := hrel
            have HBQ := Lib.hid hb; clear hb
            by_cases hik : i < k
            · obtain ⟨ba, oa, ta, rfl, hba, hta, hca⟩ := HLA.out.str hik
              obtain ⟨bb, ob, tb, rfl, hbb, htb, hcb⟩ := HLB.out.str hik
              have ka : wr.cell? ⟨ba, oa + i, none⟩ = some (.string ta) := (HBQ.out.cell (p := ⟨ba, oa + i, none⟩) (Nat.lt_of_lt_of_le hba HSZ.out)).trans hca
              have HKB : Hid (∀ W, Below wr.heap.size wr W → W.cell? ⟨bb, ob + i, none⟩ = some (.string tb)) := fun W h => ((HBQ.out.trans (h.mono HBQ.out.size)).cell (p := ⟨bb, ob + i, none⟩) (Nat.lt_of_lt_of_le hbb HSZ.out)).trans hcb
              have hma := may9_any (some ⟨gx, 0, none⟩) j c2 _ xb ta wr (HLX.out.below HBQ.out) HBQ.out.size hc2 (by omega) (HMA.out _ (List.mem_of_getElem? hta))
              rw [HMAY.out xb HOR.out ta (.inl (List.mem_of_getElem? hta))] at hma
              have HM1 := Lib.hid hma
              have HM2 : Hid (∀ W, Below wr.heap.size wr W → Calls Try.prog 15 #[.slice (some ⟨gx, 0, none⟩) j c2, .string tb] W fun e w' => e = .returned (.bool true) ∧ Below W.heap.size W w') := fun W h => by
                have hw := HBQ.out.trans (h.mono HBQ.out.size)
                have h2 := may9_any (some ⟨gx, 0, none⟩) j c2 _ xb tb W (HLX.out.below hw) hw.size hc2 (by omega) (HMB.out _ (List.mem_of_getElem? htb))
                rw [HMAY.out xb HOR.out tb (.inr (List.mem_of_getElem? htb))] at h2
                exact h2
              clear hma hta htb hca hcb
              go_wp2_with fail
              refine HM1.out.mono ?_
              rintro e w5 ⟨rfl, hb5⟩
              have kb := HKB.out w5 hb5
              have HB5 := Lib.hid hb5; clear hb5
              go_wp2_with fail
              refine (HM2.out w5 HB5.out).mono ?_
              rintro e w6 ⟨rfl, hb6⟩
              have R : Hid (∃ i' : Nat, i' ≤ k ∧ (Value.int .i64 ((i : Int) + 1)) = .int .i64 (i' : Int) ∧ Below wq.heap.size wq w6) := ⟨i + 1, hik, by simp, HBQ.out.trans ((HB5.out.trans (hb6.mono HB5.out.size)).mono HBQ.out.size)⟩
              clear hb6 HM1 HM2 ka kb HKB
              go_wp2
              go_roundw
              case rel => exact R.out
              case measure => simp [intOf]; omega
            · obtain rfl : i = k := by omega
              have RF := Lib.hid (HW4.out.trans (HBQ.out.mono HW4.out.size))
              go_wp2
              go_ret
              exact ⟨rfl, RF.out⟩

theorem bloomsJoin_walk (A : Option Addr) (n c : Nat) (P : List (ByteArray × ByteArray)) (w : World) (y : Pairs w w.heap.size A n P) (u : ∀ p ∈ P, p.1.size ≤ 140737488351232 ∧ p.2.size ≤ 140737488351232) (z : n ≤ c) (x : c ≤ 140737488351232) :
    Calls Try.prog 7 #[.slice A n c] w fun e w' => e = .returned (.bool true) ∧ Below w.heap.size w w' := by
  by_cases h1 : 200 < n
  · have d1 : decide ((200 : Int) < (n : Int)) = true := by simp; omega
    clear y u
    go_enter Try.func7, Try.ntmps7
    go_wp2_with fail
    refine (alive9_any w).mono ?_
    rintro e w1 ⟨rfl, hb1⟩
    have HB1 := Lib.hid hb1; clear hb1
    go_wp2_with fail
    refine (alive9_any w1).mono ?_
    rintro e w2 ⟨rfl, hb2⟩
    have HB2 := Lib.hid (HB1.out.trans (hb2.mono HB1.out.size)); clear hb2
    go_wp2
    go_ret
    exact ⟨rfl, HB2.out⟩
  · exact bloomsJoin_main A n c P w y u z x (by omega)
end Go.Proofs.Ytjnmckchicmmgaa
