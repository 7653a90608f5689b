/-
  The walk of BloomsPut.
-/
import Derived.Test.YtjnmckchicmmgaaGreatDoorBkIT
import Derived.Test.YtjnmckchicmmgaaGreatDoorRefBP
import Derived.Test.YtjnmckchicmmgaaGreatDoorTwinT
import Derived.Test.YtjnmckchicmmgaaGreatDoorSame
import Derived.Test.YtjnmckchicmmgaaGreatDoorLaw9T
namespace Go.Proofs.YtjnmckchicmmgaaGreatDoor
open Go.RowKit
set_option linter.unusedVariables false
set_option maxRecDepth 100000

theorem own_lessT {w : World} {base e n c g : Nat} {xs us : List Value} (h : w.ownsRow base e 1 (.slice (some ⟨g, 0, none⟩) (n + 1) c) (n + 1) (xs ++ us)) (hl : xs.length = n) : w.ownsRow base e 1 (.slice (some ⟨g, 0, none⟩) n c) n xs := by
  refine ⟨by rw [hl, Nat.mul_one], ?_⟩
  rcases h.2 with ⟨h0, _⟩ | ⟨g', cap, cur, hv, hb, hh, h1, h2, h3, h4⟩
  · cases h0
  · injection hv with e1 e2 e3
    injection e1 with e1
    injection e1 with e1
    subst e1 e3
    refine .inr ⟨g, c, cur, rfl, hb, hh, by omega, h2, h3, ?_⟩
    have h5 : cur.toList.take (n * 1) = (cur.toList.take ((n + 1) * 1)).take (n * 1) := by rw [List.take_take]; congr 1; omega
    rw [h5, h4, List.take_append_of_le_length (by omega), List.take_of_length_le (by omega)]
section
variable {w w' : World} {base g n : Nat} {lb le : List BL} {vb ve : Value}
/-- a row of another type is not written by Texts, by Bytes -/
theorem KeptBT.offT (h : KeptBT w base g n lb le vb ve) {e : TypeId} (h1 : 43 ≠ e) (h2 : 67 ≠ e) : Off w e (fun i => i = g ∨ ve.ownBlock = some i) := fun i hi => by
  rcases hi with rfl | hi
  · exact ⟨_, h1, ⟨_, _, h.book⟩⟩
  · exact ⟨_, h2, ty_own h.ownE hi⟩
theorem KeptBT.offB (h : KeptBT w base g n lb le vb ve) {e : TypeId} (h1 : 43 ≠ e) (h2 : 69 ≠ e) : Off w e (fun i => i = g ∨ vb.ownBlock = some i) := fun i hi => by
  rcases hi with rfl | hi
  · exact ⟨_, h1, ⟨_, _, h.book⟩⟩
  · exact ⟨_, h2, ty_own h.ownB hi⟩
end

set_option maxHeartbeats 8000000 in
/-- where nothing is let go -/
theorem bloomsPut_main (A : Option Addr) (n c : Nat) (T : List ByteArray) (w : World) (y : Lies w w.heap.size 1 A n (T.map Value.string)) (z : n ≤ c) (x : c ≤ 140737488351232) (h1 : n ≤ 500) (hsum : n + (sizes T).sum ≤ 20000)
    (hts : ∀ W, Below w.heap.size w W → Calls Tryz.prog 4 #[.slice A n c] W fun e w' => ∃ v : Nat, e = .returned (.int .i64 (v : Int)) ∧ v ≤ 20000 ∧ w' = W) (ht : TabB w.heap.size w) :
    Calls Tryz.prog 3 #[.slice A n c] w fun e w' => e = .returned (.bool true) ∧ Below w.heap.size w w' := by
  have d1 : decide ((500 : Int) < (n : Int)) = false := by simp; omega
  have HTS := Lib.hid hts; have HT := Lib.hid ht; have HY := Lib.hid y
  have hTl : T.length = n := by have := y.len; simpa using this
  have HTL := Lib.hid hTl
  have HSM : Hid (∀ s ∈ T, s.size ≤ 20000) := size_few (by omega)
  clear hts ht y hTl
  obtain ⟨M, hM⟩ : ∃ M, Blm.size n + 1 = M := ⟨_, rfl⟩
  have hMl : M ≤ 2000 := by
    have h2 : Blm.size n = max ((n * 10 + 7) / 8) 8 := rfl
    omega
  have HP : Hid (∀ (A : Option Addr) (c B : Nat) (W : World), Lies W B 1 A n (T.map Value.string) → B ≤ W.heap.size → Calls Tryz.prog 6 #[.slice A n c] W fun e w' => Got W M (Blm.filt (kys T)) e w') := fun A c B W h hB => by
    rw [← hM]; exact blPut_any A n c B T W h hB (fun s hs => by have := HSM.out s hs; omega) (by omega)
  have RP : Hid (∀ (A : Option Addr) (c B : Nat) (W : World), Lies W B 1 A n (T.map Value.string) → B ≤ W.heap.size → Calls Tryz.prog 7 #[.slice A n c] W fun e w' => Got W M (Blm.filt (kys T)) e w') := fun A c B W h hB => by
    rw [← hM]; exact rbPut_any A n c B T W h hB (fun s hs => by have := HSM.out s hs; omega) (by omega)
  generalize Blm.filt (kys T) = L at *
  clear hM hsum
  go_enter Tryz.func3, Tryz.ntmps3
  go_wp2_with fail
  refine (HTS.out w (Below.refl _ _)).mono ?_
  rintro e w1 ⟨v, rfl, hv, rfl⟩
  have d3 : decide ((20000 : Int) < (v : Int)) = false := by simp; omega
  have HTw := Lib.hid (twinT_any A n c T w1 HY.out (by omega))
  clear HTS
  go_wp2_with fail
  refine HTw.out.mono ?_
  rintro e w2 ⟨gt, ct, rfl, hownT, hb2⟩
  clear HTw
  have HGT := Lib.hid (hownT.lt gt rfl)
  obtain ⟨_, _, eT, hctn, hctm, _⟩ := own_shape hownT
  injection eT with eT1 eT2 eT3
  subst eT3
  clear eT1 eT2
  have OT := Lib.hid hownT; clear hownT
  have HB := Lib.hid hb2; clear hb2
  have TL : Hid (∀ (w' : World) (B : Nat), w'.ownsRow B 9 1 (.slice (some ⟨gt, 0, none⟩) (n + 1) ct) (n + 1) ((T ++ [SPT]).map Value.string) → Lies w' w'.heap.size 1 (some ⟨gt, 0, none⟩) n (T.map Value.string)) := by
    intro w' B h
    have h2 := (Lies.of_own h).takeS (m := n) (by omega)
    rw [List.take_append_of_le_length (by rw [HTL.out]; exact Nat.le_refl _), List.take_of_length_le (by rw [HTL.out]; exact Nat.le_refl _)] at h2
    exact h2
  go_wp2_with fail
  refine (HP.out (some ⟨gt, 0, none⟩) ct _ w2 (TL.out _ _ OT.out) (Nat.le_refl _)).mono ?_
  rintro e w3 ⟨A3, c3, rfl, _, _, hown, hb⟩
  have HG3 := Lib.hid hown.lt
  have O3 := Lib.hid (own_base hown HB.out.size); clear hown
  replace HB := Lib.hid (HB.out.trans (hb.mono HB.out.size))
  replace OT := Lib.hid (own_below OT.out hb)
  have HS3 := Lib.hid hb.size
  clear hb
  go_wp2_with fail
  refine (HP.out (some ⟨gt, 0, none⟩) ct _ w3 (TL.out _ _ OT.out) (Nat.le_refl _)).mono ?_
  rintro e w4 ⟨A4, c4, rfl, _, _, hown, hb⟩
  have HG4 := Lib.hid hown.lt
  have O4 := Lib.hid (own_base hown HB.out.size); clear hown
  replace HB := Lib.hid (HB.out.trans (hb.mono HB.out.size))
  replace OT := Lib.hid (own_below OT.out hb)
  replace O3 := Lib.hid (own_below O3.out hb)
  clear hb
  go_wp2_with fail
  refine (RP.out A c w1.heap.size w4 (HY.out.below HB.out) HB.out.size).mono ?_
  rintro e w5 ⟨A5, c5, rfl, _, _, hown, hb⟩
  replace HB := Lib.hid (HB.out.trans (hb.mono HB.out.size))
  replace OT := Lib.hid (own_below OT.out hb)
  replace O3 := Lib.hid (own_below O3.out hb)
  replace O4 := Lib.hid (own_below O4.out hb)
  have O5 := Lib.hid hown
  clear hb hown
  go_wp2_with fail
  refine (same_any A3 A5 M M c3 c5 w5.heap.size L L w5 (Lies.of_own O3.out) (Lies.of_own O5.out) (by omega)).mono ?_
  rintro e w6 ⟨rfl, hq⟩
  have hb : Below w5.heap.size w5 w6 := by obtain ⟨q, rfl⟩ := hq; exact below_drewN (Below.refl _ _) q
  clear hq
  replace HB := Lib.hid (HB.out.trans (hb.mono HB.out.size))
  replace OT := Lib.hid (own_below OT.out hb)
  replace O3 := Lib.hid (own_below O3.out hb)
  replace O4 := Lib.hid (own_below O4.out hb)
  replace O5 := Lib.hid (own_below O5.out hb)
  clear hb
  rw [sameB_self]
  go_wp2_with fail
  refine (same_any A4 A5 M M c4 c5 w6.heap.size L L w6 (Lies.of_own O4.out) (Lies.of_own O5.out) (by omega)).mono ?_
  rintro e w7 ⟨rfl, hq⟩
  have hb : Below w6.heap.size w6 w7 := by obtain ⟨q, rfl⟩ := hq; exact below_drewN (Below.refl _ _) q
  clear hq
  replace HB := Lib.hid (HB.out.trans (hb.mono HB.out.size))
  replace OT := Lib.hid (own_below OT.out hb)
  replace O3 := Lib.hid (own_below O3.out hb)
  replace O4 := Lib.hid (own_below O4.out hb)
  clear hb O5
  rw [sameB_self]
  go_wp2_with fail
  refine (leftT_any A gt 0 n ct c w7.heap.size T w7 (Lies.of_own (c := ct) OT.out) (by omega) (by assumption) ((HY.out.below HB.out).more HB.out.size)).mono ?_
  rintro e w9 ⟨rfl, hq⟩
  have hb : Below w7.heap.size w7 w9 := by obtain ⟨q, rfl⟩ := hq; exact below_drewN (Below.refl _ _) q
  clear hq
  replace HB := Lib.hid (HB.out.trans (hb.mono HB.out.size))
  replace OT := Lib.hid (own_below OT.out hb)
  replace O3 := Lib.hid (own_below O3.out hb)
  replace O4 := Lib.hid (own_below O4.out hb)
  clear hb
  have hbA : Below w9.heap.size w9 (w9.alloc (.cells (cellsBT 0 nilS nilS) 43)) := (Below.refl _ _).alloc (Nat.le_refl _) _
  have BK := Lib.hid (keptBT_start (w := w9) (base := w1.heap.size) HB.out.size)
  have OT2 : Hid ((w9.alloc (.cells (cellsBT 0 nilS nilS) 43)).ownsRow w1.heap.size 9 1 (.slice (some ⟨gt, 0, none⟩) n ct) n (T.map Value.string)) := by
    have h := own_below OT.out hbA
    rw [List.map_append] at h
    exact own_lessT h (by rw [List.length_map, HTL.out])
  replace O3 := Lib.hid (own_below O3.out hbA)
  replace O4 := Lib.hid (own_below O4.out hbA)
  have HBA := Lib.hid (HB.out.trans (hbA.mono HB.out.size))
  have HE0 := Lib.hid (BK.out.texts HBA.out.size (some ⟨gt, 0, none⟩) n ct (by simp) (by omega) (by omega) ⟨_, OT2.out⟩ (fun b hb => by cases hb))
  clear hbA OT HP RP TL HB
  go_wp2_with fail
  refine HE0.out.mono ?_
  rintro e w10 ⟨rfl, ve, hK, hw, hb⟩
  replace O3 := Lib.hid ((BK.out.offT (e := 5) (by decide) (by decide)).row hw O3.out)
  replace O4 := Lib.hid ((BK.out.offT (e := 5) (by decide) (by decide)).row hw O4.out)
  have HB10 := Lib.hid (HBA.out.trans hb)
  have BK1 := Lib.hid hK
  have HE1 := Lib.hid (BK1.out.bytes HB10.out.size A3 M c3 (by simp) (by omega) (by omega) ⟨_, O3.out⟩ (fun b hb => by cases hb))
  clear BK HE0 hK hw hb HBA OT2
  go_wp2_with fail
  refine HE1.out.mono ?_
  rintro e w11 ⟨rfl, vb, hK, hw, hb⟩
  have O4b : Hid (w11.ownsRow w1.heap.size 5 1 (.slice A4 M c4) M (L.map bv)) := (BK1.out.offB (e := 5) (by decide) (by decide)).row hw O4.out
  have HB11 := Lib.hid (HB10.out.trans hb)
  have BK2 := Lib.hid hK
  have HE2 := Lib.hid (BK2.out.bytes HB11.out.size A4 M c4 (by simp) (by omega) (by omega) ⟨_, O4b.out⟩ (fun b hb => by
    simp only [List.nil_append, List.mem_singleton] at hb
    subst hb
    have h3 := HG3.out; have h4 := HG4.out
    show (Value.slice A3 M c3).ownBlock = none ∨ (Value.slice A3 M c3).ownBlock ≠ (Value.slice A4 M c4).ownBlock
    cases hv : (Value.slice A3 M c3).ownBlock with
    | none => exact .inl rfl
    | some i =>
      refine .inr fun e => ?_
      have := (h3 i hv).2
      have := (h4 i e.symm).1
      omega))
  clear BK1 HE1 hK hw hb HB10 O3 O4
  go_wp2_with fail
  refine HE2.out.mono ?_
  rintro e w12 ⟨rfl, vb2, hK, hw, hb⟩
  have HB12 := Lib.hid (HB11.out.trans hb)
  have BK3 := Lib.hid hK
  have FIN := Lib.hid (BK3.out.apart HB12.out.size (by simp) (by simp) (fun W hW => HT.out W (HB12.out.trans hW)))
  clear BK2 HE2 hK hw hb HB11 O4b HG3 HG4
  go_wp2_with fail
  refine FIN.out.mono ?_
  clear FIN
  rintro e w14 ⟨rfl, hb⟩
  have HB := Lib.hid (HB12.out.trans hb); clear hb
  go_wp2
  go_ret
  exact ⟨rfl, HB.out⟩

set_option maxHeartbeats 2000000 in
theorem bloomsPut_walk (A : Option Addr) (n c : Nat) (T : List ByteArray) (w : World) (y : Lies w w.heap.size 1 A n (T.map Value.string)) (u : ∀ s ∈ T, s.size ≤ 140737488351232) (z : n ≤ c) (x : c ≤ 140737488351232) (ht : TabB w.heap.size w) :
    Calls Tryz.prog 3 #[.slice A n c] w fun e w' => e = .returned (.bool true) ∧ Below w.heap.size w w' := by
  by_cases h1 : 500 < n
  · have d1 : decide ((500 : Int) < (n : Int)) = true := by simp; omega
    clear y u ht
    go_enter Tryz.func3, Tryz.ntmps3
    go_wp2
    go_ret
    exact ⟨rfl, Below.refl _ _⟩
  have d1 : decide ((500 : Int) < (n : Int)) = false := by simp; omega
  rcases texts_cases A n c T w y u (by omega) with hts | ⟨hsum, hts⟩
  · have HT := Lib.hid hts; clear hts y u ht
    go_enter Tryz.func3, Tryz.ntmps3
    go_wp2_with fail
    refine (HT.out w (Below.refl _ _)).mono ?_
    rintro e w1 ⟨v, rfl, hv, hv2, rfl⟩
    have d3 : decide ((20000 : Int) < (v : Int)) = true := by simp; omega
    go_wp2
    go_ret
    exact ⟨rfl, Below.refl _ _⟩
  · exact bloomsPut_main A n c T w y z x (by omega) hsum hts ht
end Go.Proofs.YtjnmckchicmmgaaGreatDoor
