/-
  The walk of BlocksGet.
-/
import Derived.Test.YtbbimfbkllellaaGreatDoorBkHIQ
import Derived.Test.YtbbimfbkllellaaGreatDoorRef8X
import Derived.Test.YtbbimfbkllellaaGreatDoorBkPQ
import Derived.Test.YtbbimfbkllellaaGreatDoorTwH
import Derived.Test.YtbbimfbkllellaaGreatDoorSameE
namespace Go.Proofs.YtbbimfbkllellaaGreatDoor
open Go.RowKit
set_option linter.unusedVariables false
set_option maxRecDepth 100000

/-- a part of a row that is a part, from a place on -/
theorem ownP_from {w : World} {base n c k : Nat} {e : TypeId} {A : Option Addr} {xs : List Value} (h : OwnP w base e 4 (.slice A n c) n xs) (hk : k ≤ n) : OwnP w base e 4 (.slice (cutE A c k) (n - k) (c - k)) (n - k) (xs.drop (k * 4)) := by
  have hl := h.1
  rcases h.2 with ⟨h0, h1⟩ | ⟨g, o, cap, cur, hv, hb, hh, h1, h2, h3, h4⟩
  · injection h0 with e1 e2 e3
    subst e1 e2 e3
    obtain rfl : k = 0 := by omega
    refine ⟨by simp at hl; subst hl; simp, .inl ⟨by simp [cutE], by omega⟩⟩
  · injection hv with e1 e2 e3
    subst e1 e3
    unfold cutE
    by_cases hc : c = k
    · rw [if_pos hc]
      refine ownP_mk (by rw [List.length_drop]; omega) hb hh (by omega) (by omega) (by omega) fun i hi => by omega
    · rw [if_neg hc]
      show OwnP w base e 4 (.slice (some ((⟨g, o, none⟩ : Addr).add (k * 4))) (n - k) (c - k)) (n - k) (xs.drop (k * 4))
      rw [add_lit]
      refine ownP_mk (by rw [List.length_drop]; omega) hb hh (by omega) (by omega) (by omega) fun i hi => ?_
      rw [List.getElem?_drop, Nat.add_assoc]
      exact h4 _ (by omega)
theorem own_lessQ {w : World} {base e n c g : Nat} {xs us : List Value} (h : w.ownsRow base e 1 (.slice (some ⟨g, 0, none⟩) (n + 1) c) (n + 1) (xs ++ us)) (hl : xs.length = n) : w.ownsRow base e 1 (.slice (some ⟨g, 0, none⟩) n c) n xs := by
  refine ⟨by rw [hl, Nat.mul_one], ?_⟩
  rcases h.2 with ⟨h0, _⟩ | ⟨g', cap, cur, hv, hb, hh, h1, h2, h3, h4⟩
  · cases h0
  · injection hv with e1 e2 e3
    injection e1 with e1
    injection e1 with e1
    subst e1 e3
    refine .inr ⟨g, c, cur, rfl, hb, hh, by omega, h2, h3, ?_⟩
    have h5 : cur.toList.take (n * 1) = (cur.toList.take ((n + 1) * 1)).take (n * 1) := by rw [List.take_take]; congr 1; omega
    rw [h5, h4, List.take_append_of_le_length (by omega), List.take_of_length_le (by omega)]
section
variable {w w' : World} {base g n : Nat} {lb le : List BL} {vb ve : Value}
/-- a row of another type is not written by Entries, by Bytes -/
theorem KeptBQ.offE (h : KeptBQ w base g n lb le vb ve) {e : TypeId} (h1 : 48 ≠ e) (h2 : 90 ≠ e) : Off w e (fun i => i = g ∨ ve.ownBlock = some i) := fun i hi => by
  rcases hi with rfl | hi
  · exact ⟨_, h1, ⟨_, _, h.book⟩⟩
  · exact ⟨_, h2, ty_own h.ownE hi⟩
theorem KeptBQ.offB (h : KeptBQ w base g n lb le vb ve) {e : TypeId} (h1 : 48 ≠ e) (h2 : 88 ≠ e) : Off w e (fun i => i = g ∨ vb.ownBlock = some i) := fun i hi => by
  rcases hi with rfl | hi
  · exact ⟨_, h1, ⟨_, _, h.book⟩⟩
  · exact ⟨_, h2, ty_own h.ownB hi⟩
end
/-- what the four of them answer, said as one -/
def Ans8 (X Y : List En) (er : Nat) (w : World) (e : Ending) (w' : World) : Prop :=
  ∃ A c, e = .returned (.tuple #[.slice A X.length c, .int .i64 (er : Int)]) ∧ OwnP w' w.heap.size 59 4 (.slice A X.length c) X.length (ecs X) ∧ Below w.heap.size w w'
theorem answers8 (o : Option (List En)) (m : Mk) (ho : ∀ S, o = some S → Rise S ∧ S.length ≤ 64) : ∃ (X Y : List En) (er : Nat), X.length ≤ 64 ∧ Y.length ≤ 64 ∧ (∀ w e w', BGet w o e w' → Ans8 X X er w e w') ∧ (∀ w e w', BSeek w o m e w' → Ans8 Y Y er w e w') ∧ (∀ w e w', RSk8 w o m e w' → Ans8 Y Y er w e w') := by
  cases o with
  | none =>
    refine ⟨[], [], 4, by simp, by simp, ?_, ?_, ?_⟩
    · rintro w e w' ⟨hb, _, h⟩
      exact ⟨none, 0, h rfl, ⟨rfl, .inl ⟨rfl, rfl⟩⟩, hb⟩
    · rintro w e w' ⟨hb, _, h⟩
      exact ⟨none, 0, h rfl, ⟨rfl, .inl ⟨rfl, rfl⟩⟩, hb⟩
    · rintro w e w' ⟨hb, _, h⟩
      exact ⟨none, 0, h rfl, ⟨rfl, .inl ⟨rfl, rfl⟩⟩, hb⟩
  | some S =>
    obtain ⟨hr, h64⟩ := ho S rfl
    refine ⟨S, notB m S, 0, h64, Nat.le_trans (notB_le m S) h64, ?_, ?_, ?_⟩
    · rintro w e w' ⟨hb, h, _⟩
      obtain ⟨A, c, he, hown, _⟩ := h S rfl
      exact ⟨A, c, he, own_p hown, hb⟩
    · rintro w e w' ⟨hb, h, _⟩
      obtain ⟨A, c, k, he, hk, hd, hown, _⟩ := h S rfl
      have hp := ownP_from (own_p hown) hk
      rw [ecs_drop, hd, ← notB_from hr] at hp
      have hl : S.length - k = (notB m S).length := by rw [notB_from hr, ← hd, List.length_drop]
      rw [hl] at he hp
      exact ⟨_, _, he, hp, hb⟩
    · rintro w e w' ⟨hb, h, _⟩
      obtain ⟨A, c, he, hown⟩ := h S rfl
      exact ⟨A, c, he, own_p hown, hb⟩

set_option maxHeartbeats 8000000 in
/-- where nothing is let go -/
theorem blocksGet_main (A : Option Addr) (n c : Nat) (l : List UInt8) (m : Mk) (w : World) (h : Lies w w.heap.size 1 A n (l.map bv)) (hnc : n ≤ c) (hc : c ≤ 140737488351232) (hn : n ≤ 40000) (hm : m.k.size ≤ 1000) (ht : TabB w.heap.size w) :
    Calls Tryz.prog 3 #[.slice A n c, m.v] w fun e w' => e = .returned (.bool true) ∧ Below w.heap.size w w' := by
  obtain ⟨b0, b1, b2, hB, hz⟩ := mkW_facts w m
  have HW : Hid (w.alloc (.cells #[.string m.k, .int .u64 (m.s : Int), .bool m.g] 25) = mkW w m) := rfl
  have hx0 : MkAt (mkW w m) w.heap.size m := heap_alloc_new w _
  obtain ⟨W1, hW⟩ : ∃ W1, mkW w m = W1 := ⟨_, rfl⟩
  rw [hW] at b0 b1 b2 hB hz HW hx0
  have HX := Lib.hid hx0; have HB := Lib.hid hB; have HT := Lib.hid ht
  have HL := Lib.hid ((h.below hB).more hB.size)
  have hln := h.blen
  obtain ⟨o, ho⟩ : ∃ o, getB l = o := ⟨_, rfl⟩
  obtain ⟨X, Y, er, hX64, hY64, f1, f2, f3⟩ := answers8 o m (fun S e => by
    obtain ⟨_, h1, _, h2⟩ := (okB_iff S).1 (getB_some (ho.trans e)).1
    exact ⟨h2, h1⟩)
  have HG : Hid (∀ (A : Option Addr) (c : Nat) (W : World), Lies W W.heap.size 1 A n (l.map bv) → n ≤ c → c ≤ maxLen → Calls Tryz.prog 5 #[.slice A n c] W (Ans8 X X er W)) :=
    fun A c W h1 h2 h3 => (bget_any A n c l W h1 h2 h3 (by omega)).mono fun e w' q => f1 _ _ _ (by rw [ho] at q; exact q)
  have HS : Hid (∀ (A : Option Addr) (c : Nat) (W : World), Lies W W.heap.size 1 A n (l.map bv) → n ≤ c → c ≤ maxLen → Calls Tryz.prog 6 #[.slice A n c, m.v] W (Ans8 Y Y er W)) :=
    fun A c W h1 h2 h3 => (bseek_any A n c l m W h1 h2 h3 (by omega)).mono fun e w' q => f2 _ _ _ (by rw [ho] at q; exact q)
  have RG : Hid (∀ (W : World), Lies W W.heap.size 1 A n (l.map bv) → Calls Tryz.prog 7 #[.slice A n c] W (Ans8 X X er W)) :=
    fun W h1 => (rget8_any A n c l W h1 hnc hc (by omega)).mono fun e w' q => f1 _ _ _ (by rw [ho] at q; exact q)
  have RS : Hid (∀ (W : World), Lies W W.heap.size 1 A n (l.map bv) → Calls Tryz.prog 8 #[.slice A n c, m.v] W (Ans8 Y Y er W)) :=
    fun W h1 => (rseek8_any A n c l m W h1 hnc hc (by omega) (by omega)).mono fun e w' q => f3 _ _ _ (by rw [ho] at q; exact q)
  have HTw := Lib.hid (twin_any A n c l W1 HL.out (by omega))
  have hee : ((er : Int) != (er : Int)) = false := by simp
  have d1 : ¬ (40000 : Int) < (n : Int) := by omega
  have d2 : decide ((40000 : Int) < (n : Int)) = false := by simp; omega
  have d3 : decide ((1000 : Int) < (m.k.size : Int)) = false := by simp; omega
  have d4 : ¬ (1000 : Int) < (m.k.size : Int) := by omega
  unfold Mk.v at HS RS ⊢
  clear hB hz hx0 hW h ho f1 f2 f3 ht
  go_enter Tryz.func3, Tryz.ntmps3
  go_wp2_with fail
  rw [HW.out]
  clear HW
  refine HTw.out.mono ?_
  rintro e w2 ⟨gt, ct, rfl, hownT, hb2⟩
  clear HTw
  have HGT := Lib.hid (hownT.lt gt rfl)
  obtain ⟨_, _, eT, hctn, hctm, _⟩ := own_shape hownT
  injection eT with eT1 eT2 eT3
  subst eT3
  clear eT1 eT2 b0 b1 b2
  have OT := Lib.hid hownT; clear hownT
  have HC := Lib.hid hb2; clear hb2
  have TL : Hid (∀ (w' : World) (B : Nat), w'.ownsRow B 5 1 (.slice (some ⟨gt, 0, none⟩) (n + 1) ct) (n + 1) ((l ++ [77]).map bv) → Lies w' w'.heap.size 1 (some ⟨gt, 0, none⟩) n (l.map bv)) := by
    intro w' B h
    have h2 := lies_take (Lies.of_own h) (m := n) (by omega)
    rw [List.take_append_of_le_length (by omega), List.take_of_length_le (by omega)] at h2
    exact h2
  go_wp2_with fail
  refine (HG.out (some ⟨gt, 0, none⟩) ct w2 (TL.out _ _ OT.out) (by omega) hctm).mono ?_
  rintro e w3 ⟨A3, c3, rfl, hown, hb⟩
  have HG3 := Lib.hid hown.lt
  have HS3 := Lib.hid hb.size
  have O3 := Lib.hid (ownP_base hown HC.out.size); clear hown
  replace HC := Lib.hid (HC.out.trans (hb.mono HC.out.size))
  replace OT := Lib.hid (own_below OT.out hb)
  clear hb HG
  obtain ⟨m0, m1, m2⟩ := (HX.out.below HC.out HX.out.lt).cell
  go_wp2_with fail
  clear m0 m1 m2
  refine (HS.out (some ⟨gt, 0, none⟩) ct w3 (TL.out _ _ OT.out) (by omega) hctm).mono ?_
  rintro e w4 ⟨A4, c4, rfl, hown, hb⟩
  have HG4 := Lib.hid hown.lt
  have O4 := Lib.hid (ownP_base hown HC.out.size); clear hown
  replace HC := Lib.hid (HC.out.trans (hb.mono HC.out.size))
  replace OT := Lib.hid (own_below OT.out hb)
  replace O3 := Lib.hid (ownP_below O3.out hb)
  clear hb HS
  go_wp2_with fail
  refine (RG.out w4 ((HL.out.below HC.out).more HC.out.size)).mono ?_
  rintro e w5 ⟨A5, c5, rfl, hown, hb⟩
  have O5 := Lib.hid hown; clear hown
  replace HC := Lib.hid (HC.out.trans (hb.mono HC.out.size))
  replace OT := Lib.hid (own_below OT.out hb)
  replace O3 := Lib.hid (ownP_below O3.out hb)
  replace O4 := Lib.hid (ownP_below O4.out hb)
  clear hb RG
  obtain ⟨m0, m1, m2⟩ := (HX.out.below HC.out HX.out.lt).cell
  go_wp2_with fail
  clear m0 m1 m2
  refine (RS.out w5 ((HL.out.below HC.out).more HC.out.size)).mono ?_
  rintro e w6 ⟨A6, c6, rfl, hown, hb⟩
  have O6 := Lib.hid hown; clear hown
  replace HC := Lib.hid (HC.out.trans (hb.mono HC.out.size))
  replace OT := Lib.hid (own_below OT.out hb)
  replace O3 := Lib.hid (ownP_below O3.out hb)
  replace O4 := Lib.hid (ownP_below O4.out hb)
  replace O5 := Lib.hid (ownP_below O5.out hb)
  clear hb RS
  go_wp2_with fail
  refine (sameE_yes (Lies.of_ownP O3.out) (Lies.of_ownP O5.out) (by omega)).mono ?_
  rintro e w7 ⟨rfl, hb⟩
  replace HC := Lib.hid (HC.out.trans (hb.mono HC.out.size))
  replace OT := Lib.hid (own_below OT.out hb)
  replace O3 := Lib.hid (ownP_below O3.out hb)
  replace O4 := Lib.hid (ownP_below O4.out hb)
  replace O6 := Lib.hid (ownP_below O6.out hb)
  clear hb O5
  go_wp2_with fail
  refine (sameE_yes (Lies.of_ownP O4.out) (Lies.of_ownP O6.out) (by omega)).mono ?_
  rintro e w8 ⟨rfl, hb⟩
  replace HC := Lib.hid (HC.out.trans (hb.mono HC.out.size))
  replace OT := Lib.hid (own_below OT.out hb)
  replace O3 := Lib.hid (ownP_below O3.out hb)
  replace O4 := Lib.hid (ownP_below O4.out hb)
  clear hb O6
  go_wp2_with fail
  refine (left_any A gt 0 n ct c w8.heap.size l w8 (Lies.of_own OT.out) (by omega) hctm ((HL.out.below HC.out).more HC.out.size)).mono ?_
  rintro e w9 ⟨rfl, hq⟩
  have hb : Below w8.heap.size w8 w9 := by obtain ⟨q, rfl⟩ := hq; exact below_drewN (Below.refl _ _) q
  clear hq
  replace HC := Lib.hid (HC.out.trans (hb.mono HC.out.size))
  replace OT := Lib.hid (own_below OT.out hb)
  replace O3 := Lib.hid (ownP_below O3.out hb)
  replace O4 := Lib.hid (ownP_below O4.out hb)
  clear hb
  have hbA : Below w9.heap.size w9 (w9.alloc (.cells (cellsBQ 0 nilS nilS) 48)) := (Below.refl _ _).alloc (Nat.le_refl _) _
  have BK := Lib.hid (keptBQ_start (w := w9) (base := W1.heap.size) HC.out.size)
  have hlL : (l.map bv).length = n := by rw [List.length_map]; exact hln
  have OT2 : Hid ((w9.alloc (.cells (cellsBQ 0 nilS nilS) 48)).ownsRow W1.heap.size 5 1 (.slice (some ⟨gt, 0, none⟩) n ct) n (l.map bv)) := by
    have h := own_below OT.out hbA
    rw [List.map_append] at h
    exact own_lessQ h hlL
  replace O3 := Lib.hid (ownP_below O3.out hbA)
  replace O4 := Lib.hid (ownP_below O4.out hbA)
  have HBA := Lib.hid (HC.out.trans (hbA.mono HC.out.size))
  have HE0 := Lib.hid (BK.out.bytes HBA.out.size (some ⟨gt, 0, none⟩) n ct (by simp) (by omega) (by omega) ⟨_, OT2.out⟩ (fun b hb => by cases hb))
  clear hbA OT TL HC hlL
  go_wp2_with fail
  refine HE0.out.mono ?_
  rintro e w10 ⟨rfl, vb, hK, hw, hb⟩
  replace O3 := Lib.hid ((BK.out.offB (e := 59) (by decide) (by decide)).rowP hw O3.out)
  replace O4 := Lib.hid ((BK.out.offB (e := 59) (by decide) (by decide)).rowP hw O4.out)
  have HB10 := Lib.hid (HBA.out.trans hb)
  have BK1 := Lib.hid hK
  have HE1 := Lib.hid (BK1.out.entries HB10.out.size A3 X.length c3 (by simp) (by omega) (by omega) ⟨_, O3.out⟩ (fun b hb => by cases hb))
  clear BK HE0 hK hw hb HBA OT2
  go_wp2_with fail
  refine HE1.out.mono ?_
  rintro e w11 ⟨rfl, ve, hK, hw, hb⟩
  have O4b := Lib.hid ((BK1.out.offE (e := 59) (by decide) (by decide)).rowP hw O4.out)
  have HB11 := Lib.hid (HB10.out.trans hb)
  have BK2 := Lib.hid hK
  have HE2 := Lib.hid (BK2.out.entries HB11.out.size A4 Y.length c4 (by simp) (by omega) (by omega) ⟨_, O4b.out⟩ (fun b hb => by
    simp only [List.nil_append, List.mem_singleton] at hb
    subst hb
    have h3 := HG3.out; have h4 := HG4.out
    show (Value.slice A3 X.length c3).ownBlock = none ∨ (Value.slice A3 X.length c3).ownBlock ≠ (Value.slice A4 Y.length c4).ownBlock
    cases hv : (Value.slice A3 X.length c3).ownBlock with
    | none => exact .inl rfl
    | some i =>
      refine .inr fun e => ?_
      have := (h3 i hv).2
      have := (h4 i e.symm).1
      omega))
  clear BK1 HE1 hK hw hb HB10 O3 O4
  go_wp2_with fail
  refine HE2.out.mono ?_
  rintro e w12 ⟨rfl, ve2, hK, hw, hb⟩
  have HB12 := Lib.hid (HB11.out.trans hb)
  have BK3 := Lib.hid hK
  have FIN := Lib.hid (BK3.out.apart HB12.out.size (by simp) (by simp) (fun W hW => HT.out W (HB.out.trans ((HB12.out.trans hW).mono HB.out.size))))
  clear BK2 HE2 hK hw hb HB11 O4b HG3 HG4
  go_wp2_with fail
  refine FIN.out.mono ?_
  clear FIN
  rintro e w14 ⟨rfl, hb⟩
  have HF := Lib.hid (HB.out.trans ((HB12.out.trans hb).mono HB.out.size)); clear hb
  go_wp2
  go_ret
  exact ⟨rfl, HF.out⟩

set_option maxHeartbeats 2000000 in
theorem blocksGet_walk (A : Option Addr) (n c : Nat) (l : List UInt8) (m : Mk) (w : World) (h : Lies w w.heap.size 1 A n (l.map bv)) (hnc : n ≤ c) (hc : c ≤ 140737488351232) (hm1 : m.s < 18446744073709551616) (hm2 : m.k.size ≤ 140737488351232) (ht : TabB w.heap.size w) :
    Calls Tryz.prog 3 #[.slice A n c, m.v] w fun e w' => e = .returned (.bool true) ∧ Below w.heap.size w w' := by
  by_cases hn : n ≤ 40000
  · by_cases hm : m.k.size ≤ 1000
    · exact blocksGet_main A n c l m w h hnc hc hn hm ht
    · obtain ⟨b0, b1, b2, hB, hz⟩ := mkW_facts w m
      have HW : Hid (w.alloc (.cells #[.string m.k, .int .u64 (m.s : Int), .bool m.g] 25) = mkW w m) := rfl
      have HB := Lib.hid hB
      have d2 : decide ((40000 : Int) < (n : Int)) = false := by simp; omega
      have d3 : decide ((1000 : Int) < (m.k.size : Int)) = true := by simp; omega
      have d4 : (1000 : Int) < (m.k.size : Int) := by omega
      have d1 : ¬ (40000 : Int) < (n : Int) := by omega
      obtain ⟨W1, hW⟩ : ∃ W1, mkW w m = W1 := ⟨_, rfl⟩
      rw [hW] at b0 b1 b2 HW HB
      unfold Mk.v
      clear hB hz h ht hW
      go_enter Tryz.func3, Tryz.ntmps3
      go_upto_region 1 with fail
      rw [HW.out]
      clear HW
      go_wp2
      go_ret
      exact ⟨rfl, HB.out⟩
  · have d1 : (40000 : Int) < (n : Int) := by omega
    have d2 : decide ((40000 : Int) < (n : Int)) = true := by simp; omega
    have hB := (mkW_facts w m).2.2.2.1
    have HB : Hid (Below w.heap.size w (w.alloc (.cells #[.string m.k, .int .u64 (m.s : Int), .bool m.g] 25))) := hB
    unfold Mk.v
    clear hB h ht
    go_enter Tryz.func3, Tryz.ntmps3
    go_wp2
    go_ret
    exact ⟨rfl, HB.out⟩
end Go.Proofs.YtbbimfbkllellaaGreatDoor
