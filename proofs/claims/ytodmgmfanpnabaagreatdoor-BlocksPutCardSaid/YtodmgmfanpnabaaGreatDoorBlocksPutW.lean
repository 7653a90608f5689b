/-
  The walk of BlocksPut.
-/
import Derived.Test.YtodmgmfanpnabaaGreatDoorBkGHI
import Derived.Test.YtodmgmfanpnabaaGreatDoorRef8D
import Derived.Test.YtodmgmfanpnabaaGreatDoorSame
import Derived.Test.YtodmgmfanpnabaaGreatDoorTwLf
import Derived.Test.YtodmgmfanpnabaaGreatDoorESize
namespace Go.Proofs.YtodmgmfanpnabaaGreatDoor
open Go.RowKit
set_option linter.unusedVariables false
set_option maxRecDepth 100000

/-- what Put answers, as one -/
def putB (S : List En) : List UInt8 × Nat := if okB S = true then (encB S, 0) else ([], 1)
theorem putB_len (S : List En) : (putB S).1.length ≤ 22000 := by
  unfold putB; split
  · rename_i h; exact (encB_len S h).2
  · exact Nat.zero_le _
theorem bput_res {S : List En} {w w' : World} {e : Ending} (h : BPut w S e w') {L : List UInt8} {m er : Nat} (hp : putB S = (L, er)) (hm : L.length = m) :
    ∃ A' c', e = .returned (.tuple #[.slice A' m c', .int .i64 (er : Int)]) ∧ w'.ownsRow w.heap.size 5 1 (.slice A' m c') m (L.map bv) ∧ Below w.heap.size w w' := by
  obtain ⟨hb, h1, h2⟩ := h
  subst hm
  unfold putB at hp
  cases hk : okB S with
  | true =>
    rw [if_pos hk] at hp
    injection hp with ha hb'
    subst ha hb'
    obtain ⟨A', c', he, ho⟩ := h1 hk
    exact ⟨A', c', he, ho, hb⟩
  | false =>
    rw [if_neg (by rw [hk]; decide)] at hp
    injection hp with ha hb'
    subst ha hb'
    exact ⟨none, 0, h2 hk, World.ownsRow_nil _ _ _ _, hb⟩
theorem own_lessE {w : World} {base e n c g : Nat} {xs us : List Value} (h : w.ownsRow base e 4 (.slice (some ⟨g, 0, none⟩) (n + 1) c) (n + 1) (xs ++ us)) (hl : xs.length = n * 4) : w.ownsRow base e 4 (.slice (some ⟨g, 0, none⟩) n c) n xs := by
  refine ⟨hl, ?_⟩
  rcases h.2 with ⟨h0, _⟩ | ⟨g', cap, cur, hv, hb, hh, h1, h2, h3, h4⟩
  · cases h0
  · injection hv with e1 e2 e3
    injection e1 with e1
    injection e1 with e1
    subst e1 e3
    refine .inr ⟨g, c, cur, rfl, hb, hh, by omega, h2, h3, ?_⟩
    have h5 : cur.toList.take (n * 4) = (cur.toList.take ((n + 1) * 4)).take (n * 4) := by rw [List.take_take]; congr 1; omega
    rw [h5, h4, List.take_append_of_le_length (by omega), List.take_of_length_le (by omega)]
section
variable {w w' : World} {base g n : Nat} {lb le : List BL} {vb ve : Value}
/-- a row of another type is not written by Entries, by Bytes -/
theorem KeptBE.offE (h : KeptBE w base g n lb le vb ve) {e : TypeId} (h1 : 53 ≠ e) (h2 : 202 ≠ e) : Off w e (fun i => i = g ∨ ve.ownBlock = some i) := fun i hi => by
  rcases hi with rfl | hi
  · exact ⟨_, h1, ⟨_, _, h.book⟩⟩
  · exact ⟨_, h2, ty_own h.ownE hi⟩
theorem KeptBE.offB (h : KeptBE w base g n lb le vb ve) {e : TypeId} (h1 : 53 ≠ e) (h2 : 173 ≠ e) : Off w e (fun i => i = g ∨ vb.ownBlock = some i) := fun i hi => by
  rcases hi with rfl | hi
  · exact ⟨_, h1, ⟨_, _, h.book⟩⟩
  · exact ⟨_, h2, ty_own h.ownB hi⟩
end

set_option maxHeartbeats 8000000 in
theorem blocksPut_walk (A : Option Addr) (n c : Nat) (l : List En) (w : World) (hl : Lies w w.heap.size 4 A n (ecs l)) (hu : ∀ x ∈ l, x.m.s < 18446744073709551616 ∧ x.m.k.size ≤ 140737488351232 ∧ x.x.size ≤ 140737488351232) (hn : l.length = n) (hnc : n ≤ c) (hc : c ≤ 140737488351232) (ht : TabB w.heap.size w) :
    Calls Tryz.prog 4 #[.slice A n c] w fun e w' => e = .returned (.bool true) ∧ Below w.heap.size w w' := by
  have HEL : Hid (EL w w.heap.size A n c l) := ⟨hl, Nat.le_refl _, hnc, by unfold maxLen; omega, fun e he => (hu e he).2⟩
  have HSQ : Hid (∀ e ∈ l, e.m.s < 18446744073709551616) := fun e he => (hu e he).1
  have HZ := Lib.hid (entriesSize_any A n c l w hl hu (by omega))
  have HT := Lib.hid ht
  have HN := Lib.hid hn
  clear hl hu hnc hn ht
  go_enter Tryz.func4, Tryz.ntmps4
  go_wp2_with fail
  refine HZ.out.mono ?_
  rintro e w1 ⟨z, q, rfl, rfl, hz⟩
  have HB0 := Lib.hid (below_drewN (Below.refl w.heap.size w) q)
  have HZ1 := Lib.hid hz
  clear hz HZ
  generalize w.drewN q = w1 at *
  by_cases hbig : 40000 < z
  · have d1 : (40000 : Int) < (z : Int) := by omega
    go_wp2
    go_ret
    exact ⟨rfl, HB0.out⟩
  have d1 : ¬ (40000 : Int) < (z : Int) := by omega
  have hnz : n ≤ 40000 := by have := HZ1.out (by omega); omega
  have HEL1 := Lib.hid (HEL.out.below HB0.out)
  rcases hp : putB l with ⟨L, er⟩
  obtain ⟨m, hm⟩ : ∃ m, L.length = m := ⟨_, rfl⟩
  have hml : m ≤ 22000 := by have h := putB_len l; rw [hp] at h; rw [← hm]; exact h
  have HX : Hid (∀ (A : Option Addr) (c B : Nat) (w : World), EL w B A n c l → Calls Tryz.prog 32 #[.slice A n c] w fun e w' => ∃ A' c', e = .returned (.tuple #[.slice A' m c', .int .i64 (er : Int)]) ∧ w'.ownsRow w.heap.size 5 1 (.slice A' m c') m (L.map bv) ∧ Below w.heap.size w w') :=
    fun A c B w h => (bput_any l HSQ.out A n c B w h).mono fun e w' h => bput_res h hp hm
  have RX : Hid (∀ (A : Option Addr) (c B : Nat) (w : World), EL w B A n c l → Calls Tryz.prog 33 #[.slice A n c] w fun e w' => ∃ A' c', e = .returned (.tuple #[.slice A' m c', .int .i64 (er : Int)]) ∧ w'.ownsRow w.heap.size 5 1 (.slice A' m c') m (L.map bv) ∧ Below w.heap.size w w') :=
    fun A c B w h => (rbp_any l HSQ.out A n c B w h).mono fun e w' h => bput_res h hp hm
  have HTw := Lib.hid (twinE_any A n c l w1 (HEL1.out.lies.more HB0.out.size) (by omega))
  have hee : ((er : Int) != (er : Int)) = false := by simp
  clear hp hm hbig
  go_wp2_with fail
  refine HTw.out.mono ?_
  rintro e w2 ⟨gt, ct, rfl, hownT, hb2⟩
  clear HTw
  have HGT := Lib.hid (hownT.lt gt rfl)
  obtain ⟨_, _, eT, hctn, hctm, _⟩ := own_shape hownT
  injection eT with eT1 eT2 eT3
  subst eT3
  clear eT1 eT2
  have OT := Lib.hid (own_base hownT HB0.out.size); clear hownT
  have HB := Lib.hid (HB0.out.trans (hb2.mono HB0.out.size)); clear hb2 HB0
  have TL : Hid (∀ (w' : World) (B : Nat), w'.ownsRow B 130 4 (.slice (some ⟨gt, 0, none⟩) (n + 1) ct) (n + 1) (ecs (l ++ [spareE])) → EL w' w'.heap.size (some ⟨gt, 0, none⟩) n ct l) := by
    intro w' B h
    have h2 := (Lies.of_own h).takeE (m := n) (by omega)
    rw [ecs_take, List.take_append_of_le_length (by rw [HN.out]; exact Nat.le_refl _), List.take_of_length_le (by rw [HN.out]; exact Nat.le_refl _)] at h2
    exact ⟨h2, Nat.le_refl _, by omega, hctm, HEL.out.sz⟩
  go_wp2_with fail
  refine (HX.out (some ⟨gt, 0, none⟩) ct _ w2 (TL.out _ _ OT.out)).mono ?_
  rintro e w3 ⟨A3, c3, rfl, hown, hb⟩
  have HG3 := Lib.hid hown.lt
  have HS3 := Lib.hid hb.size
  have O3 := Lib.hid (own_base hown HB.out.size); clear hown
  replace HB := Lib.hid (HB.out.trans (hb.mono HB.out.size))
  replace OT := Lib.hid (own_below OT.out hb)
  clear hb
  go_wp2_with fail
  refine (HX.out (some ⟨gt, 0, none⟩) ct _ w3 (TL.out _ _ OT.out)).mono ?_
  rintro e w4 ⟨A4, c4, rfl, hown, hb⟩
  have HG4 := Lib.hid hown.lt
  have O4 := Lib.hid (own_base hown HB.out.size); clear hown
  replace HB := Lib.hid (HB.out.trans (hb.mono HB.out.size))
  replace OT := Lib.hid (own_below OT.out hb)
  replace O3 := Lib.hid (own_below O3.out hb)
  clear hb
  go_wp2_with fail
  refine (RX.out A c w.heap.size w4 (HEL.out.below HB.out)).mono ?_
  rintro e w5 ⟨A5, c5, rfl, hown, hb⟩
  replace HB := Lib.hid (HB.out.trans (hb.mono HB.out.size))
  replace OT := Lib.hid (own_below OT.out hb)
  replace O3 := Lib.hid (own_below O3.out hb)
  replace O4 := Lib.hid (own_below O4.out hb)
  have O5 := Lib.hid hown
  clear hb hown
  go_wp2_with fail
  refine (same_any A3 A5 m m c3 c5 w5.heap.size L L w5 (Lies.of_own O3.out) (Lies.of_own O5.out) (by omega)).mono ?_
  rintro e w6 ⟨rfl, hq⟩
  have hb : Below w5.heap.size w5 w6 := by obtain ⟨q, rfl⟩ := hq; exact below_drewN (Below.refl _ _) q
  clear hq
  replace HB := Lib.hid (HB.out.trans (hb.mono HB.out.size))
  replace OT := Lib.hid (own_below OT.out hb)
  replace O3 := Lib.hid (own_below O3.out hb)
  replace O4 := Lib.hid (own_below O4.out hb)
  replace O5 := Lib.hid (own_below O5.out hb)
  clear hb
  rw [sameB_self]
  go_wp2_with fail
  refine (same_any A4 A5 m m c4 c5 w6.heap.size L L w6 (Lies.of_own O4.out) (Lies.of_own O5.out) (by omega)).mono ?_
  rintro e w7 ⟨rfl, hq⟩
  have hb : Below w6.heap.size w6 w7 := by obtain ⟨q, rfl⟩ := hq; exact below_drewN (Below.refl _ _) q
  clear hq
  replace HB := Lib.hid (HB.out.trans (hb.mono HB.out.size))
  replace OT := Lib.hid (own_below OT.out hb)
  replace O3 := Lib.hid (own_below O3.out hb)
  replace O4 := Lib.hid (own_below O4.out hb)
  clear hb O5
  rw [sameB_self]
  go_wp2_with fail
  refine (leftE_any A gt 0 n ct c w7.heap.size l w7 (Lies.of_own (c := ct) OT.out) (by omega) (by assumption) ((HEL.out.below HB.out).lies.more HB.out.size)).mono ?_
  rintro e w9 ⟨rfl, hb⟩
  replace HB := Lib.hid (HB.out.trans (hb.mono HB.out.size))
  replace OT := Lib.hid (own_below OT.out hb)
  replace O3 := Lib.hid (own_below O3.out hb)
  replace O4 := Lib.hid (own_below O4.out hb)
  clear hb
  have hbA : Below w9.heap.size w9 (w9.alloc (.cells (cellsBE 0 nilS nilS) 53)) := (Below.refl _ _).alloc (Nat.le_refl _) _
  have BK := Lib.hid (keptBE_start (w := w9) (base := w.heap.size) HB.out.size)
  have hlE : (ecs l).length = n * 4 := by rw [ecs_len, HN.out]
  have OT2 : Hid ((w9.alloc (.cells (cellsBE 0 nilS nilS) 53)).ownsRow w.heap.size 130 4 (.slice (some ⟨gt, 0, none⟩) n ct) n (ecs l)) := by
    have h := own_below OT.out hbA
    rw [ecs_app] at h
    exact own_lessE h hlE
  replace O3 := Lib.hid (own_below O3.out hbA)
  replace O4 := Lib.hid (own_below O4.out hbA)
  have HBA := Lib.hid (HB.out.trans (hbA.mono HB.out.size))
  have HE0 := Lib.hid (BK.out.entries HBA.out.size (some ⟨gt, 0, none⟩) n ct (by simp) (by omega) (by omega) ⟨_, OT2.out⟩ (fun b hb => by cases hb))
  clear hbA OT HX RX TL HB hlE
  go_wp2_with fail
  refine HE0.out.mono ?_
  rintro e w10 ⟨rfl, ve, hK, hw, hb⟩
  replace O3 := Lib.hid ((BK.out.offE (e := 5) (by decide) (by decide)).row hw O3.out)
  replace O4 := Lib.hid ((BK.out.offE (e := 5) (by decide) (by decide)).row hw O4.out)
  have HB10 := Lib.hid (HBA.out.trans hb)
  have BK1 := Lib.hid hK
  have HE1 := Lib.hid (BK1.out.bytes HB10.out.size A3 m c3 (by simp) (by omega) (by omega) ⟨_, O3.out⟩ (fun b hb => by cases hb))
  clear BK HE0 hK hw hb HBA OT2
  go_wp2_with fail
  refine HE1.out.mono ?_
  rintro e w11 ⟨rfl, vb, hK, hw, hb⟩
  have O4b : Hid (w11.ownsRow w.heap.size 5 1 (.slice A4 m c4) m (L.map bv)) := (BK1.out.offB (e := 5) (by decide) (by decide)).row hw O4.out
  have HB11 := Lib.hid (HB10.out.trans hb)
  have BK2 := Lib.hid hK
  have HE2 := Lib.hid (BK2.out.bytes HB11.out.size A4 m c4 (by simp) (by omega) (by omega) ⟨_, O4b.out⟩ (fun b hb => by
    simp only [List.nil_append, List.mem_singleton] at hb
    subst hb
    have h3 := HG3.out; have h4 := HG4.out
    show (Value.slice A3 m c3).ownBlock = none ∨ (Value.slice A3 m c3).ownBlock ≠ (Value.slice A4 m c4).ownBlock
    cases hv : (Value.slice A3 m c3).ownBlock with
    | none => exact .inl rfl
    | some i =>
      refine .inr fun e => ?_
      have := (h3 i hv).2
      have := (h4 i e.symm).1
      omega))
  clear BK1 HE1 hK hw hb HB10 O3 O4
  go_wp2_with fail
  refine HE2.out.mono ?_
  rintro e w12 ⟨rfl, vb2, hK, hw, hb⟩
  have HB12 := Lib.hid (HB11.out.trans hb)
  have BK3 := Lib.hid hK
  have FIN := Lib.hid (BK3.out.apart HB12.out.size (by simp) (by simp) (fun W hW => HT.out W (HB12.out.trans hW)))
  clear BK2 HE2 hK hw hb HB11 O4b HG3 HG4
  go_wp2_with fail
  refine FIN.out.mono ?_
  clear FIN
  rintro e w14 ⟨rfl, hb⟩
  have HB := Lib.hid (HB12.out.trans hb); clear hb
  go_wp2
  go_ret
  exact ⟨rfl, HB.out⟩
end Go.Proofs.YtodmgmfanpnabaaGreatDoor
