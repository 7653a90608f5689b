/-
  Contracts of package blocks: the function that encoded has visit call, walked.
-/
import Derived.Test.YtghfhojpnbpjoaaBkCD
import Derived.StillTailTactics
namespace Go.Proofs.Ytghfhojpnbpjoaa
open Go.RowKit
set_option linter.unusedVariables false
set_option maxRecDepth 100000

/-- what the last part reads -/
abbrev EncS (g h p : Nat) (vb : Value) (q : ByteArray) (x : En) (w : World) : Prop :=
  w.cell? ⟨g, 0, none⟩ = some vb ∧ w.cell? ⟨p, 0, none⟩ = some (.string q) ∧ w.cell? ⟨h, 0, none⟩ = some (.string x.m.k) ∧ w.cell? ⟨h, 1, none⟩ = some (.int .u64 (x.m.s : Int)) ∧ w.cell? ⟨h, 2, none⟩ = some (.bool x.m.g) ∧ w.cell? ⟨h, 3, none⟩ = some (.string x.x)
theorem EncS.below {g h p : Nat} {vb : Value} {q : ByteArray} {x : En} {w w' : World} (H : EncS g h p vb q x w) (hb : Below w.heap.size w w') : EncS g h p vb q x w' := by
  have up : ∀ {a v}, w.cell? a = some v → w'.cell? a = some v := fun {a v} h => (hb.cell (World.block_lt_of_cell? w _ h)).trans h
  exact ⟨up H.1, up H.2.1, up H.2.2.1, up H.2.2.2.1, up H.2.2.2.2.1, up H.2.2.2.2.2⟩

theorem enat_grown {w w' : World} {base e k n g : Nat} {v : Value} {xs : List Value} {x : En} (h : EnAt w g x) (ho : w.ownsRow base e k v n xs) (hne : e ≠ 40) (hg : w.grownBy w' v.ownBlock) : EnAt w' g x := by
  refine (hg.block g (Array.getElem?_eq_some_iff.1 h).1 ?_).trans h
  rcases ho.2 with ⟨rfl, _⟩ | ⟨g', cap', cur', rfl, _, hh', _⟩
  · simp [Value.ownBlock]
  · intro he
    have : g = g' := by simpa [Value.ownBlock] using he
    subst this
    unfold EnAt at h
    rw [h] at hh'
    injection hh' with hh'
    injection hh' with _ hh'
    exact hne hh'.symm
theorem enat_set {w : World} {g : Nat} {x : En} (h : EnAt w g x) {p : Addr} (hp : g ≠ p.block) (u : Value) : EnAt (w.setCell p u) g x := (Below.heap_setCell w p u g hp).trans h

set_option maxHeartbeats 4000000 in
theorem enc1_any (S : List En) (k : Nat) (x : En) (hx : S[k]? = some x) (hok : okB S = true) (hsq : ∀ e ∈ S, e.m.s < 18446744073709551616) (w0 : World) (A : Option Addr) (n c B : Nat) (W : World) (hR : EncR w0 B A n c S k W) :
    Calls Try.prog 58 #[.int .i64 (k : Int), x.v, .pointer (some ⟨w0.heap.size + 1, 0, none⟩), .pointer (some ⟨w0.heap.size, 0, none⟩), .pointer (some ⟨w0.heap.size + 2, 0, none⟩)] W fun e W' => e = .returned (.bool true) ∧ EncR w0 B A n c S (k + 1) W' := by
  obtain ⟨i0, hi, hz0, hz1, hz2⟩ := info_parts byte_info
  obtain ⟨i1, hi1, hy0, hy1, hy2⟩ := info_parts int_info
  obtain ⟨q1, q2, q3, q4⟩ := (okB_iff S).1 hok
  have hxm := List.mem_of_getElem? hx
  have hxf := fine_size (q3 x hxm)
  have hk64 : k < 64 := by have := (List.getElem?_eq_some_iff.1 hx).1; omega
  have hbl : (body (S.take k)).length ≤ 21056 := by
    have h1 := bodyG_len (S.take k) 0 ByteArray.empty (fun e he => q3 e ((List.take_sublist k S).mem he))
    have h2 : (S.take k).length ≤ 64 := by rw [List.length_take]; omega
    unfold body; omega
  have hpl : (places (S.take k)).length ≤ 17 := by
    have h1 := places_len (S.take k)
    have h2 : (S.take k).length ≤ 64 := by rw [List.length_take]; omega
    omega
  have hlast : (lastK ByteArray.empty (S.take k)).size ≤ 32 := by
    cases k with
    | zero => simp [lastK]
    | succ j =>
      obtain ⟨y, hy⟩ : ∃ y, S[j]? = some y := ⟨S[j]'(by have := (List.getElem?_eq_some_iff.1 hx).1; omega), List.getElem?_eq_getElem _⟩
      rw [last_snoc hy]
      exact (fine_size (q3 y (List.mem_of_getElem? hy))).2.1
  have hpre : (preK k (lastK ByteArray.empty (S.take k))).size ≤ 32 := by
    unfold preK; split
    · simp
    · exact hlast
  have hxs := hsq x hxm
  obtain ⟨b0, b1, b2, b3, hB, hz⟩ := enW_facts W x
  obtain ⟨W1, hW⟩ : ∃ W1, enW W x = W1 := ⟨_, rfl⟩
  rw [hW] at b0 b1 b2 b3 hB hz
  have HW : Hid (W.alloc (.cells #[.string x.m.k, .int .u64 (x.m.s : Int), .bool x.m.g, .string x.x] 40) = W1) := hW
  have hR1 := hR.up hB
  have hh0 : w0.heap.size + 2 < W.heap.size := hR.p.lt
  have HX := Lib.hid hx
  have HRow : Hid (∀ W', Calls Try.prog 59 #[x.v, .string (preK k (lastK ByteArray.empty (S.take k)))] W' fun e w' => PutAns W' (rowE (preK k (lastK ByteArray.empty (S.take k))) x) e w') := fun W' => row_any x _ W' hxf.2.1 hxf.2.2 hpre hxs
  have hrl := rowE_len (preK k (lastK ByteArray.empty (S.take k))) x (q3 x hxm)
  obtain ⟨row, hrow⟩ : ∃ r, rowE (preK k (lastK ByteArray.empty (S.take k))) x = r := ⟨_, rfl⟩
  have HRE := Lib.hid hrow
  rw [hrow] at hrl HRow
  unfold En.v at HRow ⊢
  have HBX : Hid (W1.cell? ⟨W.heap.size, 0, none⟩ = some (.string x.m.k) ∧ W1.cell? ⟨W.heap.size, 1, none⟩ = some (.int .u64 (x.m.s : Int)) ∧ W1.cell? ⟨W.heap.size, 2, none⟩ = some (.bool x.m.g) ∧ W1.cell? ⟨W.heap.size, 3, none⟩ = some (.string x.x)) := ⟨b0, b1, b2, b3⟩
  have HZ := Lib.hid hz
  have HEN1 : Hid (EnAt W1 W.heap.size x) := by unfold Hid; rw [← hW]; exact EnAt.new W x
  have HR1 := Lib.hid hR1
  have HPR := Lib.hid (show preK k (lastK ByteArray.empty (S.take k)) = preK k (lastK ByteArray.empty (S.take k)) from rfl)
  obtain ⟨pre, hpreq⟩ : ∃ p, preK k (lastK ByteArray.empty (S.take k)) = p := ⟨_, rfl⟩
  have HPQ := Lib.hid hpreq
  rw [hpreq] at HRow
  clear hx hok hsq q1 q2 q3 q4 hxm hxf hlast hpre hxs b0 b1 b2 b3 hB hz hW hR hrow hR1 HPR hpreq
  by_cases h4 : k % 4 = 0
  · have hm : ((k : Int) % 4 == 0) = true := by rw [beq_iff_eq]; omega
    have hm2 : (k : Int) % 4 = 0 := by omega
    obtain ⟨vb, hb1, hb2⟩ := HR1.out.b
    obtain ⟨vo, ho1, ho2⟩ := HR1.out.o
    obtain ⟨Ab, cb, rfl, hbc, hbm, _⟩ := own_shape hb2
    obtain ⟨Ao, co, rfl, hoc, hom, _⟩ := own_shape ho2
    have hp := HR1.out.p
    have cb1 := hb1.cell; have co1 := ho1.cell; have cp1 := hp.cell
    have HO := Lib.hid ho2
    have HOX := Lib.hid ho1
    have hbs := HR1.out.base.size
    have hpsz := hp.lt
    obtain ⟨lb, hlb⟩ : ∃ m, (body (S.take k)).length = m := ⟨_, rfl⟩
    obtain ⟨lo, hlo⟩ : ∃ m, (places (S.take k)).length = m := ⟨_, rfl⟩
    have HLB := Lib.hid hlb; have HLO := Lib.hid hlo
    rw [hlb] at cb1 hbl
    rw [hlo] at co1 hpl HO
    rw [hlo] at HOX
    have HM := Lib.hid (And.intro hm h4)
    unfold maxLen at hom hbm
    clear hb1 hb2 ho1 ho2 hp hlb hlo hm h4
    go_enter Try.func58, Try.ntmps58
    go_upto_region 1 with fail
    rw [HW.out]
    clear HW
    go_wp2_with (at_builtin; refine wpList_app _ rfl (.tmp 11) (.tmp 14) 107 rfl w0.heap.size 3 i1 _ 1 8 Try.underlying107 hi1 hy0 hy1 hy2 rfl (by decide) (.slice Ao lo co) lo ((places (S.take k)).map iv) rfl (HO.out.alloc _) (W1.heap.size + 1) (some ⟨W1.heap.size, 0, none⟩) 1 1 [iv lb] rfl (one_lies rfl _ _) (by intro u hu; simp at hu; subst hu; rfl) (by unfold maxLen; omega) (by omega) (by simp; omega) ?_)
    intro v2 w2 hown2 hg2 _
    obtain ⟨A2, c2, rfl, hn2, hm2', _⟩ := own_shape hown2
    have hgA : Box (W1.alloc (.cells #[.int .i64 (lb : Int)] 3)) (w0.heap.size + 1) 107 (.slice Ao lo co) := HOX.out.alloc _
    have hownA := HO.out.alloc (w := W1) (.cells #[.int .i64 (lb : Int)] 3)
    have kO : Box w2 (w0.heap.size + 1) 107 (.slice Ao lo co) := hgA.grown hg2 (hgA.not_own hownA (by decide))
    have kP : SBox w2 (w0.heap.size + 2) _ := (HR1.out.p.alloc (.cells #[.int .i64 (lb : Int)] 3)).grown hg2 ((HR1.out.p.alloc _).not_own hownA (by decide))
    have kOc := kO.cell; have kOf := kO.frozen; have kPc := kP.cell; have kPf := kP.frozen
    have hne : w0.heap.size + 1 ≠ w0.heap.size + 2 := by omega
    have HEN : Hid (EnAt w2 W.heap.size x) := enat_grown (show EnAt (W1.alloc (.cells #[.int .i64 (lb : Int)] 3)) W.heap.size x from (HEN1.out.below ((Below.refl _ _).alloc (Nat.le_refl _) _) (Array.getElem?_eq_some_iff.1 HEN1.out).1)) hownA (by decide) hg2
    have HMM := Lib.hid (EncR.place HX.out HR1.out HM.out.2 HOX.out (by rw [HLO.out]; exact HO.out) hg2 (by rw [HLO.out, HLB.out]; exact hown2))
    clear hg2 kO kP hgA hownA
    go_wp2_with fail
    clear kOc kOf kPc kPf hown2 hn2 hm2' HO HOX cb1 co1 cp1 hbs hpsz
    obtain ⟨W2, hW2⟩ : ∃ W2, (w2.setCell ⟨w0.heap.size + 1, 0, none⟩ (.slice A2 (lo + 1) c2)).setCell ⟨w0.heap.size + 2, 0, none⟩ (.string ByteArray.empty) = W2 := ⟨_, rfl⟩
    have HW2 : Hid ((w2.setCell ⟨w0.heap.size + 1, 0, none⟩ (.slice A2 (lo + 1) c2)).setCell ⟨w0.heap.size + 2, 0, none⟩ (.string ⟨#[]⟩) = W2) := hW2
    have HM2 : Hid (EncM w0 B A n c S k W2) := by unfold Hid; rw [← hW2]; exact HMM.out
    have HEN : Hid (EnAt W2 W.heap.size x) := by
      unfold Hid
      rw [← hW2]
      exact enat_set (enat_set HEN.out (by show W.heap.size ≠ w0.heap.size + 1; omega) _) (by show W.heap.size ≠ w0.heap.size + 2; omega) _
    rw [HW2.out]
    clear hW2 HW2 HMM
    rw [← HLB.out] at hbl
    clear HLB hne

    obtain ⟨vb, gb1, gb2⟩ := HM2.out.b
    obtain ⟨Ab, cb, rfl, hbc, hbm, _⟩ := own_shape gb2
    obtain ⟨lb, hlb⟩ : ∃ m, (body (S.take k)).length = m := ⟨_, rfl⟩
    have HLB := Lib.hid hlb
    rw [hlb] at hbl
    have hd1 : Below W2.heap.size W2 W2.drew := ⟨rfl, rfl, rfl, Nat.le_refl _, fun _ _ => rfl⟩
    have HM3 := Lib.hid (HM2.out.up hd1)
    have hpc := HM3.out.p.cell
    rw [HPQ.out] at hpc
    have hen : EnAt W2.drew W.heap.size x := HEN.out.below hd1 (Array.getElem?_eq_some_iff.1 HEN.out).1
    have HEN3 := Lib.hid hen
    have gb1' : Box W2.drew w0.heap.size 25 _ := gb1.below hd1 gb1.lt
    have gb2' := own_below gb2 hd1
    have cgb := gb1'.cell
    have hownd := gb2'
    rw [hlb] at cgb hownd gb1'
    have HGB := Lib.hid gb1'; have HOW := Lib.hid hownd
    have hbz := HM3.out.base.size
    have hneW : w0.heap.size ≠ W.heap.size := by omega
    have hneP : w0.heap.size ≠ w0.heap.size + 2 := by omega
    have Sd : EncS w0.heap.size W.heap.size (w0.heap.size + 2) (.slice Ab lb cb) pre x W2.drew := ⟨cgb, hpc, hen.cell.1, hen.cell.2.1, hen.cell.2.2.1, hen.cell.2.2.2⟩
    have HS := Lib.hid Sd
    unfold maxLen at hbm
    obtain ⟨s1, s2, s3, s4, s5, s6⟩ := Sd
    clear gb1 gb2 gb1' gb2' hlb hd1 hpc hen cgb hownd hbc
    go_region_law (first
      | (go_simp; go_at_call 59; refine (HRow.out _).mono ?_; rintro e w3 ⟨v3, rfl, ho3, hb3⟩; obtain ⟨A3, c3, rfl, _⟩ := own_shape ho3; have hl3 := Lies.of_own ho3; obtain ⟨s1, s2, s3, s4, s5, s6⟩ := EncS.below HS.out hb3; have HB3 := Lib.hid hb3; have hw3 := own_below HOW.out hb3; have hz3 := hb3.size)
      | (refine step_app _ rfl (.tmp 16) (.tmp 19) 25 rfl w0.heap.size 5 i0 _ 1 1 Try.underlying25 hi hz0 hz1 hz2 rfl (by decide) (.slice Ab lb cb) lb ((body (S.take k)).map bv) rfl hw3 w3.heap.size A3 row.length c3 (row.map bv) rfl hl3 (bv_one _) (by unfold maxLen; omega) (by omega) (by omega) ?_; intro v4 w4 hown4 hg4 _; obtain ⟨A4, c4, rfl, hn4, hm4, _⟩ := own_shape hown4; have gb4 := (HGB.out.below HB3.out HGB.out.lt).grown hg4 ((HGB.out.below HB3.out HGB.out.lt).not_own hw3 (by decide)); have cgb4 := gb4.cell; have fgb4 := gb4.frozen; have HM4 := HM3.out.up HB3.out; have HP4 := HM4.p.grown hg4 (HM4.p.not_own hw3 (by decide)); have cp4 := HP4.cell; have fp4 := HP4.frozen; have HE4 := enat_grown (HEN3.out.below HB3.out (Array.getElem?_eq_some_iff.1 HEN3.out).1) hw3 (by decide) hg4; have ce4 := HE4.cell.1)
      | fail)
    all_goals (
      have HFin := Lib.hid (EncM.row HX.out HM4 HRE.out.symm (HGB.out.below HB3.out HGB.out.lt) (by rw [HLB.out]; exact hw3) hg4 (by rw [HLB.out]; exact hown4))
      clear hown4 hg4 gb4 HM4 HP4 HE4 hw3 hl3 ho3 hb3)
    all_goals go_wp2
    all_goals go_ret
    all_goals exact ⟨rfl, HFin.out⟩
  · have hm : ((k : Int) % 4 == 0) = false := by rw [beq_eq_false_iff_ne]; omega
    have hm2 : ¬ (k : Int) % 4 = 0 := by omega
    have HM2 := Lib.hid (HR1.out.mid HX.out h4)
    have HEN := HEN1
    obtain ⟨W2, hW2⟩ : ∃ W2, W1 = W2 := ⟨_, rfl⟩
    rw [hW2] at HM2 HEN
    have HWW := Lib.hid hW2
    clear h4 hW2
    go_enter Try.func58, Try.ntmps58
    go_upto_region 1 with fail
    rw [HW.out]
    clear HW
    go_wp2_with fail
    rw [HWW.out]

    obtain ⟨vb, gb1, gb2⟩ := HM2.out.b
    obtain ⟨Ab, cb, rfl, hbc, hbm, _⟩ := own_shape gb2
    obtain ⟨lb, hlb⟩ : ∃ m, (body (S.take k)).length = m := ⟨_, rfl⟩
    have HLB := Lib.hid hlb
    rw [hlb] at hbl
    have hd1 : Below W2.heap.size W2 W2.drew := ⟨rfl, rfl, rfl, Nat.le_refl _, fun _ _ => rfl⟩
    have HM3 := Lib.hid (HM2.out.up hd1)
    have hpc := HM3.out.p.cell
    rw [HPQ.out] at hpc
    have hen : EnAt W2.drew W.heap.size x := HEN.out.below hd1 (Array.getElem?_eq_some_iff.1 HEN.out).1
    have HEN3 := Lib.hid hen
    have gb1' : Box W2.drew w0.heap.size 25 _ := gb1.below hd1 gb1.lt
    have gb2' := own_below gb2 hd1
    have cgb := gb1'.cell
    have hownd := gb2'
    rw [hlb] at cgb hownd gb1'
    have HGB := Lib.hid gb1'; have HOW := Lib.hid hownd
    have hbz := HM3.out.base.size
    have hneW : w0.heap.size ≠ W.heap.size := by omega
    have hneP : w0.heap.size ≠ w0.heap.size + 2 := by omega
    have Sd : EncS w0.heap.size W.heap.size (w0.heap.size + 2) (.slice Ab lb cb) pre x W2.drew := ⟨cgb, hpc, hen.cell.1, hen.cell.2.1, hen.cell.2.2.1, hen.cell.2.2.2⟩
    have HS := Lib.hid Sd
    unfold maxLen at hbm
    obtain ⟨s1, s2, s3, s4, s5, s6⟩ := Sd
    clear gb1 gb2 gb1' gb2' hlb hd1 hpc hen cgb hownd hbc
    go_region_law (first
      | (go_simp; go_at_call 59; refine (HRow.out _).mono ?_; rintro e w3 ⟨v3, rfl, ho3, hb3⟩; obtain ⟨A3, c3, rfl, _⟩ := own_shape ho3; have hl3 := Lies.of_own ho3; obtain ⟨s1, s2, s3, s4, s5, s6⟩ := EncS.below HS.out hb3; have HB3 := Lib.hid hb3; have hw3 := own_below HOW.out hb3; have hz3 := hb3.size)
      | (refine step_app _ rfl (.tmp 16) (.tmp 19) 25 rfl w0.heap.size 5 i0 _ 1 1 Try.underlying25 hi hz0 hz1 hz2 rfl (by decide) (.slice Ab lb cb) lb ((body (S.take k)).map bv) rfl hw3 w3.heap.size A3 row.length c3 (row.map bv) rfl hl3 (bv_one _) (by unfold maxLen; omega) (by omega) (by omega) ?_; intro v4 w4 hown4 hg4 _; obtain ⟨A4, c4, rfl, hn4, hm4, _⟩ := own_shape hown4; have gb4 := (HGB.out.below HB3.out HGB.out.lt).grown hg4 ((HGB.out.below HB3.out HGB.out.lt).not_own hw3 (by decide)); have cgb4 := gb4.cell; have fgb4 := gb4.frozen; have HM4 := HM3.out.up HB3.out; have HP4 := HM4.p.grown hg4 (HM4.p.not_own hw3 (by decide)); have cp4 := HP4.cell; have fp4 := HP4.frozen; have HE4 := enat_grown (HEN3.out.below HB3.out (Array.getElem?_eq_some_iff.1 HEN3.out).1) hw3 (by decide) hg4; have ce4 := HE4.cell.1)
      | fail)
    all_goals (
      have HFin := Lib.hid (EncM.row HX.out HM4 HRE.out.symm (HGB.out.below HB3.out HGB.out.lt) (by rw [HLB.out]; exact hw3) hg4 (by rw [HLB.out]; exact hown4))
      clear hown4 hg4 gb4 HM4 HP4 HE4 hw3 hl3 ho3 hb3)
    all_goals go_wp2
    all_goals go_ret
    all_goals exact ⟨rfl, HFin.out⟩
end Go.Proofs.Ytghfhojpnbpjoaa
