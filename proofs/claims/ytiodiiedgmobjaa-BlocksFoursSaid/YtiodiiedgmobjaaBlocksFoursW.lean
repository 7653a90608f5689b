/-
  The walk of BlocksFours.
-/
import Derived.Test.YtiodiiedgmobjaaAl8
import Derived.Test.YtiodiiedgmobjaaTwin
import Derived.Test.YtiodiiedgmobjaaSame
import Derived.Test.YtiodiiedgmobjaaESize
import Derived.Test.YtiodiiedgmobjaaStep
namespace Go.Proofs.Ytiodiiedgmobjaa
open Go.RowKit
set_option linter.unusedVariables false
set_option maxRecDepth 100000

theorem fours_len (l : List En) (k : Nat) (hk : k % 4 = 0) (hl : k ≤ l.length) : (encB l).length + 2 = (encB (l.take k)).length + (encB (l.drop k)).length := by
  have h := body_fours l k hk hl
  have h1 := tailB_len l
  have h2 := tailB_len (l.take k)
  have h3 := tailB_len (l.drop k)
  have hb := congrArg List.length h
  rw [List.length_append] at hb
  unfold encB
  rw [List.length_append, List.length_append, List.length_append, h1, h2, h3, List.length_take, List.length_drop, Nat.min_eq_left hl]
  omega
theorem okB_take (l : List En) (k : Nat) (hk : 1 ≤ k) (hl : k ≤ l.length) (h : okB l = true) : okB (l.take k) = true := by
  obtain ⟨h1, h2, h3, h4⟩ := (okB_iff l).1 h
  refine (okB_iff _).2 ⟨by rw [List.length_take]; omega, by rw [List.length_take]; omega, fun e he => h3 e ((List.take_sublist k l).mem he), h4.sublist (List.take_sublist k l)⟩
theorem okB_drop (l : List En) (k : Nat) (hl : k < l.length) (h : okB l = true) : okB (l.drop k) = true := by
  obtain ⟨h1, h2, h3, h4⟩ := (okB_iff l).1 h
  refine (okB_iff _).2 ⟨by rw [List.length_drop]; omega, by rw [List.length_drop]; omega, fun e he => h3 e ((List.drop_sublist k l).mem he), h4.sublist (List.drop_sublist k l)⟩
theorem encB_body (l : List En) : (encB l).take (body l).length = body l ∧ (encB l).length = (body l).length + 2 + 2 * ((l.length + 3) / 4) := by
  have h := tailB_len l
  unfold encB
  rw [List.take_left, List.length_append, h]
  exact ⟨rfl, by omega⟩
theorem run_head2 (w : World) (A : Option Addr) (n c h : Nat) (h3 : h ≤ c) :
    (Instr.slice 23 (.slice A n c) none (some (.int .i64 (h : Int))) none).run Try.prog w = .ok (.slice A h c) w := by
  obtain ⟨i0, hi, hz0, hz1, hz2⟩ := info_parts byte_info
  unfold Instr.slice
  simp [run_underlying Try.underlying23, Instr.sliceBounds, Instr.sliceBound, asIntOf, sizeOf, typeInfo, hi, h3]
  cases A <;> simp [Addr.add]
theorem run_headE2 (w : World) (A : Option Addr) (n c h : Nat) (h3 : h ≤ c) :
    (Instr.slice 22 (.slice A n c) none (some (.int .i64 (h : Int))) none).run Try.prog w = .ok (.slice A h c) w := by
  obtain ⟨i0, hi, hz0, hz1, hz2⟩ := info_parts entry_info
  unfold Instr.slice
  simp [run_underlying Try.underlying22, Instr.sliceBounds, Instr.sliceBound, asIntOf, sizeOf, typeInfo, hi, h3]
  cases A <;> simp [Addr.add]
theorem bput_some {w : World} {S : List En} {e : Ending} {w' : World} (h : BPut w S e w') : ∃ A n c z, e = .returned (.tuple #[.slice A n c, .int .i64 z]) ∧ Below w.heap.size w w' := by
  obtain ⟨hb, h1, h0⟩ := h
  cases hk : okB S with
  | true => obtain ⟨A, c, he, _⟩ := h1 hk; exact ⟨A, _, c, 0, he, hb⟩
  | false => exact ⟨none, 0, 0, 1, h0 hk, hb⟩
theorem EL.take {w : World} {B n c k : Nat} {A : Option Addr} {S : List En} (h : EL w B A n c S) (hk : k ≤ n) : EL w B A k c (S.take k) :=
  ⟨by rw [← ecs_take]; exact h.lies.takeE hk, h.B, Nat.le_trans hk h.nc, h.cc, fun e he => h.sz e ((List.take_sublist k S).mem he)⟩
theorem EL.drop {w : World} {B n c k : Nat} {A : Option Addr} {S : List En} (h : EL w B A n c S) (hk : k ≤ n) : EL w B (cutE A c k) (n - k) (c - k) (S.drop k) :=
  ⟨by rw [← ecs_drop]; exact h.lies.cutE hk h.nc, h.B, by have := h.nc; omega, by have := h.cc; omega, fun e he => h.sz e ((List.drop_sublist k S).mem he)⟩

set_option maxHeartbeats 8000000 in
theorem blocksFours_walk (A : Option Addr) (n c : Nat) (l : List En) (m0 : Nat) (W : World) (hl : Lies W W.heap.size 4 A n (ecs l)) (hu : ∀ x ∈ l, x.m.s < 18446744073709551616 ∧ x.m.k.size ≤ 140737488351232 ∧ x.x.size ≤ 140737488351232) (hn : l.length = n) (hnc : n ≤ c) (hc : c ≤ 140737488351232)
    (hm : m0 < 256) :
    Calls Try.prog 8 #[.slice A n c, .int .u8 (m0 : Int)] W fun e W' => e = .returned (.bool true) ∧ Below W.heap.size W W' := by
  obtain ⟨i0, hi, hz0, hz1, hz2⟩ := info_parts byte_info
  have HEL : Hid (EL W W.heap.size A n c l) := ⟨hl, Nat.le_refl _, hnc, by unfold maxLen; omega, fun e he => (hu e he).2⟩
  have HU := Lib.hid hu; have HN := Lib.hid hn
  have HUp : Hid (∀ W', Below W.heap.size W W' → EL W' W.heap.size A n c l) := fun W' hb => HEL.out.below hb
  have HSq : Hid (∀ e ∈ l, e.m.s < 18446744073709551616) := fun e he => (hu e he).1
  have hnb : n ≤ 140737488351232 := by omega
  clear hl hu hn
  go_enter Try.func8, Try.ntmps8
  go_wp2_with fail
  refine (alive8_any W).mono ?_
  rintro e w1 ⟨rfl, hb1⟩
  have H1 := Lib.hid hb1
  have HES := Lib.hid (entriesSize_any A n c l w1 ((HUp.out w1 H1.out).lies.more H1.out.size) HU.out hnb)
  clear hb1
  go_wp2_with fail
  refine HES.out.mono ?_
  rintro e w2 ⟨z0, q0, rfl, hw2, hz⟩
  have hb2 : Below W.heap.size W w2 := by rw [hw2]; exact below_drewN H1.out q0
  have H2 := Lib.hid hb2
  have HZ := Lib.hid hz
  clear hb2 hw2 hz HES
  by_cases hzb : 40000 < z0
  · have hzi : decide ((40000 : Int) < (z0 : Int)) = true := decide_eq_true (by omega)
    go_wp2_with fail
    refine (alive8_any w2).mono ?_
    rintro e w3 ⟨rfl, hb3⟩
    have HF := Lib.hid (H2.out.trans (hb3.mono H2.out.size))
    clear hb3
    go_wp2
    go_ret
    exact ⟨rfl, HF.out⟩
  · have hzi : decide ((40000 : Int) < (z0 : Int)) = false := decide_eq_false (by omega)
    have hnz : n + esum l = z0 := (HZ.out (by omega)).symm
    by_cases hn5 : n < 5
    · have hni : decide ((n : Int) < 5) = true := decide_eq_true (by omega)
      clear hnz
      go_wp2_with fail
      refine (alive8_any w2).mono ?_
      rintro e w3 ⟨rfl, hb3⟩
      have HF := Lib.hid (H2.out.trans (hb3.mono H2.out.size))
      clear hb3
      go_wp2
      go_ret
      exact ⟨rfl, HF.out⟩
    · have hni : decide ((n : Int) < 5) = false := decide_eq_false (by omega)
      obtain ⟨n1, hn1⟩ : ∃ n1, n - 1 = n1 := ⟨_, rfl⟩
      obtain ⟨d, hd⟩ : ∃ d, n1 / 4 = d := ⟨_, rfl⟩
      have hd0 : 0 < d := by omega
      obtain ⟨r0, hr0⟩ : ∃ r0, m0 % d = r0 := ⟨_, rfl⟩
      have hrd : r0 < d := by rw [← hr0]; exact Nat.mod_lt _ hd0
      obtain ⟨k, hk⟩ : ∃ k, 4 * (1 + r0) = k := ⟨_, rfl⟩
      have HKd : Hid (k % 4 = 0 ∧ 4 ≤ k ∧ k < n) := ⟨by omega, by omega, by omega⟩
      have e1 : (n : Int) - 1 = (n1 : Int) := by omega
      have e2 : (n1 : Int) / 4 = (d : Int) := by omega
      have e3 : (m0 : Int) % (d : Int) = (r0 : Int) := by rw [← hr0]; simp
      have e4 : 4 * (1 + (r0 : Int)) = (k : Int) := by omega
      have e5 : ((d : Int) == 0) = false := by rw [beq_eq_false_iff_ne]; omega
      have hdi : (0 : Int) < (d : Int) := by omega
      have hri : (r0 : Int) ≤ 255 := by have := Nat.mod_le m0 d; omega
      have hkn : k ≤ n := by omega
      have hkc : k ≤ c := by omega
      have hs1 := fun W => run_headE2 W A n c k hkc
      have hs2 := fun W => run_cutE W A n c k hkn
      have HP := Lib.hid (bput_any l HSq.out A n c W.heap.size w2 (HUp.out w2 H2.out))
      clear hnz hn1 hd hr0 hrd hk
      go_wp2_with fail
      refine HP.out.mono ?_
      intro e w3 hp3
      obtain ⟨A3, n3, c3, z3, rfl, hb3⟩ := bput_some hp3
      have HP3 := Lib.hid hp3
      have H3 := Lib.hid (H2.out.trans (hb3.mono H2.out.size))
      have HQ := Lib.hid (bput_any (l.take k) (fun e he => HSq.out e ((List.take_sublist k l).mem he)) A k c W.heap.size w3 ((HUp.out w3 H3.out).take hkn))
      clear hp3 HP
      go_wp2_with fail
      refine HQ.out.mono ?_
      intro e w4 hp4
      obtain ⟨A4, n4, c4, z4, rfl, hb4⟩ := bput_some hp4
      have HP4 := Lib.hid hp4
      have H4 := Lib.hid (H3.out.trans (hb4.mono H3.out.size))
      have HQ2 := Lib.hid (bput_any (l.drop k) (fun e he => HSq.out e ((List.drop_sublist k l).mem he)) (cutE A c k) (n - k) (c - k) W.heap.size w4 ((HUp.out w4 H4.out).drop hkn))
      have HB4 := Lib.hid hb4
      clear hp4 HQ hb3
      go_wp2_with fail
      refine HQ2.out.mono ?_
      intro e w5 hp5
      obtain ⟨A5, n5, c5, z5, rfl, hb5⟩ := bput_some hp5
      have HP5 := Lib.hid hp5
      have H5 := Lib.hid (H4.out.trans (hb5.mono H4.out.size))
      have HB5 := Lib.hid hb5
      clear hp5 HQ2 hb4 hb5 hs1 hs2
      cases hok : okB l with
      | false =>
        have hz3 : z3 = 1 := by
          have := HP3.out.2.2 hok
          injection this with this
          injection this with this
          simp at this
          exact this.2
        subst hz3
        clear hok
        go_wp2
        go_ret
        exact ⟨rfl, H5.out⟩
      | true =>
        obtain ⟨a3, b3, q3, ho3⟩ := HP3.out.2.1 hok
        obtain ⟨a4, b4, q4, ho4⟩ := HP4.out.2.1 (okB_take l k (by have := HKd.out; omega) (by have := HN.out; omega) hok)
        obtain ⟨a5, b5, q5, ho5⟩ := HP5.out.2.1 (okB_drop l k (by have := HKd.out; have := HN.out; omega) hok)
        injection q3 with q3; injection q3 with q3; simp at q3
        injection q4 with q4; injection q4 with q4; simp at q4
        injection q5 with q5; injection q5 with q5; simp at q5
        obtain ⟨⟨rfl, rfl, rfl⟩, rfl⟩ := q3
        obtain ⟨⟨rfl, rfl, rfl⟩, rfl⟩ := q4
        obtain ⟨⟨rfl, rfl, rfl⟩, rfl⟩ := q5
        have HLen := Lib.hid (fours_len l k HKd.out.1 (by have := HN.out; omega))
        obtain ⟨t3, s3⟩ := encB_body l
        obtain ⟨t4, s4⟩ := encB_body (l.take k)
        obtain ⟨t5, s5⟩ := encB_body (l.drop k)
        rw [HN.out] at s3
        rw [List.length_take, HN.out, Nat.min_eq_left hkn] at s4
        rw [List.length_drop, HN.out] at s5
        have HBody := Lib.hid (body_fours l k HKd.out.1 (by have := HN.out; omega))
        have hbl3 := encB_len l hok
        have hbl4 := encB_len _ (okB_take l k (by have := HKd.out; omega) (by have := HN.out; omega) hok)
        have hbl5 := encB_len _ (okB_drop l k (by have := HKd.out; have := HN.out; omega) hok)
        have L3 := Lib.hid ((Lies.of_own ho3).below (HB4.out.trans (HB5.out.mono HB4.out.size)))
        have L4 := Lib.hid ((Lies.of_own ho4).below HB5.out)
        have L5 := Lib.hid (Lies.of_own ho5)
        obtain ⟨_, _, hv, hn3, hc3, _⟩ := own_shape ho3
        injection hv with f1 f2 f3
        subst f1 f3
        obtain ⟨_, _, hv, hn4, hc4, _⟩ := own_shape ho4
        injection hv with f1 f2 f3
        subst f1 f3
        obtain ⟨_, _, hv, hn5, hc5, _⟩ := own_shape ho5
        injection hv with f1 f2 f3
        subst f1 f3
        obtain ⟨la, hla⟩ : ∃ q, (encB l).length = q := ⟨_, rfl⟩
        obtain ⟨lb, hlb⟩ : ∃ q, (encB (l.take k)).length = q := ⟨_, rfl⟩
        obtain ⟨lc, hlc⟩ : ∃ q, (encB (l.drop k)).length = q := ⟨_, rfl⟩
        obtain ⟨pa, hpa⟩ : ∃ q, (body l).length = q := ⟨_, rfl⟩
        obtain ⟨pb, hpb⟩ : ∃ q, (body (l.take k)).length = q := ⟨_, rfl⟩
        obtain ⟨pc, hpc⟩ : ∃ q, (body (l.drop k)).length = q := ⟨_, rfl⟩
        obtain ⟨x, hx⟩ : ∃ q, (n + 3) / 4 = q := ⟨_, rfl⟩
        obtain ⟨y, hy⟩ : ∃ q, k / 4 = q := ⟨_, rfl⟩
        obtain ⟨z, hz⟩ : ∃ q, x - y = q := ⟨_, rfl⟩
        have HT3 := Lib.hid t3; have HT4 := Lib.hid t4; have HT5 := Lib.hid t5
        have hk4 := HKd.out
        rw [hla, hpa, hx] at s3
        rw [hlb, hpb] at s4
        rw [hlc, hpc] at s5
        rw [hla, hlb, hlc] at HLen
        rw [hla] at L3 hbl3 hn3 ⊢
        rw [hlb] at L4 hbl4 hn4 ⊢
        rw [hlc] at L5 hbl5 hn5 ⊢
        rw [hpa] at HT3
        rw [hpb] at HT4
        rw [hpc] at HT5
        have s4' : lb = pb + 2 + 2 * y := by omega
        have s5' : lc = pc + 2 + 2 * z := by omega
        have hlen := HLen.out
        obtain ⟨la2, g1⟩ : ∃ q, la - 2 = q := ⟨_, rfl⟩
        obtain ⟨lb2, g2⟩ : ∃ q, lb - 2 = q := ⟨_, rfl⟩
        obtain ⟨lc2, g3⟩ : ∃ q, lc - 2 = q := ⟨_, rfl⟩
        obtain ⟨x2, g4⟩ : ∃ q, 2 * x = q := ⟨_, rfl⟩
        obtain ⟨y2, g5⟩ : ∃ q, 2 * y = q := ⟨_, rfl⟩
        obtain ⟨z2, g6⟩ : ∃ q, 2 * z = q := ⟨_, rfl⟩
        have i1 : ((n : Int) + 3) / 4 = (x : Int) := by omega
        have i2 : (k : Int) / 4 = (y : Int) := by omega
        have i3 : (x : Int) - (y : Int) = (z : Int) := by omega
        have i4 : (la : Int) - 2 = (la2 : Int) := by omega
        have i5 : (lb : Int) - 2 = (lb2 : Int) := by omega
        have i6 : (lc : Int) - 2 = (lc2 : Int) := by omega
        have i7 : 2 * (x : Int) = (x2 : Int) := by omega
        have i8 : 2 * (y : Int) = (y2 : Int) := by omega
        have i9 : 2 * (z : Int) = (z2 : Int) := by omega
        have j1 : (la2 : Int) - (x2 : Int) = (pa : Int) := by omega
        have j2 : (lb2 : Int) - (y2 : Int) = (pb : Int) := by omega
        have j3 : (lc2 : Int) - (z2 : Int) = (pc : Int) := by omega
        have d1 : ((la : Int) + 2 != (lb : Int) + (lc : Int)) = false := by rw [bne_eq_false_iff_eq]; omega
        have d2 : decide ((lb : Int) < 2 + (y2 : Int)) = false := decide_eq_false (by omega)
        have d3 : decide ((lc : Int) < 2 + (z2 : Int)) = false := decide_eq_false (by omega)
        have bx : x ≤ 100000 := by omega
        have by_ : y ≤ 100000 := by omega
        have bz : z ≤ 100000 := by omega
        have ba : la ≤ 100000 := by omega
        have bb : lb ≤ 100000 := by omega
        have bc : lc ≤ 100000 := by omega
        have bpa : pa ≤ 100000 := by omega
        have bpb : pb ≤ 100000 := by omega
        have bpc : pc ≤ 100000 := by omega
        have v1 : IntKind.i64.wrap (lb2 : Int) = (lb2 : Int) := by apply IntWalk.i64_in; omega
        have v2 : IntKind.i64.wrap (y2 : Int) = (y2 : Int) := by apply IntWalk.i64_in; omega
        have v3 : IntKind.i64.wrap (pb : Int) = (pb : Int) := by apply IntWalk.i64_in; omega
        have v4 : IntKind.i64.wrap (lc2 : Int) = (lc2 : Int) := by apply IntWalk.i64_in; omega
        have v5 : IntKind.i64.wrap (z2 : Int) = (z2 : Int) := by apply IntWalk.i64_in; omega
        have v6 : IntKind.i64.wrap (pc : Int) = (pc : Int) := by apply IntWalk.i64_in; omega
        have k1 := fun W => run_head2 W A3 la c3 pa (by omega)
        have k2 := fun W => run_head2 W A4 lb c4 pb (by omega)
        have k3 := fun W => run_head2 W A5 lc c5 pc (by omega)
        have La := Lib.hid (lies_take (m := pa) L3.out (by omega))
        have Lb := Lib.hid (lies_take (m := pb) L4.out (by omega))
        have Lc := Lib.hid (lies_take (m := pc) L5.out (by omega))
        rw [HT3.out] at La
        rw [HT4.out] at Lb
        rw [HT5.out] at Lc
        have HBd : Hid (sameB (body l) (body (l.take k) ++ body (l.drop k)) = true) := by unfold Hid; rw [HBody.out]; exact sameB_self _
        obtain ⟨B0, hB0⟩ : ∃ q, body l = q := ⟨_, rfl⟩
        obtain ⟨B1, hB1⟩ : ∃ q, body (l.take k) = q := ⟨_, rfl⟩
        obtain ⟨B2, hB2⟩ : ∃ q, body (l.drop k) = q := ⟨_, rfl⟩
        rw [hB0] at La HBd
        rw [hB1] at Lb HBd
        rw [hB2] at Lc HBd
        have hd1 : Below w5.heap.size w5 w5.drew := ⟨rfl, rfl, rfl, Nat.le_refl _, fun _ _ => rfl⟩
        have hz45 := HB5.out.size
        have hz34 := HB4.out.size
        have Lb5 : Lies w5.drew w5.heap.size 1 A4 pb (B1.map bv) := (Lb.out.more hz45).drew
        have Lc5 : Lies w5.drew w5.heap.size 1 A5 pc (B2.map bv) := Lc.out.drew
        have La5 : Lies w5.drew w5.heap.size 1 A3 pa (B0.map bv) := (La.out.more (by omega)).drew
        have HTw := Lib.hid (twin_any A4 pb c4 B1 w5.drew Lb5 (by omega))
        have HLc5 := Lib.hid Lc5; have HLa5 := Lib.hid La5
        have Hd1 := Lib.hid hd1
        clear t3 t4 t5 s3 s4 s5 s4' s5' hlen hla hlb hlc hpa hpb hpc hx hy hz hk4 hbl3 hbl4 hbl5 ho3 ho4 ho5 hn3 hn4 hn5 g1 g2 g3 g4 g5 g6 hB0 hB1 hB2 hd1 Lb5 Lc5 La5 e1 e2 e3 e4 e5 HT3 HT4 HT5 L3 L4 L5 La Lb Lc HBody HLen HP3 HP4 HP5 HEL HU HUp hok
        go_wp2
        go_region_law (first
          | (go_simp; go_at_call 18; refine HTw.out.mono ?_; rintro e w6 ⟨g6, c6, rfl, ho6, hb6⟩; have ho6' := own_less (xs := B1.map bv) (u := bv 77) (by rw [List.map_append] at ho6; exact ho6); have HB6 := Lib.hid hb6; have hl6 := (HLc5.out.below (hb6.mono (Nat.le_refl _))); have hz6 := hb6.size)
          | (refine step_app _ rfl (.tmp 109) (.tmp 117) 23 rfl w5.heap.size 5 i0 _ 1 1 Try.underlying23 hi hz0 hz1 hz2 rfl (by decide) (.slice (some ⟨g6, 0, none⟩) pb c6) pb (B1.map bv) rfl ho6' w5.heap.size A5 pc c5 (B2.map bv) rfl hl6 (bv_one _) (by unfold maxLen; omega) (by omega) hz6 ?_; intro v7 w7 ho7 hg7 _; obtain ⟨A7, c7, rfl, hn7, hc7, _⟩ := own_shape ho7)
          | fail)
        all_goals (
          have hb7 : Below w5.heap.size w5.drew w7 := Below.grown (B := w5.heap.size) HB6.out hg7 hz6 (fun j hj => (ho6'.lt j hj).1)
          have hF7 : Below W.heap.size W w7 := (H5.out.trans (Hd1.out.mono H5.out.size)).trans (hb7.mono H5.out.size)
          have HLa7 := Lib.hid (HLa5.out.below hb7)
          have HF7 := Lib.hid hF7
          have ho7' : w7.ownsRow w5.heap.size 5 1 (.slice A7 (pb + pc) c7) (pb + pc) ((B1 ++ B2).map bv) := by rw [List.map_append]; exact ho7
          have HSm := Lib.hid (same_any A3 A7 pa (pb + pc) c3 c7 w7.heap.size B0 (B1 ++ B2) w7 (HLa7.out.more (by have := hb7.size; exact this)) (Lies.of_own ho7') (by omega))
          rw [HBd.out] at HSm
          clear ho7 ho7' hg7 hb7 hF7 ho6' ho6 hb6 hl6 v1 v2 v3 v4 v5 v6)
        all_goals try simp only [Act.put, List.setIfInBounds_toArray, List.set_cons_zero, List.set_cons_succ, List.getElem_toArray, List.getElem_cons_zero, List.getElem_cons_succ]
        all_goals go_wp2_with fail
        all_goals (
          refine HSm.out.mono ?_
          rintro e w8 ⟨rfl, q8, rfl⟩
          have HF8 := Lib.hid (below_drewN HF7.out q8)
          clear HSm)
        all_goals go_wp2
        all_goals go_ret
        all_goals exact ⟨rfl, HF8.out⟩
end Go.Proofs.Ytiodiiedgmobjaa
