/-
  Contract of package journals' cut: an iterator over the parts of a record that is written.
-/
import Derived.Test.YtopcnlophmplgaaPartD
namespace Go.Proofs.Ytopcnlophmplgaa
open Go.RowKit
set_option linter.unusedVariables false
set_option maxRecDepth 100000

theorem cut_any (a n c : Nat) (A : Option Addr) (w : World) :
    Calls Try.prog 67 #[.int .i64 (a : Int), .slice A n c] w fun e w' => e = .returned (.func (.func 82) #[] #[.pointer (some ⟨w.heap.size, 0, none⟩), .pointer (some ⟨w.heap.size + 1, 0, none⟩)]) ∧ w' = (w.alloc (.cells #[.int .i64 (a : Int)] 3)).alloc (.cells #[.slice A n c] 33) := by
  have hmf : ∀ (fn : Fn) (first cap : Array Value) (w : World), (Instr.makeFunc fn first cap).run Try.prog w = .ok (.func fn first cap) w := fun _ _ _ _ => rfl
  go_enter Try.func67, Try.ntmps67
  go_wp2
  go_ret
  exact ⟨rfl, rfl⟩

theorem run_headQ (w : World) (A : Option Addr) (n c h : Nat) (h3 : h ≤ c) :
    (Instr.slice 33 (.slice A n c) none (some (.int .i64 (h : Int))) none).run Try.prog w = .ok (.slice A h c) w := by
  obtain ⟨i0, hi, hz0, hz1, hz2⟩ := info_parts byte_info
  unfold Instr.slice
  simp [run_underlying Try.underlying33, Instr.sliceBounds, Instr.sliceBound, asIntOf, sizeOf, typeInfo, hi, h3]
  cases A <;> simp [Addr.add]
/-- what holds between two rounds, in the iterator -/
def CutRel {w : World} {B : Nat} (n₀ N : Nat) (all : List Jr.Part) (J : List (PX w B) → World → Prop) (va vr vf : Value) (wr : World) : Prop :=
  ∃ (pre : List (PX w B)) (pos : Nat) (A : Option Addr) (n c : Nat) (r : List UInt8) (first : Bool), va = .int .i64 (pos : Int) ∧ vr = .slice A n c ∧ vf = .bool first ∧ J pre wr ∧ all = pts pre ++ Jr.enc first pos r ∧ 8 ≤ Jr.room pos ∧ pos + 8 * n ≤ 1073741824 ∧ pre.length + n ≤ N ∧ Low n₀ w wr ∧ Lies w n₀ 1 A n (r.map bv) ∧ n ≤ c ∧ c ≤ 9223372036854775807

set_option maxHeartbeats 4000000 in
theorem cut1_any (w : World) (n₀ m l Bn Br a n c : Nat) (A : Option Addr) (r : List UInt8) (G : Nat → Prop) (hL : Lies w n₀ 1 A n (r.map bv)) (hnc : n ≤ c) (hcc : c ≤ 9223372036854775807) (hn : a + 8 * n ≤ 1073741800)
    (J Jx : List (PX w n₀) → World → Prop) (W : World) (hJ : AbidesFrom W.heap.size J)
    (hY : ∀ pre x W1, J pre W1 → (∃ rest, Jr.enc true (Jr.nextP a) r = pts pre ++ x.1.p :: rest) → YieldAt Fence.wide m Try.prog l #[x.1.v] W1 fun e W' => (e = .returned (.bool true) ∧ J (pre ++ [x]) W' ∧ KpJ n₀ G W1 W') ∨ (e = .returned (.bool false) ∧ Jx (pre ++ [x]) W'))
    (hlow : Low n₀ w W) (hBn : W.cell? ⟨Bn, 0, none⟩ = some (.int .i64 (a : Int))) (hBr : W.cell? ⟨Br, 0, none⟩ = some (.slice A n c)) (h0 : J [] W) :
    Calls Try.prog 82 #[.func (.yield l) #[] #[], .pointer (some ⟨Bn, 0, none⟩), .pointer (some ⟨Br, 0, none⟩)] W fun e W' => (∃ v, e = .returned v) ∧
      ((∃ xs, pts xs = Jr.enc true (Jr.nextP a) r ∧ J xs W') ∨ (∃ pre, True ∧ Jx pre W')) := by
  have HL := Lib.hid hL; have HJ := Lib.hid hJ
  have hnp := Jr.next_ge a
  have HNP := Lib.hid (fun W => nextPart_any a (by omega) W)
  have hroom := Jr.room_next a
  obtain ⟨np, hnpe⟩ : ∃ np, Jr.nextP a = np := ⟨_, rfl⟩
  rw [hnpe] at HNP hnp hroom hY ⊢
  have HY := Lib.hid hY
  clear hL hJ hY
  go_enter Try.func82, Try.ntmps82
  go_wp2_with fail
  go_quiet ((go_at_call 83; exact Calls.quiet_of_same (HNP.out _)))
  refine at_world (P := fun W5 => CutRel n₀ n (Jr.enc true np r) J (.int .i64 (np : Int)) (.slice A n c) (.bool true) W5)
    ⟨[], np, A, n, c, r, true, rfl, rfl, rfl, HJ.out _ _ _ none h0 (grown_of_below (below_drewN (Below.refl _ _) _)) (fun r e => by cases e), rfl, hroom, by omega, by simp, hlow.below (below_drewN (Below.refl _ _) _), HL.out, hnc, hcc⟩ ?_
  intro W5 hR
  have HR := Lib.hid hR
  clear hR hlow h0 hBn hBr HNP hroom
  go_wp2_with fail
  go_loopw [4, 5, 6] (fun va vr vf wr => CutRel n₀ n (Jr.enc true np r) J va vr vf wr) (fun _ vr _ _ => lenV vr)
  case atStart => exact HR.out
  case round =>
    clear HR
    obtain ⟨pre, pos, A2, n2, c2, r2, first, rfl, rfl, rfl, hj, hall, hroom, hb1, hb2, hlow, hl2, hnc2, hcc2⟩ := hrel
    have hrl := hl2.blen
    have HRo := Lib.hid (fun W => roomAt_any pos (by omega) W)
    have hr128 := (Jr.room_pos pos).2
    have hlast := @Jr.enc_last first pos r2
    have hmore := @Jr.enc_more first pos r2
    obtain ⟨rm, hrm⟩ : ∃ rm, Jr.room pos = rm := ⟨_, rfl⟩
    rw [hrm] at HRo hroom hr128 hlast hmore
    obtain ⟨q, hq⟩ : ∃ q, min n2 (rm - 7) = q := ⟨_, rfl⟩
    have hmin : ∀ W, (Builtin.min_ #[3, 3] 3 #[.int .i64 (n2 : Int), .int .i64 ((rm : Int) - 7)]).run Try.prog W = .ok (.int .i64 (q : Int)) W := fun W => by
      have := run_min n2 (rm - 7) W
      rw [hq, show ((rm - 7 : Nat) : Int) = (rm : Int) - 7 by omega] at this
      exact this
    have hqn : q ≤ n2 := by omega
    have hqr : q ≤ rm - 7 := by omega
    have hhead : ∀ W, (Instr.slice 33 (.slice A2 n2 c2) none (some (.int .i64 (q : Int))) none).run Try.prog W = .ok (.slice A2 q c2) W := fun W => run_headQ W A2 n2 c2 q (by omega)
    have hrest := fun W => run_cut W A2 n2 c2 q hqn
    have HLast := Lib.hid hlast; have HMore := Lib.hid hmore; have HAll := Lib.hid hall; have HLow := Lib.hid hlow; have HL2 := Lib.hid hl2
    have B0 : Below wr.heap.size wr wr.drew := below_drew (Below.refl _ _)
    have B1 : Below wr.heap.size wr (wr.drew.alloc zeroPart) := B0.alloc (by simp) _
    clear hlast hmore hall hlow hl2
    by_cases hqe : q = n2
    · subst hqe
      have HK := Lib.hid (fun W => kindOf_any first true W)
      have hok : PV.ok w n₀ ⟨pos, Jr.kd first true, A2, q, c2, r2.take q⟩ := ⟨HLow.out.back (lies_take (HLow.out.lies HL2.out) hqn), by show q ≤ c2; omega, hcc2, by show q ≤ 65535; omega, by show pos ≤ _; omega⟩
      go_wp2_with fail
      refine (HRo.out wr).mono ?_
      rintro e w1 ⟨rfl, hw⟩
      obtain rfl := hw.symm
      go_wp2_with fail
      go_region_held3 (fun _ => True) (exact trivial)
        (first
        | (go_at_call 85; refine (HK.out _).mono ?_; rintro e w1 ⟨rfl, hw⟩; obtain rfl := hw.symm)
        | fail)
      all_goals refine at_world (P := fun W5 => Below wr.heap.size wr W5 ∧ W5.heap[wr.heap.size]? = some (.cells #[.int .i64 (pos : Int), bv (Jr.kd first true), .slice A2 q c2] 123 (0, 0))) (by first | exact ⟨B0.alloc (by simp) _, heap_alloc_new wr.drew _⟩ | exact ⟨below_drew ((Below.refl _ _).alloc (Nat.le_refl _) _), heap_alloc_new wr _⟩) ?_
      all_goals
        rintro W5 ⟨hb5, hrow⟩
        have hj5 : J pre W5 := HJ.out _ _ _ none hj (grown_of_below hb5) (fun r e => by cases e)
        obtain ⟨q0, q1, q2⟩ := row3 hrow
        obtain ⟨fn, tmps, assign, body, hy, hR⟩ := HY.out pre ⟨⟨pos, Jr.kd first true, A2, q, c2, r2.take q⟩, hok⟩ W5 hj5 ⟨[], by rw [HAll.out, HLast.out (by omega)]; show pts pre ++ [_] = pts pre ++ [(⟨pos, Jr.kd first true, r2.take q⟩ : Jr.Part)]; rw [List.take_of_length_le (by omega)]⟩
        have hy : (Instr.yield l #[pv pos (Jr.kd first true) A2 q c2]).run Try.prog W5 = .ok (.round l fn tmps assign body) W5 := hy
        have HRd := Lib.hid hR
        have L5 := HLow.out.below hb5
        have hpts : pts (pre ++ [(⟨⟨pos, Jr.kd first true, A2, q, c2, r2.take q⟩, hok⟩ : PX w n₀)]) = pts pre ++ [⟨pos, Jr.kd first true, r2.take q⟩] := by simp [pts, PV.p]
        have HPts := Lib.hid hpts
        clear hR hj5 hpts
        go_upto_region 6 with fail
        refine (wpIn_wide (n := m + 1)).1 ?_
        gi_wp2_with fail
        refine HRd.out.mono ?_
        rintro e W6 (⟨rfl, hJ6, hk6⟩ | ⟨rfl, hJx6⟩)
        · gi_wp2_with fail
          go_wp2
          refine bodyPost_ret (results_none rfl _ _ _) rfl ?_
          exact ⟨⟨_, rfl⟩, .inl ⟨_, by rw [HPts.out, HAll.out, HLast.out (by omega), List.take_of_length_le (by omega)], hJ6⟩⟩
        · gi_wp2_with fail
          go_wp2
          refine bodyPost_ret (results_none rfl _ _ _) rfl ?_
          exact ⟨⟨_, rfl⟩, .inr ⟨_, trivial, hJx6⟩⟩
    · have HK := Lib.hid (fun W => kindOf_any first false W)
      have hqe2 : ¬ (q : Int) = (n2 : Int) := by omega
      have hqe3 : ((q : Int) == (n2 : Int)) = false := by simp; omega
      have hok : PV.ok w n₀ ⟨pos, Jr.kd first false, A2, q, c2, r2.take q⟩ := ⟨HLow.out.back (lies_take (HLow.out.lies HL2.out) hqn), by show q ≤ c2; omega, hcc2, by show q ≤ 65535; omega, by show pos ≤ _; omega⟩
      go_wp2_with fail
      refine (HRo.out wr).mono ?_
      rintro e w1 ⟨rfl, hw⟩
      obtain rfl := hw.symm
      go_wp2_with fail
      go_region_held3 (fun _ => True) (exact trivial)
        (first
        | (go_at_call 85; refine (HK.out _).mono ?_; rintro e w1 ⟨rfl, hw⟩; obtain rfl := hw.symm)
        | fail)
      all_goals refine at_world (P := fun W5 => Below wr.heap.size wr W5 ∧ W5.heap[wr.heap.size]? = some (.cells #[.int .i64 (pos : Int), bv (Jr.kd first false), .slice A2 q c2] 123 (0, 0))) (by first | exact ⟨B0.alloc (by simp) _, heap_alloc_new wr.drew _⟩ | exact ⟨below_drew ((Below.refl _ _).alloc (Nat.le_refl _) _), heap_alloc_new wr _⟩) ?_
      all_goals
        rintro W5 ⟨hb5, hrow⟩
        have hj5 : J pre W5 := HJ.out _ _ _ none hj (grown_of_below hb5) (fun r e => by cases e)
        obtain ⟨q0, q1, q2⟩ := row3 hrow
        obtain ⟨fn, tmps, assign, body, hy, hR⟩ := HY.out pre ⟨⟨pos, Jr.kd first false, A2, q, c2, r2.take q⟩, hok⟩ W5 hj5 ⟨_, by rw [HAll.out, HMore.out (by omega) hroom, show rm - 7 = q by omega]; rfl⟩
        have hy : (Instr.yield l #[pv pos (Jr.kd first false) A2 q c2]).run Try.prog W5 = .ok (.round l fn tmps assign body) W5 := hy
        have HRd := Lib.hid hR
        have L5 := HLow.out.below hb5
        have hpts : pts (pre ++ [(⟨⟨pos, Jr.kd first false, A2, q, c2, r2.take q⟩, hok⟩ : PX w n₀)]) = pts pre ++ [⟨pos, Jr.kd first false, r2.take q⟩] := by simp [pts, PV.p]
        have HPts := Lib.hid hpts
        clear hR hj5 hpts
        go_upto_region 6 with fail
        refine (wpIn_wide (n := m + 1)).1 ?_
        gi_wp2_with fail
        refine HRd.out.mono ?_
        rintro e W6 (⟨rfl, hJ6, hk6⟩ | ⟨rfl, hJx6⟩)
        · obtain ⟨p0, p1, p2⟩ := row3 (hk6.2 _ _ hrow (.inr (.inr (.inl rfl))))
          have L6 := L5.kp hk6
          have HE := Lib.hid (end_any pos (Jr.kd first false) A2 q c2 W6 (by omega) (by omega))
          have HJ6 := Lib.hid hJ6; have HL6 := Lib.hid L6
          clear hJ6 L6 L5 hk6 q0 q1 q2 hrow hy
          gi_wp2_with fail
          go_wp2_with fail
          refine HE.out.mono ?_
          rintro e W7 ⟨rfl, hb7⟩
          have hJ7 : J _ W7 := HJ.out _ _ _ none HJ6.out (grown_of_below hb7) (fun r e => by cases e)
          have hR7 : CutRel n₀ n (Jr.enc true np r) J (.int .i64 ((pos + 7 + q : Nat) : Int)) (.slice (cutA A2 c2 q) (n2 - q) (c2 - q)) (.bool false) W7 :=
            ⟨_, pos + 7 + q, _, _, _, r2.drop q, false, rfl, rfl, rfl, hJ7, by
              rw [HPts.out, HAll.out, HMore.out (by omega) hroom, show rm - 7 = q by omega, show pos + rm = pos + 7 + q by omega]
              simp, by rw [show pos + 7 + q = pos + Jr.room pos by rw [hrm]; omega, Jr.room_add]; decide, by omega, by rw [List.length_append, List.length_singleton]; omega, HL6.out.below hb7, HL2.out.cutA hqn hnc2, by omega, by omega⟩
          have HR7 := Lib.hid hR7
          clear hJ7 hR7 hb7 p0 p1 p2 HE
          go_wp2
          go_roundw
          case rel => exact HR7.out
          case measure => simp [lenV]; omega
        · gi_wp2_with fail
          go_wp2
          refine bodyPost_ret (results_none rfl _ _ _) rfl ?_
          exact ⟨⟨_, rfl⟩, .inr ⟨_, trivial, hJx6⟩⟩
end Go.Proofs.Ytopcnlophmplgaa
