/-
  The walk of BlocksMany.
-/
import Derived.Test.YtiodiiedgmobjaaAl8
import Derived.Test.YtiodiiedgmobjaaSameE
import Derived.LoopTactic
namespace Go.Proofs.Ytiodiiedgmobjaa
open Go.RowKit
set_option linter.unusedVariables false
set_option maxRecDepth 100000

theorem ent8_v (k : ByteArray) (s : Nat) (w : World) : Calls Try.prog 19 #[.string k, .int .u64 (s : Int), .string ⟨#[118]⟩] w fun e w' => e = .returned (.agg #[.string k, .int .u64 (s : Int), .bool false, .string ⟨#[118]⟩]) ∧ Below w.heap.size w w' := by
  have q := ent8_any k s ⟨#[118]⟩ w
  unfold mkE En.v at q
  rw [em118] at q
  exact q
def manyE (s i : Nat) : En := ⟨⟨⟨#[107, UInt8.ofNat i]⟩, s, false⟩, ⟨#[118]⟩⟩
def manyL (s n : Nat) : List En := (List.range n).map (manyE s)
theorem manyL_succ (s n : Nat) : manyL s (n + 1) = manyL s n ++ [manyE s n] := by unfold manyL; rw [List.range_succ, List.map_append]; rfl
theorem manyL_len (s n : Nat) : (manyL s n).length = n := by unfold manyL; simp
theorem many_fine (s i : Nat) : fineE (manyE s i) = true := by
  unfold fineE manyE chk
  have : (ByteArray.mk #[107, UInt8.ofNat i]).size = 2 := rfl
  have h2 : (ByteArray.mk #[118]).size = 1 := rfl
  simp only [this, h2]
  simp
theorem less_two (c : UInt8) (i j : Nat) (hi : i < j) (hj : j < 256) : lessB ⟨#[c, UInt8.ofNat i]⟩ ⟨#[c, UInt8.ofNat j]⟩ = true := by
  rw [lessB_eq]
  apply decide_eq_true
  show [c, UInt8.ofNat i] < [c, UInt8.ofNat j]
  have : UInt8.ofNat i < UInt8.ofNat j := by
    rw [UInt8.lt_iff_toNat_lt, Vi.toNat_ofNat _ (by omega), Vi.toNat_ofNat _ (by omega)]; exact hi
  rw [List.cons_lt_cons_iff, List.cons_lt_cons_iff]
  exact .inr ⟨rfl, .inl this⟩
theorem many_rise (s n : Nat) (hn : n ≤ 256) : Rise (manyL s n) := by
  unfold Rise manyL
  rw [List.pairwise_map]
  refine List.Pairwise.imp_of_mem ?_ List.pairwise_lt_range
  intro i j hi hj hij
  rw [List.mem_range] at hi hj
  have h := less_two 107 i j hij (by omega)
  rw [cmpM_eq]
  have hc : cmpS (manyE s i).m.k (manyE s j).m.k = -1 := if_pos h
  rw [hc, if_pos (by decide)]
  decide
theorem many_ok (s n : Nat) (h1 : 1 ≤ n) (h2 : n ≤ 64) : okB (manyL s n) = true := by
  refine (okB_iff _).2 ⟨by rw [manyL_len]; exact h1, by rw [manyL_len]; exact h2, fun e he => ?_, many_rise s n (by omega)⟩
  obtain ⟨i, _, rfl⟩ := List.mem_map.1 he
  exact many_fine s i
theorem many_no (s n : Nat) (h2 : 64 < n) : okB (manyL s n) = false := by
  unfold okB; rw [manyL_len, decide_eq_false (p := n ≤ 64) (by omega)]; simp
theorem many_seqs (s n : Nat) (hs : s < 18446744073709551616) : ∀ e ∈ manyL s n, e.m.s < 18446744073709551616 := by
  intro e he
  obtain ⟨i, _, rfl⟩ := List.mem_map.1 he
  exact hs
theorem many_sz (s n : Nat) : ∀ e ∈ manyL s n, e.m.k.size ≤ 140737488351232 ∧ e.x.size ≤ 140737488351232 := by
  intro e he
  obtain ⟨i, _, rfl⟩ := List.mem_map.1 he
  have h := fine_size (many_fine s i)
  exact ⟨by omega, by omega⟩
def ManyR (W : World) (s n : Nat) (v i : Value) (wr : World) : Prop :=
  ∃ k : Nat, k ≤ n ∧ i = .int .i64 (k : Int) ∧ wr.ownsRow W.heap.size 41 4 v k (ecs (manyL s k)) ∧ Below W.heap.size W wr

set_option maxHeartbeats 8000000 in
theorem blocksMany_walk (m0 m1 : Nat) (W : World) (h0 : m0 < 256) (h1 : m1 < 18446744073709551616) :
    Calls Try.prog 7 #[.int .u8 (m0 : Int), .int .u64 (m1 : Int)] W fun e W' => e = .returned (.bool true) ∧ Below W.heap.size W W' := by
  obtain ⟨i0, hi, hz0, hz1, hz2⟩ := info_parts entry_info
  obtain ⟨r, hr⟩ : ∃ r, m0 % 6 = r := ⟨_, rfl⟩
  obtain ⟨n, hn⟩ : ∃ n, 61 + r = n := ⟨_, rfl⟩
  have hn6 : 61 ≤ n ∧ n ≤ 66 := by omega
  have e1 : (m0 : Int) % 6 = (r : Int) := by omega
  have e2 : 61 + (r : Int) = (n : Int) := by omega
  have hr6 : (r : Int) ≤ 5 := by omega
  clear hr hn
  go_enter Try.func7, Try.ntmps7
  go_wp2
  clear e1 e2
  go_loopw [6, 7] (fun v i wr => ManyR W m1 n v i wr) (fun _ i _ => n - (intOf i).toNat)
  case atStart => exact ⟨0, Nat.zero_le _, rfl, World.ownsRow_nil _ _ _ _, Below.refl _ _⟩
  case round =>
    obtain ⟨k, hk, rfl, hown, hb⟩ := hrel
    obtain ⟨Av, cv, rfl, hnv, hcv, _⟩ := own_shape hown
    have HO := Lib.hid hown; have HB := Lib.hid hb
    have hbs := hb.size
    clear hown hb
    by_cases hlt : k < n
    · have hk8 : (k : Int) % 256 = (k : Int) := by omega
      have hk9 : (k : Int) < 256 := by omega
      have HA : Hid (Below wr.heap.size wr (wr.alloc (.cells #[.int .u8 107, .int .u8 (k : Int)] 5))) := (Below.refl _ _).alloc (Nat.le_refl _) _
      have hL : Lies (wr.alloc (.cells (([107, UInt8.ofNat k] : List UInt8).map bv).toArray 5)) (wr.alloc (.cells (([107, UInt8.ofNat k] : List UInt8).map bv).toArray 5)).heap.size 1 (some ⟨wr.heap.size, 0, none⟩) 2 (([107, UInt8.ofNat k] : List UInt8).map bv) := lit_lies wr [107, UInt8.ofNat k]
      have hbvk : bv (UInt8.ofNat k) = .int .u8 (k : Int) := bv_ofNat k (by omega)
      have hmap : (([107, UInt8.ofNat k] : List UInt8).map bv).toArray = #[.int .u8 107, .int .u8 (k : Int)] := by
        rw [List.map_cons, List.map_cons, List.map_nil, hbvk]; rfl
      have hstr := run_str (P := Try.prog) _ 23 9 5 Try.underlying23 Try.underlying5 Try.underlying9 (l := [107, UInt8.ofNat k]) 2 hL
      rw [hmap] at hstr
      have hstr : (convert 23 9 (.slice (some ⟨wr.heap.size, 0, none⟩) 2 2)).run Try.prog (wr.alloc (.cells #[.int .u8 107, .int .u8 (k : Int)] 5)) = .ok (.string ⟨#[107, UInt8.ofNat k]⟩) (wr.alloc (.cells #[.int .u8 107, .int .u8 (k : Int)] 5)) := hstr
      have HEv := Lib.hid (fun w => ent8_v ⟨#[107, UInt8.ofNat k]⟩ m1 w)
      clear hL hbvk hmap
      go_wp2_with fail
      refine (HEv.out _).mono ?_
      rintro e w2 ⟨rfl, hb2⟩
      have hb3 := HA.out.trans (hb2.mono HA.out.size)
      have HO2 := Lib.hid (own_below HO.out hb3)
      have hb4 := HB.out.trans (hb3.mono HB.out.size)
      have HB2 := Lib.hid hb4
      have hbs2 := hb4.size
      have HE3 : Hid (Lies (w2.alloc (.cells #[.string ⟨#[107, UInt8.ofNat k]⟩, .int .u64 (m1 : Int), .bool false, .string ⟨#[118]⟩] 41)) (w2.heap.size + 1) 4 (some ⟨w2.heap.size, 0, none⟩) 1 (ecs [manyE m1 k])) := en_lies w2 (manyE m1 k)
      clear hstr hb2 hb3 hb4 HA HB HO hk8
      unfold maxLen at hcv
      go_wp2_with (at_builtin; refine wpList_app _ rfl (.tmp 21) (.tmp 28) 22 rfl W.heap.size 41 i0 _ 4 48 Try.underlying22 hi hz0 hz1 hz2 rfl (by decide) (.slice Av k cv) k (ecs (manyL m1 k)) rfl (HO2.out.alloc _) (w2.heap.size + 1) (some ⟨w2.heap.size, 0, none⟩) 1 1 (ecs [manyE m1 k]) rfl HE3.out (ecs_one _) (by unfold maxLen; omega) (by omega) (by simp; omega) ?_)
      intro v5 w5 ho5 hg5 _
      have hupA : Below W.heap.size W (w2.alloc (.cells #[.string ⟨#[107, UInt8.ofNat k]⟩, .int .u64 (m1 : Int), .bool false, .string ⟨#[118]⟩] 41)) := HB2.out.alloc HB2.out.size _
      have HR5 : Hid (ManyR W m1 n v5 (.int .i64 ((k + 1 : Nat) : Int)) w5) := by
        refine ⟨k + 1, hlt, rfl, ?_, hupA.grown hg5 hupA.size (fun j hj => (HO2.out.lt j hj).1)⟩
        rw [manyL_succ, show ecs (manyL m1 k ++ [manyE m1 k]) = ecs (manyL m1 k) ++ ecs [manyE m1 k] from by simp [ecs]]
        exact ho5
      obtain ⟨A5, c5, rfl, _⟩ := own_shape ho5
      clear ho5 hg5 hupA HE3
      go_wp2
      go_roundw
      case rel => exact HR5.out
      case measure => simp [intOf]; omega
    · obtain rfl : k = n := by omega
      obtain ⟨S, hS⟩ : ∃ S, manyL m1 k = S := ⟨_, rfl⟩
      have hSl : S.length = k := by rw [← hS]; exact manyL_len _ _
      have hSq : ∀ e ∈ S, e.m.s < 18446744073709551616 := by rw [← hS]; exact many_seqs m1 k h1
      have hSz : ∀ e ∈ S, e.m.k.size ≤ 140737488351232 ∧ e.x.size ≤ 140737488351232 := by rw [← hS]; exact many_sz m1 k
      have hEL : EL wr wr.heap.size Av k cv S := ⟨by rw [← hS]; exact Lies.of_own HO.out, Nat.le_refl _, hnv, hcv, hSz⟩
      have HP := Lib.hid (bput_any S hSq Av k cv wr.heap.size wr hEL)
      have HEL := Lib.hid hEL; have HSq := Lib.hid hSq; have HSl := Lib.hid hSl
      by_cases h64 : 64 < k
      · have hno : okB S = false := by rw [← hS]; exact many_no m1 k h64
        have HNo := Lib.hid hno
        have h64i : decide ((64 : Int) < (k : Int)) = true := decide_eq_true (by omega)
        clear hno hEL hSq hSz hSl hS
        go_wp2_with fail
        refine HP.out.mono ?_
        rintro e w3 ⟨hb3, _, p0⟩
        obtain rfl := p0 HNo.out
        have H3 := Lib.hid (HB.out.trans (hb3.mono HB.out.size))
        clear hb3 p0 HP
        go_wp2_with fail
        refine (alive8_any w3).mono ?_
        rintro e w4 ⟨rfl, hb4⟩
        have HF := Lib.hid (H3.out.trans (hb4.mono H3.out.size))
        clear hb4
        go_wp2
        go_ret
        exact ⟨rfl, HF.out⟩
      · have hyes : okB S = true := by rw [← hS]; exact many_ok m1 k (by omega) (by omega)
        have HYes := Lib.hid hyes
        have h64i : decide ((64 : Int) < (k : Int)) = false := decide_eq_false (by omega)
        have hel := encB_len S hyes
        obtain ⟨q, hq1, _, hq3, hq4⟩ := enc_last S hyes
        have hq5 := places_len S
        rw [hSl] at hq5
        obtain ⟨P, hP⟩ : ∃ P, (places S).length = P := ⟨_, rfl⟩
        rw [hP] at hq1 hq3 hq4 hq5
        have hg := getB_enc S hyes hSq
        obtain ⟨E, hE⟩ : ∃ E, encB S = E := ⟨_, rfl⟩
        rw [hE] at hq1 hel hg
        have HG0 := Lib.hid hg; have HE := Lib.hid hE; have HQ1 := Lib.hid hq1
        clear hyes hEL hSq hSz hSl hS hE hg hq1
        go_wp2_with fail
        refine HP.out.mono ?_
        rintro e w3 ⟨hb3, p1, _⟩
        obtain ⟨A3, c3, rfl, ho3⟩ := p1 HYes.out
        rw [HE.out] at ho3 ⊢
        obtain ⟨_, _, hv, hn3, hc3, _⟩ := own_shape ho3
        injection hv with f1 f2 f3
        subst f1 f3
        have H3 := Lib.hid (HB.out.trans (hb3.mono HB.out.size))
        have HEL3 := Lib.hid (HEL.out.below hb3)
        have HG := Lib.hid (bget_any A3 E.length c3 E w3 (Lies.of_own ho3) hn3 hc3 (by omega))
        rw [HG0.out] at HG
        have HO3 := Lib.hid ho3
        obtain ⟨N, hN⟩ : ∃ N, E.length = N := ⟨_, rfl⟩
        have HN := Lib.hid hN
        rw [hN] at HG HO3 hel ⊢
        clear hb3 p1 HP ho3 hn3 hN
        go_wp2_with fail
        refine HG.out.mono ?_
        rintro e w4 ⟨hb4, g1, _⟩
        obtain ⟨A4, c4, rfl, ho4, _⟩ := g1 S rfl
        rw [HSl.out] at ho4 ⊢
        have H4 := Lib.hid (H3.out.trans (hb4.mono H3.out.size))
        have HEL4 := Lib.hid (HEL3.out.below hb4)
        have HO4 := Lib.hid (own_below HO3.out hb4)
        have HO5 := Lib.hid ho4
        clear hb4 g1 ho4 HG HO3 HEL3 HEL
        go_wp2_with fail
        refine (alive8_any w4).mono ?_
        rintro e w5 ⟨rfl, hb5⟩
        have H5 := Lib.hid (H4.out.trans (hb5.mono H4.out.size))
        have HEL5 := Lib.hid (HEL4.out.below hb5)
        have HO6 := Lib.hid (own_below HO4.out hb5)
        have HO7 := Lib.hid (own_below HO5.out hb5)
        have HSm := Lib.hid (sameE_yes (c := c4) (c2 := cv) (Lies.of_own HO7.out) (HEL5.out.lies.more HEL5.out.B) (by omega))
        clear hb5 HO4 HO5 HEL4
        go_wp2_with fail
        refine HSm.out.mono ?_
        rintro e w6 ⟨rfl, hb6⟩
        have H6 := Lib.hid (H5.out.trans (hb6.mono H5.out.size))
        have hl6 := Lies.of_own (own_below HO6.out hb6)
        have hNq : q.length + 2 = N := by have := HQ1.out; have := congrArg List.length this; rw [HN.out] at this; simpa using this.symm
        obtain ⟨b, o, u, rfl, hbB, hu, hc0⟩ := hl6.at_ (j := N - 2) (by omega)
        obtain ⟨b', o', u', hA', _, hu', hc1⟩ := hl6.at_ (j := N - 1) (by omega)
        injection hA' with hA'
        injection hA' with e1 e2
        subst e1 e2
        have hu0 : u = .int .u8 0 := by
          rw [HQ1.out, List.getElem?_map] at hu
          rw [show N - 2 = q.length by omega] at hu
          simp at hu
          exact hu.symm
        have hu1 : u' = .int .u8 (P : Int) := by
          rw [HQ1.out, List.getElem?_map] at hu'
          rw [show N - 1 = q.length + 1 by omega] at hu'
          simp at hu'
          rw [← hu', bv_ofNat P (by omega)]
        subst hu0 hu1
        have i1 : (N : Int) - 2 = ((N - 2 : Nat) : Int) := by omega
        have i2 : (N : Int) - 1 = ((N - 1 : Nat) : Int) := by omega
        obtain ⟨N2, hN2⟩ : ∃ q, N - 2 = q := ⟨_, rfl⟩
        obtain ⟨N1, hN1⟩ : ∃ q, N - 1 = q := ⟨_, rfl⟩
        rw [hN2] at i1 hc0
        rw [hN1] at i2 hc1
        have i3 : (N2 : Int) < (N : Int) := by omega
        have i4 : (N1 : Int) < (N : Int) := by omega
        have i5 : ((k : Int) + 3) / 4 = (P : Int) := by omega
        have i6 : N2 < N := by omega
        have i7 : N1 < N := by omega
        clear hb6 hl6 hu hu' HSm HO6 HO7 HEL5 hN2 hN1 hNq hq5
        go_wp2
        go_ret
        exact ⟨rfl, H6.out⟩
end Go.Proofs.Ytiodiiedgmobjaa
