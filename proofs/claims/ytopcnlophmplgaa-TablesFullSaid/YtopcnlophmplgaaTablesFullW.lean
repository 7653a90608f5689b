/-
  The walk of TablesFull.
-/
import Derived.Test.YtopcnlophmplgaaAlive7
import Derived.Test.YtopcnlophmplgaaStr
import Derived.Deep.DeepCutAuto
import Derived.Deep.RegionWith
namespace Go.Proofs.Ytopcnlophmplgaa
open Go.RowKit
set_option linter.unusedVariables false
set_option maxRecDepth 100000

def M0 : Mk := ⟨⟨#[97, 0]⟩, 0, false⟩
/-- k entries are there, of numbers below k -/
def FullS (k : Nat) (S : List En) : Prop := S.length = min k 4096 ∧ (∀ e ∈ S, e.m.s < k) ∧ (1 ≤ k → ∃ e ∈ S, e.m = M0)
def FullRel (W : World) (t N : Nat) (j : Nat) (i : Value) (wr : World) : Prop := ∃ k S, k + j = N ∧ i = .int .i64 (k : Int) ∧ Tb W wr t S ∧ FullS k S
def FullRel2 (W : World) (t : Nat) (j : Nat) (i : Value) (wr : World) : Prop := ∃ k S, 1 ≤ k ∧ k + j = 4099 ∧ i = .int .i64 (k : Int) ∧ Tb W wr t S ∧ FullS k S
theorem FullS.put {k : Nat} {S : List En} (h : FullS k S) (x : En) (c : Int) (hx : fineE x = true) (hc : okK c = true) (hs : x.m.s = k) (h0 : k = 0 → x.m = M0) :
    putE S x c = (if k < 4096 then 0 else 6) ∧ FullS (k + 1) (putS S x c) := by
  have hm : hasM S x.m = false := by
    cases hq : hasM S x.m
    · rfl
    · obtain ⟨e, he, e2⟩ := (hasM_iff _ _).1 hq
      have := h.2.1 e he
      rw [e2, hs] at this; omega
  have e1 : putE S x c = if k < 4096 then 0 else 6 := by
    unfold putE
    rw [hx, hc, hm]
    simp only [Bool.and_self, Bool.not_true, Bool.false_eq_true, if_false]
    have hl := h.1
    by_cases hk : k < 4096
    · rw [if_neg (by omega), if_pos hk]
    · rw [if_pos (by omega), if_neg hk]
  refine ⟨e1, ?_⟩
  unfold putS
  by_cases hk : k < 4096
  · rw [if_pos (by rw [e1, if_pos hk])]
    refine ⟨by rw [insE_len, h.1]; omega, fun e he => ?_, fun _ => ?_⟩
    · rcases (mem_insE _ _ _).1 he with rfl | he
      · omega
      · have := h.2.1 e he; omega
    · by_cases hz : k = 0
      · exact ⟨x, (mem_insE _ _ _).2 (.inl rfl), h0 hz⟩
      · obtain ⟨e, he, e2⟩ := h.2.2 (by omega)
        exact ⟨e, (mem_insE _ _ _).2 (.inr he), e2⟩
  · rw [if_neg (by rw [e1, if_neg hk]; decide)]
    refine ⟨by rw [h.1]; omega, fun e he => by have := h.2.1 e he; omega, fun _ => h.2.2 (by omega)⟩
/-- what Put does with an entry of the next number -/
theorem full_put {W w : World} {t k : Nat} {S : List En} (h : Tb W w t S) (hF : FullS k S) (x : En) (c : Int) (hx : fineE x = true) (hc : okK c = true) (hs : x.m.s = k) (h0 : k = 0 → x.m = M0) (hk4 : x.m.k.size ≤ 140737488351232) (hx4 : x.x.size ≤ 140737488351232) :
    Calls Try.prog 22 #[tp t, x.v, .int .i64 c] w fun e w' => e = .returned (.int .i64 (if k < 4096 then 0 else 6)) ∧ ∃ S', Tb W w' t S' ∧ FullS (k + 1) S' := by
  obtain ⟨e1, e2⟩ := hF.put x c hx hc hs h0
  refine (tb_put h x hk4 hx4 c).mono fun e w' ⟨he, hT⟩ => ⟨?_, _, hT, e2⟩
  rw [he, e1]
  by_cases hk : k < 4096
  · rw [if_pos hk, if_pos hk]; rfl
  · rw [if_neg hk, if_neg hk]; rfl
set_option maxHeartbeats 4000000 in
theorem tablesFull_walk (f tl : Nat) (cs : List UInt8) (w : World) (hf : f < 256) (htl : tl < 256) (hcs : cs.length = 2) :
    Calls Try.prog 8 #[.int .u8 (f : Int), .int .u8 (tl : Int), .agg (cs.map bv).toArray] w fun e w' => e = .returned (.bool true) ∧ Below w.heap.size w w' := by
  match cs, hcs with
  | [a, b], _ =>
  clear hcs
  obtain ⟨n0, hn0, hn3⟩ : ∃ n0 : Nat, (f : Int) % 3 = (n0 : Int) ∧ n0 < 3 := ⟨f % 3, by omega, by omega⟩
  obtain ⟨N, hN, hN1, hN2⟩ : ∃ N : Nat, (4096 : Int) - (n0 : Int) = (N : Int) ∧ 4094 ≤ N ∧ N ≤ 4096 := ⟨4096 - n0, by omega, by omega, by omega⟩
  obtain ⟨W, hW⟩ : ∃ W, w.alloc (Obj.cells #[bv a, bv b] 69) = W := ⟨_, rfl⟩
  have hbW : Below w.heap.size w W := by rw [← hW]; exact (Below.refl _ _).alloc (Nat.le_refl _) _
  have hWz : W.heap.size = w.heap.size + 1 := by rw [← hW]; simp
  have hWx : W.heap[w.heap.size]? = some (.cells #[bv a, bv b] 69 (0, 0)) := by rw [← hW]; exact heap_alloc_new w _
  have HWX := Lib.hid hWx; have HWZ := Lib.hid hWz; have HBW := Lib.hid hbW
  clear hWx hWz hbW
  go_enter Try.func8, Try.ntmps8
  go_wp2_with fail
  refine (tb_new (Below.refl _ W)).mono ?_
  rintro e w1 ⟨t, rfl, h1, hb1⟩
  have HR : Hid (FullRel W t N N (.int .i64 0) w1) := ⟨0, [], by omega, rfl, h1, ⟨rfl, (fun e he => by cases he), (fun h => by omega)⟩⟩
  clear h1 hb1 hW
  go_wp2_with fail
  go_loopg [9] N (fun j i wr => FullRel W t N j i wr)
  case atStart => exact HR.out
  case round =>
    clear HR hn0 hN
    obtain ⟨k, S, hkN, rfl, hT, hF⟩ := hrel
    by_cases hlt : k < N
    · have i0 : (k : Int) < (N : Int) := by omega
      obtain ⟨q, hq, hq2⟩ : ∃ q : Nat, (k : Int) / 200 = (q : Int) ∧ q ≤ 20 := ⟨k / 200, by omega, by omega⟩
      obtain ⟨r, hr, hr2⟩ : ∃ r : Nat, (k : Int) % 7 = (r : Int) ∧ r < 7 := ⟨k % 7, by omega, by omega⟩
      obtain ⟨h, hh, hh2⟩ : ∃ h : Nat, ((k : Int) + (tl : Int)) % 8 = (h : Int) ∧ h < 8 := ⟨(k + tl) % 8, by omega, by omega⟩
      have q0 : IntKind.i64.wrap (q : Int) = (q : Int) := IntWalk.i64_in _ (by omega)
      have q1 : IntKind.u8.wrap (q : Int) = (q : Int) := IntWalk.u8_in _ (by omega)
      have q2 : IntKind.u8.wrap (97 + (q : Int)) = 97 + (q : Int) := IntWalk.u8_in _ (by omega)
      have r0 : (k : Int).tmod 7 = (r : Int) := by rw [Int.tmod_eq_emod_of_nonneg (by omega)]; exact hr
      have h0 : ((k : Int) + (tl : Int)).tmod 8 = (h : Int) := by rw [Int.tmod_eq_emod_of_nonneg (by omega)]; exact hh
      have r1 : IntKind.u8.wrap (r : Int) = (r : Int) := IntWalk.u8_in _ (by omega)
      have k1 : IntKind.u64.wrap (k : Int) = (k : Int) := IntWalk.u64_in _ (by omega)
      have t1 : IntKind.i64.wrap (tl : Int) = (tl : Int) := IntWalk.i64_in _ (by omega)
      have t2 : IntKind.i64.wrap ((k : Int) + (tl : Int)) = (k : Int) + (tl : Int) := IntWalk.i64_in _ (by omega)
      have t3 : IntKind.i64.wrap (1 + (h : Int)) = 1 + (h : Int) := IntWalk.i64_in _ (by omega)
      obtain ⟨u, hu⟩ : ∃ u : UInt8, u.toNat = 97 + q := ⟨UInt8.ofNat (97 + q), by rw [UInt8.toNat_ofNat']; omega⟩
      obtain ⟨v, hv⟩ : ∃ v : UInt8, v.toNat = r := ⟨UInt8.ofNat r, by rw [UInt8.toNat_ofNat']; omega⟩
      have hbw := hT.low
      have eU : (#[.int .u8 (97 + (q : Int)), .int .u8 (r : Int)] : Array Value) = ([u, v].map bv).toArray := by
        show _ = #[Value.int .u8 (u.toNat : Int), Value.int .u8 (v.toNat : Int)]
        rw [hu, hv]
        congr 2
      have hL : Below wr.heap.size wr (wr.alloc (.cells #[.int .u8 (97 + (q : Int)), .int .u8 (r : Int)] 5)).drew := ((Below.refl _ _).alloc (Nat.le_refl _) _).drew
      have c31 : (convert 33 9 (.slice (some ⟨wr.heap.size, 0, none⟩) 2 2)).run Try.prog (wr.alloc (.cells #[.int .u8 (97 + (q : Int)), .int .u8 (r : Int)] 5)).drew = .ok (.string ⟨#[u, v]⟩) (wr.alloc (.cells #[.int .u8 (97 + (q : Int)), .int .u8 (r : Int)] 5)).drew := by
        have hl := (lits_lie (w := wr) rfl ([u, v].map bv) 5)
        rw [← eU] at hl
        exact run_str (P := Try.prog) _ 33 9 5 Try.underlying33 Try.underlying5 Try.underlying9 (l := [u, v]) 2 (hl.drewN 1)
      have hv0 : ∀ W', Below wr.heap.size wr W' → Lies W' W'.heap.size 1 (some ⟨w.heap.size, 0, none⟩) 2 ([a, b].map bv) := fun W' hb' => by
        have h1 : W'.heap[w.heap.size]? = some (.cells #[bv a, bv b] 69 (0, 0)) := ((hb'.block _ (by have := hbw.size; have := HWZ.out; omega)).trans (hbw.block _ (by have := HWZ.out; omega))).trans HWX.out
        refine ⟨rfl, fun j hj => ⟨_, ([a, b].map bv)[j], rfl, (Array.getElem?_eq_some_iff.1 h1).1, List.getElem?_eq_getElem hj, ?_⟩⟩
        rw [add_lit, Nat.zero_add, cell_of_row W' _ j _ _ (0, 0) h1, List.getElem?_toArray]
        exact List.getElem?_eq_getElem hj
      have c36 : ∀ W', Below wr.heap.size wr W' → (convert 33 9 (.slice (some ⟨w.heap.size, 0, none⟩) 2 2)).run Try.prog W' = .ok (.string ⟨#[a, b]⟩) W' := fun W' hb' =>
        run_str (P := Try.prog) _ 33 9 5 Try.underlying33 Try.underlying5 Try.underlying9 (l := [a, b]) 2 (hv0 W' hb')
      have c36a := c36 wr.drew (Below.refl _ _).drew
      have c36b := c36 _ hL
      have GP : Hid (∀ W', Below wr.heap.size wr W' → Calls Try.prog 22 #[tp t, .agg #[.string ⟨#[u, v]⟩, .int .u64 (k : Int), .bool false, .string ⟨#[a, b]⟩], .int .i64 (1 + (h : Int))] W' fun e w' => e = .returned (.int .i64 0) ∧ ∃ S', Tb W w' t S' ∧ FullS (k + 1) S') := fun W' hb' => by
        have := full_put (hT.below hb') hF ⟨⟨⟨#[u, v]⟩, k, false⟩, ⟨#[a, b]⟩⟩ (1 + (h : Int)) (by
          unfold fineE chk
          simp [ByteArray.size]) (by unfold okK; exact decide_eq_true (by omega)) rfl (fun hk0 => by
          subst hk0
          have e1 : q = 0 := by omega
          have e2 : r = 0 := by omega
          have eu : u = 97 := UInt8.toNat_inj.1 (by rw [hu, e1]; rfl)
          have ev : v = 0 := UInt8.toNat_inj.1 (by rw [hv, e2]; rfl)
          rw [eu, ev]; rfl) (by show 2 ≤ 140737488351232; decide) (by show 2 ≤ 140737488351232; decide)
        rw [if_pos (by omega)] at this
        exact this
      have HT := Lib.hid hT; have HF := Lib.hid hF
      clear hu hv hT hF eU hv0 c36 hbw
      go_upto_region 6 with fail
      go_cut [45] (fun s45 wx => s45 = .bool false ∧ ∃ S', Tb W wx t S' ∧ FullS (k + 1) S')
      case first =>
        go_region_with (first | (go_at_call 22; with_reducible refine Calls.mono (GP.out _ (by assumption)) ?_; rintro e w3 ⟨rfl, S', hT', hF'⟩))
        all_goals (go_wp2_with fail; go_meet)
        all_goals exact ⟨rfl, S', hT', hF'⟩
      case rest =>
        obtain ⟨rfl, S', hT', hF'⟩ := hcut
        have HT' := Lib.hid hT'; have HF' := Lib.hid hF'
        clear hT' hF' c31 c36a c36b GP
        go_wp2_with fail
        go_roundg (N - (k + 1))
        case measure => omega
        case rel => exact ⟨k + 1, S', by omega, by go_num, HT'.out, HF'.out⟩
    · obtain rfl : k = N := by omega
      have i0 : ¬ (k : Int) < (k : Int) := by omega
      have HR : Hid (FullRel2 W t (4099 - k) (.int .i64 (k : Int)) wr) := ⟨k, S, by omega, by omega, rfl, hT, hF⟩
      clear hT hF hlt
      go_wp2_with fail
      go_loopg [10, 11] (4099 - k) (fun j i e wr => FullRel2 W t j i wr)
      case atStart => exact HR.out
      case round =>
        clear HR
        obtain ⟨m, S, hm1, hmN, rfl, hT, hF⟩ := hrel
        by_cases hlt : m < 4099
        · have i3 : (m : Int) < 4099 := by omega
          have m1 : IntKind.u64.wrap (m : Int) = (m : Int) := IntWalk.u64_in _ (by omega)
          have HT := Lib.hid hT; have HF := Lib.hid hF
          clear hT hF
          go_wp2_with fail
          refine (entry_any ⟨#[122]⟩ m ⟨#[118]⟩ _).mono ?_
          rintro e w4 ⟨rfl, hb4⟩
          have HP := Lib.hid (full_put (HT.out.below hb4) HF.out (mkE ⟨#[122]⟩ m ⟨#[118]⟩) 1 (by kernel_rfl) (by decide) rfl (fun h0 => by omega) (by show 1 ≤ 140737488351232; decide) (by show 1 ≤ 140737488351232; decide))
          clear hb4
          go_wp2_with fail
          refine HP.out.mono ?_
          rintro e w5 ⟨rfl, S', hT', hF'⟩
          have HT' := Lib.hid hT'; have HF' := Lib.hid hF'
          clear hT' hF' HP
          by_cases h4 : m < 4096
          · have i4 : (m : Int) < 4096 := by omega
            rw [if_pos h4]
            go_wp2_with fail
            go_roundg (4099 - (m + 1))
            case measure => omega
            case rel => exact ⟨m + 1, S', by omega, by omega, by go_num, HT'.out, HF'.out⟩
          · have i4 : decide ((m : Int) < 4096) = false := decide_eq_false (by omega)
            rw [if_neg h4]
            go_wp2_with fail
            go_roundg (4099 - (m + 1))
            case measure => omega
            case rel => exact ⟨m + 1, S', by omega, by omega, by go_num, HT'.out, HF'.out⟩
        · obtain rfl : m = 4099 := by omega
          have HT := Lib.hid hT; have HF := Lib.hid hF
          clear hT hF
          go_wp2_with fail
          refine (alive7_any _).mono ?_
          rintro e w4 ⟨rfl, hb4⟩
          have HT := Lib.hid (HT.out.below hb4)
          clear hb4
          go_wp2_with fail
          refine (tb_len HT.out).mono ?_
          rintro e w5 ⟨rfl, rfl⟩
          have hl : S.length = 4096 := HF.out.1
          rw [hl]
          have HP := Lib.hid (tb_put HT.out ⟨M0, ⟨#[111, 116, 104, 101, 114]⟩⟩ (by decide) (by decide) 1)
          have e8 : putE S ⟨M0, ⟨#[111, 116, 104, 101, 114]⟩⟩ 1 = 8 := by
            have hm : hasM S M0 = true := (hasM_iff _ _).2 (HF.out.2.2 (by decide))
            unfold putE
            rw [show fineE ⟨M0, ⟨#[111, 116, 104, 101, 114]⟩⟩ = true from by kernel_rfl, show okK 1 = true from by decide, hm]
            rfl
          rw [e8] at HP
          clear e8 hl
          have HP2 : Hid (Calls Try.prog 22 #[tp t, .agg #[.string ⟨#[97, 0]⟩, .int .u64 0, .bool false, .string ⟨#[111, 116, 104, 101, 114]⟩], .int .i64 1] w4 fun e w' => e = .returned (.int .i64 8) ∧ Below W.heap.size W w') := HP.out.mono fun e w' ⟨he, hT⟩ => ⟨he, hT.low⟩
          clear HP
          go_wp2_with fail
          refine HP2.out.mono ?_
          rintro e w6 ⟨rfl, hb6⟩
          have HE := Lib.hid (HBW.out.trans (hb6.mono HBW.out.size))
          clear hb6
          go_wp2_with fail
          go_ret
          exact ⟨rfl, HE.out⟩
end Go.Proofs.Ytopcnlophmplgaa
