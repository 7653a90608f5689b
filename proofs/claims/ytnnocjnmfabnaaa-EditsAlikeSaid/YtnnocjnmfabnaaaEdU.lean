/-
  Package edits: list, at numbers; edit, Get.
-/
import Derived.Test.YtnnocjnmfabnaaaEdT
namespace Go.Proofs.Ytnnocjnmfabnaaa
open Go.RowKit
set_option linter.unusedVariables false
set_option maxRecDepth 100000

theorem u32_info : (Try.prog.info? 24).map (fun i => (i.zero, i.size, i.bytes)) = some (some (.int .u32 0), 1, 4) := by kernel_rfl
theorem kvs_app (a b : List Nat) : kvs (a ++ b) = kvs a ++ kvs b := by unfold kvs; simp
/-- what list answers, of numbers -/
def ELsK (w : World) (B g : Nat) (s : RS) (e : Ending) (w' : World) : Prop :=
  ∃ A n c, e = .returned (.slice A n c) ∧ n ≤ s.1.length ∧ w'.ownsRow w.heap.size 24 1 (.slice A n c) n (kvs ((rdAll rdS s).1.getD [])) ∧ EP w B g (rdAll rdS s).2 w'
/-- in list's loop, of numbers -/
def LkR (w : World) (B g N : Nat) (s1 : RS) (v i : Value) (wr : World) : Prop :=
  ∃ (k : Nat) (pre : List Nat) (s : RS), k ≤ N ∧ i = .int .u64 (k : Int) ∧ Got_ rdS N s1 k pre s ∧ wr.ownsRow w.heap.size 24 1 v k (kvs pre) ∧ EP w B g s wr

set_option maxHeartbeats 8000000 in
theorem elistK_any (B g n c : Nat) (s : RS) (A : Option Addr) (w : World) (h : ER w B g s A n c) (hn : n ≤ 100000) :
    Calls Try.prog 32 #[.pointer (some ⟨g, 0, none⟩), .func (.func 33) #[.pointer (some ⟨g, 0, none⟩)] #[]] w (ELsK w B g s) := by
  obtain ⟨i0, hi, hz0, hz1, hz2⟩ := info_parts u32_info
  have HN := Lib.hid (enum_any B g n c s A w h)
  have hl1 := rdN_len s
  have hN64 : (rdN s).1 < 18446744073709551616 := (Vi.get_lt s.1).1
  have hsl := h.len
  have hglt := h.lt
  have HAll : Hid (rdAll rdS s = rdL rdS (rdN s).1 (rdN s).2) := rfl
  unfold ELsK
  rw [HAll.out]
  obtain ⟨⟨N, s1⟩, hs1⟩ : ∃ r, rdN s = r := ⟨_, rfl⟩
  rw [hs1] at HN hl1 hN64 ⊢
  dsimp only at HN hl1 hN64 ⊢
  have hs1l : s1.1.length ≤ 100000 := by omega
  have HSl : Hid (s1.1.length ≤ s.1.length) := hl1
  clear h hs1 HAll hl1 hsl
  go_enter Try.func32, Try.ntmps32
  go_wp2_with fail
  with_reducible refine Calls.mono HN.out ?_
  rintro e w1 ⟨rfl, hp1⟩
  have HR : Hid (LkR w B g N s1 (.slice none 0 0) (.int .u64 0) w1) := ⟨0, [], s1, Nat.zero_le _, rfl, Got_.start, World.ownsRow_nil _ _ _ _, hp1⟩
  clear hp1 HN
  go_wp2_with fail
  go_loopw [5, 9] (fun v i wr => LkR w B g N s1 v i wr) (fun _ i _ => N - (intOf i).toNat)
  case atStart => exact HR.out
  case round =>
    clear HR
    obtain ⟨k, pre, s', hk, rfl, hG, ho, hp⟩ := hrel
    obtain ⟨Av, cv, rfl, _⟩ := own_shape ho
    by_cases hlt : k < N
    · obtain ⟨⟨A2, n2, c2, hr⟩, hg⟩ := hp
      have hi1 : (k : Int) < (N : Int) := by omega
      have hkl : k ≤ 100000 := by have := hG.2.2; omega
      have hw1' : IntKind.u64.wrap ((k : Int) + 1) = (k : Int) + 1 := by rw [IntKind.wrap_u64]; omega
      have HFl := Lib.hid (eshort_any B g n2 c2 s' A2 wr hr)
      obtain ⟨⟨x, s2⟩, hrd⟩ : ∃ r, rdS s' = r := ⟨_, rfl⟩
      have hbad := fun h => hG.bad hlt h
      have hstep := fun h => hG.step hlt h (rdS_less h)
      rw [hrd] at HFl hbad hstep
      dsimp only at HFl hbad hstep
      have HBad := Lib.hid hbad; have HStep := Lib.hid hstep
      have HO := Lib.hid ho; have HG := Lib.hid hg; have HK := Lib.hid hG.2.1
      clear hG ho hg hr hrd hbad hstep
      go_wp2_with fail
      with_reducible refine Calls.mono HFl.out ?_
      rintro e w2 ⟨rfl, hp2⟩
      have hg2 := gro_trans HG.out hp2.2
      have ho2 : w2.ownsRow w.heap.size 24 1 (.slice Av k cv) k (kvs pre) := by
        refine ⟨HO.out.1, ?_⟩
        rcases HO.out.2 with q | ⟨gg, cap, cur, hv, hgb, hh, r⟩
        · exact .inl q
        · exact .inr ⟨gg, cap, cur, hv, hgb, (hp2.2.block gg (Array.getElem?_eq_some_iff.1 hh).1 (by simp; omega)).trans hh, r⟩
      obtain ⟨A3, n3, c3, hr4⟩ := hp2.1
      have hbc := hr4.c1
      obtain ⟨l2, bad⟩ := s2
      dsimp only at hbc HBad HStep
      have hb5 : Below w2.heap.size w2 (w2.alloc (.cells #[.int .u32 (x : Int)] 24)) := (Below.refl _ _).alloc (Nat.le_refl _) _
      have hr5 := hr4.below hb5
      have ho5 := own_below ho2 hb5
      have hg5 := gro_trans hg2 (grE_below hb5 (some g))
      have HL5 := Lib.hid (one_lies (w := w2) rfl (.int .u32 (x : Int)) 24)
      have HR4 := Lib.hid hr4; have HG4 := Lib.hid hg2; have HR5 := Lib.hid hr5; have HO5 := Lib.hid ho5; have HG5 := Lib.hid hg5
      have hs5 : w.heap.size ≤ (w2.alloc (.cells #[.int .u32 (x : Int)] 24)).heap.size := hg5.size
      have HS5 := Lib.hid hs5
      clear hp2 hg2 ho2 hr4 hr5 ho5 hg5 hb5 HFl HO HG hs5
      cases bad with
      | true =>
        have HF : Hid (∃ A n c, Ending.returned (Value.slice none 0 0) = .returned (.slice A n c) ∧ n ≤ s.1.length ∧ w2.ownsRow w.heap.size 24 1 (.slice A n c) n (kvs ((rdL rdS N s1).1.getD [])) ∧ EP w B g (rdL rdS N s1).2 w2) := by
          rw [HBad.out (by first | exact trivial | rfl)]
          exact ⟨none, 0, 0, rfl, Nat.zero_le _, World.ownsRow_nil _ _ _ _, ⟨_, _, _, HR4.out⟩, HG4.out⟩
        go_wp2
        go_ret
        exact HF.out
      | false =>
        obtain ⟨W5, hW5⟩ : ∃ W, w2.alloc (.cells #[.int .u32 (x : Int)] 24) = W := ⟨_, rfl⟩
        rw [hW5] at HR5 HO5 HG5 HL5 HS5
        obtain ⟨B7, hB7⟩ : ∃ B, w2.heap.size = B := ⟨_, rfl⟩
        rw [hB7] at HL5
        go_wp2_with (at_builtin; refine wpList_app _ rfl (.tmp 17) (.tmp 19) 23 rfl w.heap.size 24 i0 _ 1 4 Try.underlying23 hi hz0 hz1 hz2 rfl (by decide) _ _ _ rfl HO5.out (B7 + 1) (some ⟨B7, 0, none⟩) 1 _ (kvs [x]) rfl HL5.out (kvs_one [x]) (by unfold maxLen; omega) (by omega) HS5.out ?_)
        intro v6 w6 ho6 hg6 _
        have HFin : Hid (LkR w B g N s1 v6 (.int .u64 ((k : Int) + 1)) w6) := by
          refine ⟨k + 1, pre ++ [x], (l2, false), hlt, by simp, HStep.out (by first | exact trivial | rfl), by rw [kvs_app]; exact ho6, ?_, ?_⟩
          · have hlr := HR5.out.lt
            have hne : some g ≠ (Value.slice Av k cv).ownBlock := fun e => by
              have := (own_cell HO5.out e.symm).1
              omega
            have hnl : ∀ q, q < B → some q ≠ (Value.slice Av k cv).ownBlock := fun q hq e => by
              have := (own_cell HO5.out e.symm).1
              have := HR5.out.Bg
              omega
            refine ⟨_, _, _, ⟨(hg6.block g hlr hne).trans HR5.out.box, HR5.out.lies.keep (fun p hp => ?_), HR5.out.nc, HR5.out.cm, HR5.out.Bg⟩⟩
            have := HR5.out.Bg
            unfold World.cell?
            rw [hg6.block p.block (by omega) (hnl _ hp)]
          · refine ⟨hg6.os.trans HG5.out.os, hg6.tape.trans HG5.out.tape, hg6.output.trans HG5.out.output, Nat.le_trans HG5.out.size hg6.size, fun q hq hne => (hg6.block q (Nat.lt_of_lt_of_le hq HG5.out.size) (fun e => ?_)).trans (HG5.out.block q hq hne)⟩
            have := (own_cell HO5.out e.symm).1
            omega
        clear ho6 hg6 HO5 HR5 HG5 HL5 HS5 hW5 hbc
        go_wp2
        go_roundw
        case rel => exact HFin.out
        case measure => simp [intOf]; omega
    · have hkN : k = N := by omega
      subst hkN
      have hnl : ¬ ((k : Int) < (k : Int)) := by omega
      have HF : Hid (∃ A n c, Ending.returned (Value.slice Av k cv) = .returned (.slice A n c) ∧ n ≤ s.1.length ∧ wr.ownsRow w.heap.size 24 1 (.slice A n c) n (kvs ((rdL rdS k s1).1.getD [])) ∧ EP w B g (rdL rdS k s1).2 wr) := by
        rw [hG.done]
        exact ⟨Av, k, cv, rfl, by have h1 := hG.2.2; have h2 := HSl.out; omega, ho, hp⟩
      clear hG ho hp
      go_wp2
      go_ret
      exact HF.out
end Go.Proofs.Ytnnocjnmfabnaaa
