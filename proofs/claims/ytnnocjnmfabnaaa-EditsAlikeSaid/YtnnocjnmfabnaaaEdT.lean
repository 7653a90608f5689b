/-
  Package edits: list, at files and at numbers.
-/
import Derived.Test.YtnnocjnmfabnaaaEdS
namespace Go.Proofs.Ytnnocjnmfabnaaa
open Go.RowKit
set_option linter.unusedVariables false
set_option maxRecDepth 100000

/-- so many have been read -/
def Got_ {α : Type} (rd : RS → α × RS) (N : Nat) (s1 : RS) (k : Nat) (pre : List α) (s : RS) : Prop :=
  rdL rd N s1 = ((rdL rd (N - k) s).1.map (pre ++ ·), (rdL rd (N - k) s).2) ∧ pre.length = k ∧ k + s.1.length ≤ s1.1.length
section
variable {α : Type} {rd : RS → α × RS} {N k : Nat} {s1 s : RS} {pre : List α}
theorem Got_.start : Got_ rd N s1 0 [] s1 := by
  refine ⟨?_, rfl, by omega⟩
  rw [Nat.sub_zero]
  refine Prod.ext ?_ rfl
  show _ = (rdL rd N s1).1.map ([] ++ ·)
  cases (rdL rd N s1).1 <;> rfl
theorem Got_.bad (h : Got_ rd N s1 k pre s) (hk : k < N) (hb : (rd s).2.2 = true) : rdL rd N s1 = (none, (rd s).2) := by
  rw [h.1]
  obtain ⟨j, hj⟩ : ∃ j, N - k = j + 1 := ⟨N - k - 1, by omega⟩
  rw [hj]
  unfold rdL
  rw [if_pos hb]
  rfl
theorem Got_.step (h : Got_ rd N s1 k pre s) (hk : k < N) (hb : (rd s).2.2 = false) (hl : (rd s).2.1.length + 1 ≤ s.1.length) : Got_ rd N s1 (k + 1) (pre ++ [(rd s).1]) (rd s).2 := by
  refine ⟨?_, by rw [List.length_append, h.2.1]; rfl, by have := h.2.2; omega⟩
  rw [h.1]
  obtain ⟨j, hj⟩ : ∃ j, N - k = j + 1 := ⟨N - k - 1, by omega⟩
  rw [show N - (k + 1) = j from by omega, hj]
  conv => lhs; unfold rdL
  rw [if_neg (by rw [hb]; decide)]
  refine Prod.ext ?_ rfl
  show ((rdL rd j (rd s).2).1.map ((rd s).1 :: ·)).map (pre ++ ·) = _
  cases (rdL rd j (rd s).2).1 with
  | none => rfl
  | some xs => simp
theorem Got_.done (h : Got_ rd N s1 N pre s) : rdL rd N s1 = (some pre, s) := by
  rw [h.1, Nat.sub_self]
  unfold rdL
  simp
end
theorem rdF_less {s : RS} (h : (rdF s).2.2 = false) : (rdF s).2.1.length + 1 ≤ s.1.length := by
  obtain ⟨_, e, _⟩ := rdF_ok h
  have h1 := Vi.enc_pos (rdF s).1.num
  have := congrArg List.length e
  unfold encFi at this
  simp only [List.length_append] at this
  omega
theorem rdS_less {s : RS} (h : (rdS s).2.2 = false) : (rdS s).2.1.length + 1 ≤ s.1.length := by
  obtain ⟨_, e, _⟩ := rdS_ok h
  have h1 := Vi.enc_pos (rdS s).1
  have := congrArg List.length e
  simp only [List.length_append] at this
  omega
/-- what list answers, of files -/
def ELsF (w : World) (B g : Nat) (s : RS) (e : Ending) (w' : World) : Prop :=
  ∃ A n c, e = .returned (.slice A n c) ∧ n ≤ s.1.length ∧ w'.ownsRow w.heap.size 37 4 (.slice A n c) n (fcs ((rdAll rdF s).1.getD [])) ∧ EP w B g (rdAll rdF s).2 w'
/-- in list's loop -/
def LsR (w : World) (B g N : Nat) (s1 : RS) (v i : Value) (wr : World) : Prop :=
  ∃ (k : Nat) (pre : List Fi) (s : RS), k ≤ N ∧ i = .int .u64 (k : Int) ∧ Got_ rdF N s1 k pre s ∧ wr.ownsRow w.heap.size 37 4 v k (fcs pre) ∧ EP w B g s wr

set_option maxHeartbeats 8000000 in
theorem elistF_any (B g n c : Nat) (s : RS) (A : Option Addr) (w : World) (h : ER w B g s A n c) (hn : n ≤ 100000) :
    Calls Try.prog 30 #[.pointer (some ⟨g, 0, none⟩), .func (.func 31) #[.pointer (some ⟨g, 0, none⟩)] #[]] w (ELsF w B g s) := by
  obtain ⟨i0, hi, hz0, hz1, hz2⟩ := info_parts file_info
  have HN := Lib.hid (enum_any B g n c s A w h)
  have hl1 := rdN_len s
  have hN64 : (rdN s).1 < 18446744073709551616 := (Vi.get_lt s.1).1
  have hsl := h.len
  have hglt := h.lt
  have HAll : Hid (rdAll rdF s = rdL rdF (rdN s).1 (rdN s).2) := rfl
  unfold ELsF
  rw [HAll.out]
  obtain ⟨⟨N, s1⟩, hs1⟩ : ∃ r, rdN s = r := ⟨_, rfl⟩
  rw [hs1] at HN hl1 hN64 ⊢
  dsimp only at HN hl1 hN64 ⊢
  have hs1l : s1.1.length ≤ 100000 := by omega
  have HSl : Hid (s1.1.length ≤ s.1.length) := hl1
  clear h hs1 HAll hl1 hsl
  go_enter Try.func30, Try.ntmps30
  go_wp2_with fail
  with_reducible refine Calls.mono HN.out ?_
  rintro e w1 ⟨rfl, hp1⟩
  have HR : Hid (LsR w B g N s1 (.slice none 0 0) (.int .u64 0) w1) := ⟨0, [], s1, Nat.zero_le _, rfl, Got_.start, World.ownsRow_nil _ _ _ _, hp1⟩
  clear hp1 HN
  go_wp2_with fail
  go_loopw [5, 9] (fun v i wr => LsR w B g N s1 v i wr) (fun _ i _ => N - (intOf i).toNat)
  case atStart => exact HR.out
  case round =>
    clear HR
    obtain ⟨k, pre, s', hk, rfl, hG, ho, hp⟩ := hrel
    obtain ⟨Av, cv, rfl, _⟩ := own_shape ho
    by_cases hlt : k < N
    · obtain ⟨⟨A2, n2, c2, hr⟩, hg⟩ := hp
      have hi1 : (k : Int) < (N : Int) := by omega
      have hkl : k ≤ 100000 := by have := hG.2.2; omega
      have hw1' : IntKind.u64.wrap ((k : Int) + 1) = (k : Int) + 1 := by rw [IntKind.wrap_u64]; omega
      have HFl := Lib.hid (efile_any B g n2 c2 s' A2 wr hr (by have h1 := hr.len; have h2 := hG.2.2; omega))
      obtain ⟨⟨f, s2⟩, hrd⟩ : ∃ r, rdF s' = r := ⟨_, rfl⟩
      have hbad := fun h => hG.bad hlt h
      have hstep := fun h => hG.step hlt h (rdF_less h)
      rw [hrd] at HFl hbad hstep
      dsimp only at HFl hbad hstep
      have HBad := Lib.hid hbad; have HStep := Lib.hid hstep
      have HO := Lib.hid ho; have HG := Lib.hid hg; have HK := Lib.hid hG.2.1
      unfold Fi.v at HFl
      clear hG ho hg hr hrd hbad hstep
      go_wp2_with fail
      with_reducible refine Calls.mono HFl.out ?_
      rintro e w2 ⟨rfl, hp2⟩
      have hb3 := fiW_below w2 f
      have hx3 := FiAt.new w2 f
      have hg2 := gro_trans HG.out hp2.2
      have ho2 : w2.ownsRow w.heap.size 37 4 (.slice Av k cv) k (fcs pre) := by
        refine ⟨HO.out.1, ?_⟩
        rcases HO.out.2 with q | ⟨gg, cap, cur, hv, hgb, hh, r⟩
        · exact .inl q
        · exact .inr ⟨gg, cap, cur, hv, hgb, (hp2.2.block gg (Array.getElem?_eq_some_iff.1 hh).1 (by simp; omega)).trans hh, r⟩
      obtain ⟨A3, n3, c3, hr3⟩ := hp2.1
      have hr4 := hr3.below hb3
      have ho4 := own_below ho2 hb3
      have hg4 := gro_trans hg2 (grE_below hb3 (some g))
      obtain ⟨B6, hB6⟩ : ∃ B, w2.heap.size = B := ⟨_, rfl⟩
      rw [hB6] at hx3
      obtain ⟨W4, hW4⟩ : ∃ W, w2.alloc (.cells #[.int .u32 (f.num : Int), .int .i64 f.lv, .string f.a, .string f.z] 37) = W := ⟨_, rfl⟩
      rw [show fiW w2 f = W4 from hW4] at hx3 hr4 ho4 hg4
      have hbc := hr4.c1
      obtain ⟨p0, p1, p2, p3⟩ := hx3.cells
      obtain ⟨l2, bad⟩ := s2
      dsimp only at hbc HBad HStep
      have hb5 := fiW_below W4 f
      have hr5 := hr4.below hb5
      have ho5 := own_below ho4 hb5
      have hg5 := gro_trans hg4 (grE_below hb5 (some g))
      have HL5 := Lib.hid (fi_lies W4 f)
      have HR4 := Lib.hid hr4; have HG4 := Lib.hid hg4; have HR5 := Lib.hid hr5; have HO5 := Lib.hid ho5; have HG5 := Lib.hid hg5
      have hs5 : w.heap.size ≤ (fiW W4 f).heap.size := hg5.size
      have HS5 := Lib.hid hs5
      clear hp2 hb3 hx3 hg2 ho2 hr3 hr4 ho4 hg4 hr5 ho5 hg5 hb5 HFl HO HG hs5
      cases bad with
      | true =>
        have HF : Hid (∃ A n c, Ending.returned (Value.slice none 0 0) = .returned (.slice A n c) ∧ n ≤ s.1.length ∧ W4.ownsRow w.heap.size 37 4 (.slice A n c) n (fcs ((rdL rdF N s1).1.getD [])) ∧ EP w B g (rdL rdF N s1).2 W4) := by
          rw [HBad.out (by first | exact trivial | rfl)]
          exact ⟨none, 0, 0, rfl, Nat.zero_le _, World.ownsRow_nil _ _ _ _, ⟨_, _, _, HR4.out⟩, HG4.out⟩
        go_wp2
        go_ret
        exact HF.out
      | false =>
        obtain ⟨W5, hW5⟩ : ∃ W, W4.alloc (.cells #[.int .u32 (f.num : Int), .int .i64 f.lv, .string f.a, .string f.z] 37) = W := ⟨_, rfl⟩
        rw [show fiW W4 f = W5 from hW5] at HR5 HO5 HG5 HL5 HS5
        obtain ⟨B7, hB7⟩ : ∃ B, W4.heap.size = B := ⟨_, rfl⟩
        rw [hB7] at HL5
        go_wp2_with (at_builtin; refine wpList_app _ rfl (.tmp 17) (.tmp 19) 22 rfl w.heap.size 37 i0 _ 4 48 Try.underlying22 hi hz0 hz1 hz2 rfl (by decide) _ _ _ rfl HO5.out (B7 + 1) (some ⟨B7, 0, none⟩) 1 _ (fcs [f]) rfl HL5.out (fcs_one [f]) (by unfold maxLen; omega) (by omega) HS5.out ?_)
        intro v6 w6 ho6 hg6 _
        have HFin : Hid (LsR w B g N s1 v6 (.int .u64 ((k : Int) + 1)) w6) := by
          refine ⟨k + 1, pre ++ [f], (l2, false), hlt, by simp, HStep.out (by first | exact trivial | rfl), by rw [fcs_app]; exact ho6, ?_, ?_⟩
          · have hlr := HR5.out.lt
            have hne : some g ≠ (Value.slice Av k cv).ownBlock := fun e => by
              have := (own_cell HO5.out e.symm).1
              omega
            have hnl : ∀ q, q < B → some q ≠ (Value.slice Av k cv).ownBlock := fun q hq e => by
              have := (own_cell HO5.out e.symm).1
              have := HR5.out.Bg
              omega
            refine ⟨_, _, _, ⟨(hg6.block g hlr hne).trans HR5.out.box, HR5.out.lies.keep (fun p hp => ?_), HR5.out.nc, HR5.out.cm, HR5.out.Bg⟩⟩
            have := HR5.out.Bg
            unfold World.cell?
            rw [hg6.block p.block (by omega) (hnl _ hp)]
          · refine ⟨hg6.os.trans HG5.out.os, hg6.tape.trans HG5.out.tape, hg6.output.trans HG5.out.output, Nat.le_trans HG5.out.size hg6.size, fun q hq hne => (hg6.block q (Nat.lt_of_lt_of_le hq HG5.out.size) (fun e => ?_)).trans (HG5.out.block q hq hne)⟩
            have := (own_cell HO5.out e.symm).1
            omega
        clear ho6 hg6 HO5 HR5 HG5 HL5 HS5 hW5 hW4 hbc p0 p1 p2 p3
        go_wp2
        go_roundw
        case rel => exact HFin.out
        case measure => simp [intOf]; omega
    · have hkN : k = N := by omega
      subst hkN
      have hnl : ¬ ((k : Int) < (k : Int)) := by omega
      have HF : Hid (∃ A n c, Ending.returned (Value.slice Av k cv) = .returned (.slice A n c) ∧ n ≤ s.1.length ∧ wr.ownsRow w.heap.size 37 4 (.slice A n c) n (fcs ((rdL rdF k s1).1.getD [])) ∧ EP w B g (rdL rdF k s1).2 wr) := by
        rw [hG.done]
        exact ⟨Av, k, cv, rfl, by have h1 := hG.2.2; have h2 := HSl.out; omega, ho, hp⟩
      clear hG ho hp
      go_wp2
      go_ret
      exact HF.out
end Go.Proofs.Ytnnocjnmfabnaaa
