/-
  A law's own table and the document's own, beside a Book: which blocks a Put writes.
-/
import Derived.Test.YtopcnlophmplgaaGreatDoorRef7C
import Derived.Test.YtopcnlophmplgaaGreatDoorBkG
namespace Go.Proofs.YtopcnlophmplgaaGreatDoor
open Go.RowKit
set_option linter.unusedVariables false
set_option maxRecDepth 100000

/-- is it a block of a table's? -/
def TbBlk (w : World) (i : Nat) : Prop := Ty w 142 i ∨ Ty w 140 i
section
variable {w0 w w' : World} {t : Nat} {S : List En}
theorem tb_putW (h : Tb w0 w t S) (x : En) (hk : x.m.k.size ≤ 140737488351232) (hx : x.x.size ≤ 140737488351232) (k : Int) :
    Calls Tryz.prog 31 #[tp t, x.v, .int .i64 k] w fun e w' => e = .returned (te (putE S x k)) ∧ Tb w0 w' t (putS S x k) ∧ Wrote (TbBlk w) w w' := by
  obtain ⟨hd, ns, h1, rfl, h3, h4⟩ := h
  by_cases hbad : (fineE x && okK k) = false
  · have e1 : putE (ns.map Nd.e) x k = 1 := by unfold putE; rw [hbad]; rfl
    have hb2 : fineE x = false ∨ k < 1 ∨ 8 < k := by
      rcases Bool.and_eq_false_iff.1 hbad with q | q
      · exact .inl q
      · unfold okK at q
        have := of_decide_eq_false q
        omega
    refine (put_bad h1 x hk hx k hb2).mono fun e w' ⟨he, hb⟩ => ⟨by rw [e1]; exact he, ?_, Wrote.of_below hb⟩
    unfold putS
    rw [e1, if_neg (by decide)]
    exact ⟨hd, ns, h1.below hb, rfl, h3, h4.trans (hb.mono h4.size)⟩
  · have hgood : (fineE x && okK k) = true := by simpa using hbad
    obtain ⟨hf, hkk⟩ := Bool.and_eq_true_iff.1 hgood
    have hk2 := of_decide_eq_true hkk
    obtain ⟨A, Q, hp⟩ := h1.parted x.m
    obtain ⟨j, rfl⟩ : ∃ j : Nat, k = (j : Int) := ⟨k.toNat, by omega⟩
    have hth := hp.there h1.rise
    refine (put_fine h1 x hk hx j (by omega) (by omega) hf hp).mono fun e w' hpp => ?_
    rcases hpp with ⟨hy, he, hb⟩ | ⟨hy, hl, he, hb⟩ | ⟨hy, hl, he, b, hbw, hT, hw⟩
    · have hm : hasM (ns.map Nd.e) x.m = true := (hasM_iff _ _).2 (hth.2 hy)
      have e1 : putE (ns.map Nd.e) x (j : Int) = 8 := by unfold putE; rw [hgood, hm]; rfl
      refine ⟨by rw [e1]; exact he, ?_, Wrote.of_below hb⟩
      unfold putS
      rw [e1, if_neg (by decide)]
      exact ⟨hd, ns, h1.below hb, rfl, h3, h4.trans (hb.mono h4.size)⟩
    · have hm : hasM (ns.map Nd.e) x.m = false := by
        cases hq : hasM (ns.map Nd.e) x.m
        · rfl
        · exact absurd (hth.1 ((hasM_iff _ _).1 hq)) hy
      have e1 : putE (ns.map Nd.e) x (j : Int) = 6 := by
        unfold putE; rw [hgood, hm]
        simp only [Bool.not_true, Bool.false_eq_true, if_false, List.length_map]
        rw [if_pos hl]
      refine ⟨by rw [e1]; exact he, ?_, Wrote.of_below hb⟩
      unfold putS
      rw [e1, if_neg (by decide)]
      exact ⟨hd, ns, h1.below hb, rfl, h3, h4.trans (hb.mono h4.size)⟩
    · have hm : hasM (ns.map Nd.e) x.m = false := by
        cases hq : hasM (ns.map Nd.e) x.m
        · rfl
        · exact absurd (hth.1 ((hasM_iff _ _).1 hq)) hy
      have e1 : putE (ns.map Nd.e) x (j : Int) = 0 := by
        unfold putE; rw [hgood, hm]
        simp only [Bool.not_true, Bool.false_eq_true, if_false, List.length_map]
        rw [if_neg (by omega)]
      refine ⟨by rw [e1]; exact he, ?_, hw.mono fun i _ hi => ?_⟩
      rotate_left
      · rcases hi with rfl | rfl | hi
        · exact .inl ⟨_, _, h1.box⟩
        · exact .inr ⟨_, _, h1.skip.1⟩
        · obtain ⟨n, hn, rfl⟩ := List.mem_map.1 hi
          obtain ⟨A', r, hA⟩ := List.append_of_mem hn
          have hsk := h1.skip.2
          rw [hA] at hsk
          exact .inr ⟨_, _, hsk.at_⟩
      unfold putS
      rw [if_pos e1]
      refine ⟨hd, A ++ (⟨b, x, j⟩ : Nd) :: Q, hT, ?_, ⟨h3.1, h3.2.1, fun n hn => ?_⟩, h4.trans (hw.below (fun i hi => ?_) h4.size)⟩
      · rw [hp.ins x rfl, List.map_append, List.map_cons]
      · have hin : n ∈ ns ∨ n = ⟨b, x, j⟩ := by
          rw [hp.eq]
          simp only [List.mem_append, List.mem_cons] at hn ⊢
          rcases hn with hn | hn | hn
          · exact .inl (.inl hn)
          · exact .inr hn
          · exact .inl (.inr hn)
        rcases hin with hn | rfl
        · exact h3.2.2 n hn
        · exact Nat.le_trans h4.size hbw
      · rcases hi with rfl | rfl | hi
        · exact h3.1
        · exact h3.2.1
        · obtain ⟨n, hn, rfl⟩ := List.mem_map.1 hi
          exact h3.2.2 n hn
/-- a table stays where none of its blocks is written -/
theorem Tb.keep (h : Tb w0 w t S) (hw : ∀ i, TbBlk w i → w'.heap[i]? = w.heap[i]?) (hb : Below w0.heap.size w0 w') : Tb w0 w' t S := by
  obtain ⟨hd, ns, h1, h2, h3, h4⟩ := h
  refine ⟨hd, ns, h1.keep (hw _ (.inl ⟨_, _, h1.box⟩)) (hw _ (.inr ⟨_, _, h1.skip.1⟩)) fun n hn => ?_, h2, h3, hb⟩
  obtain ⟨A', r, hA⟩ := List.append_of_mem hn
  have hsk := h1.skip.2
  rw [hA] at hsk
  exact hw _ (.inr ⟨_, _, hsk.at_⟩)
end
theorem Ty.no {w : World} {t t' : TypeId} {i : Nat} (h : Ty w t i) (h' : Ty w t' i) : t = t' := by obtain ⟨c, fz, e⟩ := h'; exact h.ne e
/-- where no block of the document's own table, nor of entries, is written, it stays -/
theorem RT.keep {w w' : World} {base m : Nat} {S : List En} (h : RT w base m S) (hk : ∀ i, (Ty w 78 i ∨ Ty w 83 i) → w'.heap[i]? = w.heap[i]?) : RT w' base m S := by
  obtain ⟨v, h1, h2⟩ := h
  exact ⟨v, (hk m (.inl ⟨_, _, h1⟩)).trans h1, own_ty h2 fun i hi => hk i (.inr hi)⟩

/-- a table of package tables, the document's own, and a Book beside them -/
structure P7 (w0 w : World) (t m g : Nat) (S : List En) (ls : List BL) (ve : Value) : Prop where
  tb : Tb w0 w t S
  rt : RT w w0.heap.size m S
  bk : KeptE w w0.heap.size g ls ve
  mm : w0.heap.size ≤ m
section
variable {w0 w w' : World} {t m g : Nat} {S : List En} {ls : List BL} {ve : Value} (h : P7 w0 w t m g S ls ve)
include h
theorem P7.low : Below w0.heap.size w0 w := h.tb.low
theorem P7.below (hb : Below w.heap.size w w') : P7 w0 w' t m g S ls ve := ⟨h.tb.below hb, h.rt.below hb, h.bk.below hb, h.mm⟩
/-- both are put the same -/
theorem P7.put (x : En) (hk : x.m.k.size ≤ 1000000) (hx : x.x.size ≤ 1000000) (k : Int) :
    Calls Tryz.prog 31 #[tp t, x.v, .int .i64 k] w fun e w' => e = .returned (te (putE S x k)) ∧ Tb w0 w' t (putS S x k) ∧ RT w' w0.heap.size m S ∧ KeptE w' w0.heap.size g ls ve ∧ Wrote (TbBlk w) w w' := by
  refine (tb_putW h.tb x (by omega) (by omega) k).mono fun e w' ⟨he, hT, hw⟩ => ⟨he, hT, h.rt.keep fun i hi => ?_, h.bk.keep fun i hi => ?_, hw⟩
  · refine hw.block i (by rcases hi with hi | hi <;> exact hi.lt) fun hq => ?_
    rcases hi with hi | hi <;> rcases hq with hq | hq <;> exact absurd (hi.no hq) (by decide)
  · refine hw.block i (by rcases hi with hi | hi | hi <;> exact hi.lt) fun hq => ?_
    rcases hi with hi | hi | hi <;> rcases hq with hq | hq <;> exact absurd (hi.no hq) (by decide)
end
theorem p7_rput {w0 w : World} {t m g : Nat} {S S' : List En} {ls : List BL} {ve : Value} (hT : Tb w0 w t S') (hR : RT w w0.heap.size m S) (hK : KeptE w w0.heap.size g ls ve) (hm : w0.heap.size ≤ m) (hr : Rise S) (hn : S.length ≤ 4096) (hks : ∀ e ∈ S, e.m.k.size ≤ 1000000) (x : En) (hk : x.m.k.size ≤ 1000000) (hx : x.x.size ≤ 1000000) (k : Int) (hS : S' = putS S x k) :
    Calls Tryz.prog 32 #[rp m, x.v, .int .i64 k] w fun e w' => e = .returned (te (putE S x k)) ∧ P7 w0 w' t m g S' ls ve ∧ Wrote (fun i => i = m) w w' := by
  refine (rput_ok hR hr hn hks x hk hx k hT.low.size hm).mono fun e w' ⟨he, hR', hw⟩ => ⟨he, ?_, hw⟩
  have hmt : Ty w 78 m := by obtain ⟨v, h1, _⟩ := hR; exact ⟨_, _, h1⟩
  have hne : ∀ i T, Ty w T i → T ≠ 78 → w'.heap[i]? = w.heap[i]? := fun i T hi hT => hw.block i hi.lt fun q => by subst q; exact hT (hi.no hmt)
  refine ⟨hT.keep (fun i hi => by rcases hi with hi | hi <;> exact hne i _ hi (by decide)) (hT.low.trans (hw.below (fun i hi => by rw [hi]; exact hm) hT.low.size)), by rw [hS]; exact hR', hK.keep fun i hi => by rcases hi with hi | hi | hi <;> exact hne i _ hi (by decide), hm⟩
/-- an answer is kept -/
theorem P7.keep {w0 w : World} {t m g : Nat} {S : List En} {ls : List BL} {ve : Value} (h : P7 w0 w t m g S ls ve) (A : Option Addr) (n c : Nat) (hl : ls.length ≤ 900) (hn : n ≤ 1099511627776) (hd : Kd w w0.heap.size ⟨A, n, c, ls.length + 1⟩) (hK : ∀ b ∈ ls, b.v.ownBlock = none ∨ b.v.ownBlock ≠ (Value.slice A n c).ownBlock) :
    Calls Tryz.prog 38 #[.pointer (some ⟨g, 0, none⟩), .slice A n c] w fun e w' => e = .returned (.tuple #[]) ∧ ∃ ve', P7 w0 w' t m g S (ls ++ [⟨A, n, c, ls.length + 1⟩]) ve' ∧ Wrote (fun i => Ty w 53 i ∨ Ty w 206 i) w w' := by
  refine (h.bk.entries h.low.size A n c hl hn hd hK).mono fun e w' ⟨he, ve', hB, hw, hb⟩ => ⟨he, ve', ?_, hw⟩
  refine ⟨h.tb.keep (fun i hi => hw.block i (by rcases hi with hi | hi <;> exact hi.lt) fun hq => ?_) (h.low.trans hb), h.rt.keep (fun i hi => hw.block i (by rcases hi with hi | hi <;> exact hi.lt) fun hq => ?_), hB, h.mm⟩
  · rcases hi with hi | hi <;> rcases hq with hq | hq <;> exact absurd (hi.no hq) (by decide)
  · rcases hi with hi | hi <;> rcases hq with hq | hq <;> exact absurd (hi.no hq) (by decide)
/-- a list made since lies in no block of an earlier one -/
theorem kd_apart {w w' : World} {base g : Nat} {ls : List BL} {ve : Value} (h : KeptE w base g ls ve) {e k n c n2 : Nat} {A : Option Addr} {xs : List Value} (ho : w'.ownsRow w.heap.size e k (.slice A n c) n2 xs) : ∀ b ∈ ls, b.v.ownBlock = none ∨ b.v.ownBlock ≠ (Value.slice A n c).ownBlock := fun b hb => by
  obtain ⟨ys, hy⟩ := h.each b hb
  cases hv : b.v.ownBlock with
  | none => exact .inl rfl
  | some i =>
    refine .inr fun e => ?_
    have h1 := (hy.lt i hv).2
    have h2 := (ho.lt i e.symm).1
    omega
end Go.Proofs.YtopcnlophmplgaaGreatDoor
