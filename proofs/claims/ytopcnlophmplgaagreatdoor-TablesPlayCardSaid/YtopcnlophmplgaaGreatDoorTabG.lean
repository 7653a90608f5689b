/-
  A table on a law's own: what each call on it answers, and what becomes of it.
-/
import Derived.Test.YtopcnlophmplgaaGreatDoorTabF
namespace Go.Proofs.YtopcnlophmplgaaGreatDoor
open Go.RowKit
set_option linter.unusedVariables false
set_option maxRecDepth 100000

/-- in a law's own memory there is a table, with these entries -/
def Tb (w0 w : World) (t : Nat) (S : List En) : Prop := ∃ hd ns, TabN w t hd ns ∧ ns.map Nd.e = S ∧ (w0.heap.size ≤ t ∧ w0.heap.size ≤ hd ∧ ∀ n ∈ ns, w0.heap.size ≤ n.b) ∧ Below w0.heap.size w0 w
def okK (k : Int) : Bool := decide (1 ≤ k ∧ k ≤ 8)
/-- what Put answers; what is there then -/
def putE (S : List En) (x : En) (k : Int) : Nat := if !(fineE x && okK k) then 1 else if hasM S x.m then 8 else if 4096 ≤ S.length then 6 else 0
def putS (S : List En) (x : En) (k : Int) : List En := if putE S x k = 0 then insE x S else S
section
variable {w0 w w' : World} {t : Nat} {S : List En}
theorem Tb.below (h : Tb w0 w t S) (hb : Below w.heap.size w w') : Tb w0 w' t S := by
  obtain ⟨hd, ns, h1, h2, h3, h4⟩ := h
  exact ⟨hd, ns, h1.below hb, h2, h3, h4.trans (hb.mono h4.size)⟩
theorem Tb.low (h : Tb w0 w t S) : Below w0.heap.size w0 w := by obtain ⟨hd, ns, h1, h2, h3, h4⟩ := h; exact h4
theorem Tb.rise (h : Tb w0 w t S) : Rise S := by obtain ⟨hd, ns, h1, rfl, h3, h4⟩ := h; exact h1.rise
theorem Tb.fine (h : Tb w0 w t S) : ∀ e ∈ S, fineE e = true := by
  obtain ⟨hd, ns, h1, rfl, h3, h4⟩ := h
  intro e he
  obtain ⟨n, hn, rfl⟩ := List.mem_map.1 he
  exact h1.fine n hn
theorem Tb.max (h : Tb w0 w t S) : S.length ≤ 4096 := by obtain ⟨hd, ns, h1, rfl, h3, h4⟩ := h; rw [List.length_map]; exact h1.max
theorem tb_new (hB : Below w0.heap.size w0 w) : Calls Tryz.prog 30 #[] w fun e w' => ∃ t, e = .returned (tp t) ∧ Tb w0 w' t [] ∧ Below w.heap.size w w' := by
  refine (new_any w).mono fun e w' ⟨t, hd, he, hT, h1, h2, hb⟩ => ⟨t, he, ⟨hd, [], hT, rfl, ⟨Nat.le_trans hB.size h1, Nat.le_trans hB.size h2, (fun n hn => by cases hn)⟩, hB.trans (hb.mono hB.size)⟩, hb⟩
theorem tb_len (h : Tb w0 w t S) : Calls Tryz.prog 39 #[tp t] w fun e w' => e = .returned (.int .i64 (S.length : Int)) ∧ w = w' := by
  obtain ⟨hd, ns, h1, rfl, h3, h4⟩ := h
  rw [List.length_map]; exact len_ok h1
theorem tb_bytes (h : Tb w0 w t S) : Calls Tryz.prog 41 #[tp t] w fun e w' => e = .returned (.int .i64 (esum S : Int)) ∧ w = w' := by
  obtain ⟨hd, ns, h1, rfl, h3, h4⟩ := h
  exact bytes_ok h1
theorem tb_get (h : Tb w0 w t S) (k : ByteArray) (s : Nat) : Calls Tryz.prog 33 #[tp t, .string k, .int .u64 (s : Int)] w fun e w' => e = .returned (okE (getE S k s)) ∧ Below w.heap.size w w' := by
  obtain ⟨hd, ns, h1, rfl, h3, h4⟩ := h
  exact get_ok h1 k s
/-- what From tells -/
def fromE (S : List En) (m : Mk) (most : Int) : List En := (fromM S m).take most.toNat
theorem tb_from (h : Tb w0 w t S) (m : Mk) (most : Int) : Calls Tryz.prog 35 #[tp t, m.v, .int .i64 most] w fun e w' => ∃ v, e = .returned v ∧ w'.ownsRow w.heap.size 83 4 v (fromE S m most).length (ecs (fromE S m most)) ∧ Below w.heap.size w w' := by
  obtain ⟨hd, ns, h1, rfl, h3, h4⟩ := h
  obtain ⟨A, Q, hp⟩ := h1.parted m
  refine (from_list h1 hp most).mono fun e w' ⟨v, he, ho, hb⟩ => ⟨v, he, ?_, hb⟩
  have hf : fromE (ns.map Nd.e) m most = (Q.map Nd.e).take most.toNat := by
    unfold fromE fromM; rw [hp.take.2]
  rw [hf, List.length_take, List.length_map]
  exact ho
theorem tb_put (h : Tb w0 w t S) (x : En) (hk : x.m.k.size ≤ 140737488351232) (hx : x.x.size ≤ 140737488351232) (k : Int) :
    Calls Tryz.prog 31 #[tp t, x.v, .int .i64 k] w fun e w' => e = .returned (te (putE S x k)) ∧ Tb w0 w' t (putS S x k) := by
  obtain ⟨hd, ns, h1, rfl, h3, h4⟩ := h
  by_cases hbad : (fineE x && okK k) = false
  · have e1 : putE (ns.map Nd.e) x k = 1 := by unfold putE; rw [hbad]; rfl
    have hb2 : fineE x = false ∨ k < 1 ∨ 8 < k := by
      rcases Bool.and_eq_false_iff.1 hbad with q | q
      · exact .inl q
      · unfold okK at q
        have := of_decide_eq_false q
        omega
    refine (put_bad h1 x hk hx k hb2).mono fun e w' ⟨he, hb⟩ => ⟨by rw [e1]; exact he, ?_⟩
    unfold putS
    rw [e1, if_neg (by decide)]
    exact ⟨hd, ns, h1.below hb, rfl, h3, h4.trans (hb.mono h4.size)⟩
  · have hgood : (fineE x && okK k) = true := by simpa using hbad
    obtain ⟨hf, hkk⟩ := Bool.and_eq_true_iff.1 hgood
    have hk2 := of_decide_eq_true hkk
    obtain ⟨A, Q, hp⟩ := h1.parted x.m
    obtain ⟨j, rfl⟩ : ∃ j : Nat, k = (j : Int) := ⟨k.toNat, by omega⟩
    have hth := hp.there h1.rise
    refine (put_fine h1 x hk hx j (by omega) (by omega) hf hp).mono fun e w' hpp => ?_
    rcases hpp with ⟨hy, he, hb⟩ | ⟨hy, hl, he, hb⟩ | ⟨hy, hl, he, b, hbw, hT, hw⟩
    · have hm : hasM (ns.map Nd.e) x.m = true := (hasM_iff _ _).2 (hth.2 hy)
      have e1 : putE (ns.map Nd.e) x (j : Int) = 8 := by unfold putE; rw [hgood, hm]; rfl
      refine ⟨by rw [e1]; exact he, ?_⟩
      unfold putS
      rw [e1, if_neg (by decide)]
      exact ⟨hd, ns, h1.below hb, rfl, h3, h4.trans (hb.mono h4.size)⟩
    · have hm : hasM (ns.map Nd.e) x.m = false := by
        cases hq : hasM (ns.map Nd.e) x.m
        · rfl
        · exact absurd (hth.1 ((hasM_iff _ _).1 hq)) hy
      have e1 : putE (ns.map Nd.e) x (j : Int) = 6 := by
        unfold putE; rw [hgood, hm]
        simp only [Bool.not_true, Bool.false_eq_true, if_false, List.length_map]
        rw [if_pos hl]
      refine ⟨by rw [e1]; exact he, ?_⟩
      unfold putS
      rw [e1, if_neg (by decide)]
      exact ⟨hd, ns, h1.below hb, rfl, h3, h4.trans (hb.mono h4.size)⟩
    · have hm : hasM (ns.map Nd.e) x.m = false := by
        cases hq : hasM (ns.map Nd.e) x.m
        · rfl
        · exact absurd (hth.1 ((hasM_iff _ _).1 hq)) hy
      have e1 : putE (ns.map Nd.e) x (j : Int) = 0 := by
        unfold putE; rw [hgood, hm]
        simp only [Bool.not_true, Bool.false_eq_true, if_false, List.length_map]
        rw [if_neg (by omega)]
      refine ⟨by rw [e1]; exact he, ?_⟩
      unfold putS
      rw [if_pos e1]
      refine ⟨hd, A ++ (⟨b, x, j⟩ : Nd) :: Q, hT, ?_, ⟨h3.1, h3.2.1, fun n hn => ?_⟩, h4.trans (hw.below (fun i hi => ?_) h4.size)⟩
      · rw [hp.ins x rfl, List.map_append, List.map_cons]
      · have hin : n ∈ ns ∨ n = ⟨b, x, j⟩ := by
          rw [hp.eq]
          simp only [List.mem_append, List.mem_cons] at hn ⊢
          rcases hn with hn | hn | hn
          · exact .inl (.inl hn)
          · exact .inr hn
          · exact .inl (.inr hn)
        rcases hin with hn | rfl
        · exact h3.2.2 n hn
        · exact Nat.le_trans h4.size hbw
      · rcases hi with rfl | rfl | hi
        · exact h3.1
        · exact h3.2.1
        · obtain ⟨n, hn, rfl⟩ := List.mem_map.1 hi
          exact h3.2.2 n hn
theorem tb_put_no (h : Tb w0 w t S) (x : En) (hk : x.m.k.size ≤ 140737488351232) (hx : x.x.size ≤ 140737488351232) (k : Int) (hne : putE S x k ≠ 0) :
    Calls Tryz.prog 31 #[tp t, x.v, .int .i64 k] w fun e w' => e = .returned (te (putE S x k)) ∧ Below w.heap.size w w' := by
  obtain ⟨hd, ns, h1, rfl, h3, h4⟩ := h
  by_cases hbad : (fineE x && okK k) = false
  · have e1 : putE (ns.map Nd.e) x k = 1 := by unfold putE; rw [hbad]; rfl
    have hb2 : fineE x = false ∨ k < 1 ∨ 8 < k := by
      rcases Bool.and_eq_false_iff.1 hbad with q | q
      · exact .inl q
      · unfold okK at q
        have := of_decide_eq_false q
        omega
    refine (put_bad h1 x hk hx k hb2).mono fun e w' ⟨he, hb⟩ => ⟨by rw [e1]; exact he, hb⟩
  · have hgood : (fineE x && okK k) = true := by simpa using hbad
    obtain ⟨hf, hkk⟩ := Bool.and_eq_true_iff.1 hgood
    have hk2 := of_decide_eq_true hkk
    obtain ⟨A, Q, hp⟩ := h1.parted x.m
    obtain ⟨j, rfl⟩ : ∃ j : Nat, k = (j : Int) := ⟨k.toNat, by omega⟩
    have hth := hp.there h1.rise
    refine (put_fine h1 x hk hx j (by omega) (by omega) hf hp).mono fun e w' hpp => ?_
    rcases hpp with ⟨hy, he, hb⟩ | ⟨hy, hl, he, hb⟩ | ⟨hy, hl, he, b, hbw, hT, hw⟩
    · have hm : hasM (ns.map Nd.e) x.m = true := (hasM_iff _ _).2 (hth.2 hy)
      have e1 : putE (ns.map Nd.e) x (j : Int) = 8 := by unfold putE; rw [hgood, hm]; rfl
      exact ⟨by rw [e1]; exact he, hb⟩
    · have hm : hasM (ns.map Nd.e) x.m = false := by
        cases hq : hasM (ns.map Nd.e) x.m
        · rfl
        · exact absurd (hth.1 ((hasM_iff _ _).1 hq)) hy
      have e1 : putE (ns.map Nd.e) x (j : Int) = 6 := by
        unfold putE; rw [hgood, hm]
        simp only [Bool.not_true, Bool.false_eq_true, if_false, List.length_map]
        rw [if_pos hl]
      exact ⟨by rw [e1]; exact he, hb⟩
    · have hm : hasM (ns.map Nd.e) x.m = false := by
        cases hq : hasM (ns.map Nd.e) x.m
        · rfl
        · exact absurd (hth.1 ((hasM_iff _ _).1 hq)) hy
      exfalso
      apply hne
      unfold putE; rw [hgood, hm]
      simp only [Bool.not_true, Bool.false_eq_true, if_false, List.length_map]
      rw [if_neg (by omega)]
end
end Go.Proofs.YtopcnlophmplgaaGreatDoor
