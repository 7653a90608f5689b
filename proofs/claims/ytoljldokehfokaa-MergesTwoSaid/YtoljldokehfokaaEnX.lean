/-
  Texts that are cut, and read back (plain facts).
  Plain facts about entries as bytes.
-/
import Derived.Test.YtoljldokehfokaaInC
import Derived.Test.YtoljldokehfokaaRdX
namespace Go.Proofs.Ytoljldokehfokaa
open Go.RowKit
set_option linter.unusedVariables false

theorem slen (s : ByteArray) : s.data.toList.length = s.size := by rw [Array.length_toList]; rfl

/-- a text that is cut off is short -/
theorem getText_cut (s : ByteArray) (m : Nat) (hs : s.size < 18446744073709551616) (hm : m < (Vi.enc s.size).length + s.size) : getText ((Vi.enc s.size ++ s.data.toList).take m) = ([], 0, 5) := by
  rw [List.take_append]
  by_cases h : m < (Vi.enc s.size).length
  · have e : m - (Vi.enc s.size).length = 0 := by omega
    rw [e, List.take_zero, List.append_nil]
    have g := Vi.get_cut s.size m hs h
    unfold getText
    rw [g]
    simp
  · rw [List.take_of_length_le (by omega)]
    have g := Vi.get_enc s.size (s.data.toList.take (m - (Vi.enc s.size).length)) hs
    unfold getText
    rw [g]
    simp only [ne_eq, not_true_eq_false, if_false]
    rw [if_pos]
    have := slen s
    simp
    omega
theorem getText_enc (s : ByteArray) (r : List UInt8) (hs : s.size < 18446744073709551616) : getText (Vi.enc s.size ++ (s.data.toList ++ r)) = (s.data.toList, (Vi.enc s.size).length + s.size, 0) := by
  have g := Vi.get_enc s.size (s.data.toList ++ r) hs
  have hl := slen s
  unfold getText
  rw [g]
  simp only [ne_eq, not_true_eq_false, if_false]
  rw [if_neg (by simp only [List.length_append]; omega), List.drop_append, List.drop_eq_nil_of_le (Nat.le_refl _), Nat.sub_self, List.drop_zero, List.nil_append, ← hl, List.take_append_of_le_length (Nat.le_refl _), List.take_length]
/-- what is got stood there -/
theorem getText_back (l a : List UInt8) (t : Nat) (h : getText l = (a, t, 0)) : t ≤ l.length ∧ 1 ≤ t ∧ a.length < 18446744073709551616 ∧ t = (Vi.enc a.length).length + a.length ∧ l.take t = Vi.enc a.length ++ a := by
  unfold getText at h
  rcases hg : Vi.get l with ⟨k, q, e⟩
  rw [hg] at h
  dsimp only at h
  split at h
  · rename_i he
    injection h with _ h
    injection h with _ h
    exact absurd h he
  · rename_i he
    have he0 : e = 0 := by omega
    subst he0
    have hb := Vi.get_back l k q hg
    split at h
    · injection h with _ h
      injection h with _ h
      cases h
    · rename_i hs
      injection h with h1 h2
      injection h2 with h2 _
      have hal : a.length = k := by rw [← h1]; simp; omega
      have hkl := hb.1
      have hq := congrArg List.length hb.2.2.2.2
      simp only [List.length_take] at hq
      have hq2 : (Vi.enc k).length = q := by omega
      rw [hal]
      refine ⟨by omega, by omega, by omega, by omega, ?_⟩
      rw [← h2, List.take_add, hb.2.2.2.2, h1]
theorem getText_bad2 (l a : List UInt8) (t e : Nat) (h : getText l = (a, t, e)) (he : e ≠ 0) : a = [] ∧ t = 0 ∧ (e = 4 ∨ e = 5) := by
  unfold getText at h
  rcases hg : Vi.get l with ⟨k, q, e1⟩
  rw [hg] at h
  dsimp only at h
  split at h
  · rename_i he1
    injection h with h1 h
    injection h with h2 h3
    have := (Vi.get_bad l k q e1 hg he1).2.2
    exact ⟨h1.symm, h2.symm, by omega⟩
  · split at h
    · injection h with h1 h
      injection h with h2 h3
      exact ⟨h1.symm, h2.symm, by omega⟩
    · injection h with h1 h
      injection h with h2 h3
      exact absurd h3.symm he
end Go.Proofs.Ytoljldokehfokaa

namespace Go.Proofs.Ytoljldokehfokaa
open Go.RowKit
set_option linter.unusedVariables false

section
variable {l ks : List UInt8} {t1 s t2 : Nat}
theorem gotE_kbad {e : Nat} (h : getText l = (ks, t1, e)) (he : e ≠ 0) : gotE l = (En.zero, 0, e) := by
  have hk : keyT l = (ks, e) := by unfold keyT; rw [h]; exact if_neg (fun q => he q.1)
  unfold gotE; rw [hk]; exact if_pos he
theorem gotE_kform (h : getText l = (ks, t1, 0)) (hc : chk ⟨ks.toArray⟩ = false) : gotE l = (En.zero, 0, 4) := by
  have hk : keyT l = ([], 4) := by unfold keyT; rw [h]; exact if_pos ⟨rfl, hc⟩
  unfold gotE; rw [hk]; exact if_pos (by decide)
theorem keyT_ok (h : getText l = (ks, t1, 0)) (hc : chk ⟨ks.toArray⟩ = true) : keyT l = (ks, 0) := by
  unfold keyT; rw [h]; exact if_neg (fun q => by rw [hc] at q; cases q.2)
theorem gotE_sbad {e : Nat} (h : getText l = (ks, t1, 0)) (hc : chk ⟨ks.toArray⟩ = true) (hg : Vi.get (l.drop t1) = (s, t2, e)) (he : e ≠ 0) : gotE l = (En.zero, 0, e) := by
  unfold gotE; rw [keyT_ok h hc, h]
  dsimp only
  rw [hg, if_neg (by decide)]
  exact if_pos he
theorem gotE_end (h : getText l = (ks, t1, 0)) (hc : chk ⟨ks.toArray⟩ = true) (hg : Vi.get (l.drop t1) = (s, t2, 0)) (hd : (l.drop t1).drop t2 = []) : gotE l = (En.zero, 0, 5) := by
  unfold gotE; rw [keyT_ok h hc, h]
  dsimp only
  rw [hg, if_neg (by decide)]
  dsimp only
  rw [if_neg (fun q => q rfl), hd]
theorem gotE_form {x : UInt8} {l3 : List UInt8} (h : getText l = (ks, t1, 0)) (hc : chk ⟨ks.toArray⟩ = true) (hg : Vi.get (l.drop t1) = (s, t2, 0)) (hd : (l.drop t1).drop t2 = x :: l3) (hx : 1 < x.toNat) : gotE l = (En.zero, 0, 4) := by
  unfold gotE; rw [keyT_ok h hc, h]
  dsimp only
  rw [hg, if_neg (by decide)]
  dsimp only
  rw [if_neg (fun q => q rfl), hd]
  exact if_pos hx
theorem gotE_gone {x : UInt8} {l3 : List UInt8} (h : getText l = (ks, t1, 0)) (hc : chk ⟨ks.toArray⟩ = true) (hg : Vi.get (l.drop t1) = (s, t2, 0)) (hd : (l.drop t1).drop t2 = x :: l3) (hx : x.toNat = 1) : gotE l = (⟨⟨⟨ks.toArray⟩, s, true⟩, ByteArray.empty⟩, t1 + t2 + 1, 0) := by
  unfold gotE; rw [keyT_ok h hc, h]
  dsimp only
  rw [hg, if_neg (by decide)]
  dsimp only
  rw [if_neg (fun q => q rfl), hd]
  dsimp only
  rw [if_neg (by omega), if_pos hx]
theorem gotE_vbad {x : UInt8} {l3 vs : List UInt8} {t4 e : Nat} (h : getText l = (ks, t1, 0)) (hc : chk ⟨ks.toArray⟩ = true) (hg : Vi.get (l.drop t1) = (s, t2, 0)) (hd : (l.drop t1).drop t2 = x :: l3) (hx : x.toNat = 0) (hv : getText l3 = (vs, t4, e)) (he : e ≠ 0) : gotE l = (En.zero, 0, e) := by
  have hvt : valT l3 = (vs, e) := by unfold valT; rw [hv]; exact if_neg (fun q => he q.1)
  unfold gotE; rw [keyT_ok h hc, h]
  dsimp only
  rw [hg, if_neg (by decide)]
  dsimp only
  rw [if_neg (fun q => q rfl), hd]
  dsimp only
  rw [if_neg (by omega), if_neg (by omega), hvt]
  exact if_pos he
theorem gotE_vform {x : UInt8} {l3 vs : List UInt8} {t4 : Nat} (h : getText l = (ks, t1, 0)) (hc : chk ⟨ks.toArray⟩ = true) (hg : Vi.get (l.drop t1) = (s, t2, 0)) (hd : (l.drop t1).drop t2 = x :: l3) (hx : x.toNat = 0) (hv : getText l3 = (vs, t4, 0)) (hl : 256 < vs.length) : gotE l = (En.zero, 0, 4) := by
  have hvt : valT l3 = ([], 4) := by unfold valT; rw [hv]; exact if_pos ⟨rfl, hl⟩
  unfold gotE; rw [keyT_ok h hc, h]
  dsimp only
  rw [hg, if_neg (by decide)]
  dsimp only
  rw [if_neg (fun q => q rfl), hd]
  dsimp only
  rw [if_neg (by omega), if_neg (by omega), hvt]
  exact if_pos (by decide)
theorem gotE_val {x : UInt8} {l3 vs : List UInt8} {t4 : Nat} (h : getText l = (ks, t1, 0)) (hc : chk ⟨ks.toArray⟩ = true) (hg : Vi.get (l.drop t1) = (s, t2, 0)) (hd : (l.drop t1).drop t2 = x :: l3) (hx : x.toNat = 0) (hv : getText l3 = (vs, t4, 0)) (hl : vs.length ≤ 256) :
    gotE l = (⟨⟨⟨ks.toArray⟩, s, false⟩, ⟨vs.toArray⟩⟩, t1 + t2 + 1 + t4, 0) := by
  have hvt : valT l3 = (vs, 0) := by unfold valT; rw [hv]; exact if_neg (fun q => absurd q.2 (by show ¬ 256 < vs.length; omega))
  unfold gotE; rw [keyT_ok h hc, h]
  dsimp only
  rw [hg, if_neg (by decide)]
  dsimp only
  rw [if_neg (fun q => q rfl), hd]
  dsimp only
  rw [if_neg (by omega), if_neg (by omega), hvt, hv]
  exact if_neg (fun q => q rfl)
end

/-- each way that bytes can go -/
theorem gotE_ways (l : List UInt8) :
    (∃ e, gotE l = (En.zero, 0, e) ∧ (e = 4 ∨ e = 5)) ∨
    (∃ ks t1 s t2 l3, getText l = (ks, t1, 0) ∧ chk ⟨ks.toArray⟩ = true ∧ Vi.get (l.drop t1) = (s, t2, 0) ∧ (l.drop t1).drop t2 = 1 :: l3 ∧ gotE l = (⟨⟨⟨ks.toArray⟩, s, true⟩, ByteArray.empty⟩, t1 + t2 + 1, 0)) ∨
    (∃ ks t1 s t2 l3 vs t4, getText l = (ks, t1, 0) ∧ chk ⟨ks.toArray⟩ = true ∧ Vi.get (l.drop t1) = (s, t2, 0) ∧ (l.drop t1).drop t2 = 0 :: l3 ∧ getText l3 = (vs, t4, 0) ∧ vs.length ≤ 256 ∧ gotE l = (⟨⟨⟨ks.toArray⟩, s, false⟩, ⟨vs.toArray⟩⟩, t1 + t2 + 1 + t4, 0)) := by
  rcases h : getText l with ⟨ks, t1, e1⟩
  by_cases h1 : e1 = 0
  · subst h1
    cases hc : chk ⟨ks.toArray⟩
    · exact .inl ⟨4, gotE_kform h hc, .inl rfl⟩
    · rcases hg : Vi.get (l.drop t1) with ⟨s, t2, e2⟩
      by_cases h2 : e2 = 0
      · subst h2
        cases hd : (l.drop t1).drop t2 with
        | nil => exact .inl ⟨5, gotE_end h hc hg hd, .inr rfl⟩
        | cons x l3 =>
          by_cases hx : 1 < x.toNat
          · exact .inl ⟨4, gotE_form h hc hg hd hx, .inl rfl⟩
          · by_cases hx1 : x.toNat = 1
            · have : x = 1 := UInt8.toNat_inj.1 hx1
              subst this
              exact .inr (.inl ⟨ks, t1, s, t2, l3, rfl, hc, hg, hd, gotE_gone h hc hg hd hx1⟩)
            · have hx0 : x.toNat = 0 := by omega
              have : x = 0 := UInt8.toNat_inj.1 hx0
              subst this
              rcases hv : getText l3 with ⟨vs, t4, e4⟩
              by_cases h4 : e4 = 0
              · subst h4
                by_cases hl : 256 < vs.length
                · exact .inl ⟨4, gotE_vform h hc hg hd hx0 hv hl, .inl rfl⟩
                · exact .inr (.inr ⟨ks, t1, s, t2, l3, vs, t4, rfl, hc, hg, hd, hv, by omega, gotE_val h hc hg hd hx0 hv (by omega)⟩)
              · exact .inl ⟨e4, gotE_vbad h hc hg hd hx0 hv h4, (getText_bad2 _ _ _ _ hv h4).2.2⟩
      · have := (Vi.get_bad _ _ _ _ hg h2).2.2
        exact .inl ⟨e2, gotE_sbad h hc hg h2, by omega⟩
  · exact .inl ⟨e1, gotE_kbad h h1, (getText_bad2 _ _ _ _ h h1).2.2⟩

theorem txt_of (s : ByteArray) : (⟨s.data.toList.toArray⟩ : ByteArray) = s := by cases s; simp
theorem txt_size (l : List UInt8) : (⟨l.toArray⟩ : ByteArray).size = l.length := by simp [ByteArray.size]

/-- may an entry be read back? -/
def okE (x : En) : Bool := chk x.m.k && (x.m.g || decide (x.x.size ≤ 256))
/-- as which one it is -/
def normE (x : En) : En := if x.m.g then ⟨x.m, ByteArray.empty⟩ else x

theorem encE_one (x : En) (r : List UInt8) : encE x ++ r = Vi.enc x.m.k.size ++ (x.m.k.data.toList ++ (Vi.enc x.m.s ++ (tailE x ++ r))) := by unfold encE; simp
theorem enc_key (x : En) (r : List UInt8) (hk : x.m.k.size < 18446744073709551616) :
    getText (encE x ++ r) = (x.m.k.data.toList, (Vi.enc x.m.k.size).length + x.m.k.size, 0) ∧ (encE x ++ r).drop ((Vi.enc x.m.k.size).length + x.m.k.size) = Vi.enc x.m.s ++ (tailE x ++ r) := by
  rw [encE_one]
  refine ⟨getText_enc _ _ hk, ?_⟩
  rw [← List.append_assoc, List.drop_append, List.drop_eq_nil_of_le (by rw [List.length_append, txt_len]; omega), List.length_append, txt_len, Nat.sub_self, List.drop_zero, List.nil_append]
theorem enc_seq (x : En) (r : List UInt8) (hs : x.m.s < 18446744073709551616) : Vi.get (Vi.enc x.m.s ++ (tailE x ++ r)) = (x.m.s, (Vi.enc x.m.s).length, 0) ∧ (Vi.enc x.m.s ++ (tailE x ++ r)).drop (Vi.enc x.m.s).length = tailE x ++ r :=
  ⟨Vi.get_enc _ _ hs, by rw [List.drop_append, List.drop_eq_nil_of_le (Nat.le_refl _), Nat.sub_self, List.drop_zero, List.nil_append]⟩

/-- an entry that is put is got -/
theorem got_enc (x : En) (r : List UInt8) (hk : x.m.k.size < 18446744073709551616) (hs : x.m.s < 18446744073709551616) (hx : x.x.size < 18446744073709551616) :
    gotE (encE x ++ r) = if okE x then (normE x, (encE x).length, 0) else (En.zero, 0, 4) := by
  obtain ⟨h, hd1⟩ := enc_key x r hk
  obtain ⟨hg, hd2⟩ := enc_seq x r hs
  have hg' := hg
  rw [← hd1] at hg
  have hd : ((encE x ++ r).drop ((Vi.enc x.m.k.size).length + x.m.k.size)).drop (Vi.enc x.m.s).length = tailE x ++ r := by rw [hd1]; exact hd2
  unfold okE normE
  cases hc : chk x.m.k
  · rw [gotE_kform h (by rw [txt_of]; exact hc)]; rfl
  · have hc' : chk ⟨x.m.k.data.toList.toArray⟩ = true := by rw [txt_of]; exact hc
    cases hgn : x.m.g
    · have ht : tailE x ++ r = 0 :: (Vi.enc x.x.size ++ (x.x.data.toList ++ r)) := by unfold tailE; rw [hgn]; simp
      rw [ht] at hd
      have hv := getText_enc x.x r hx
      by_cases hl : x.x.size ≤ 256
      · rw [gotE_val h hc' hg hd rfl hv (by rw [txt_len]; exact hl), if_pos (by simp [hl]), if_neg (by simp), txt_of, txt_of]
        have e1 : (encE x).length = (Vi.enc x.m.k.size).length + x.m.k.size + (Vi.enc x.m.s).length + 1 + ((Vi.enc x.x.size).length + x.x.size) := by
          unfold encE tailE; rw [hgn]; simp; omega
        rw [e1]
        have e2 : (⟨⟨x.m.k, x.m.s, false⟩, x.x⟩ : En) = x := by
          obtain ⟨⟨k, s, g⟩, y⟩ := x
          have : g = false := hgn
          rw [this]
        rw [e2]
      · rw [gotE_vform h hc' hg hd rfl hv (by rw [txt_len]; omega), if_neg (by simp; omega)]
    · have ht : tailE x ++ r = 1 :: r := by unfold tailE; rw [hgn]; simp
      rw [ht] at hd
      rw [gotE_gone h hc' hg hd rfl, if_pos (by simp), if_pos rfl, txt_of]
      have e1 : (encE x).length = (Vi.enc x.m.k.size).length + x.m.k.size + (Vi.enc x.m.s).length + 1 := by
        unfold encE tailE; rw [hgn]; simp; omega
      rw [e1]
      have e2 : (⟨⟨x.m.k, x.m.s, true⟩, ByteArray.empty⟩ : En) = ⟨x.m, ByteArray.empty⟩ := by
        obtain ⟨⟨k, s, g⟩, y⟩ := x
        have : g = true := hgn
        rw [this]
      rw [e2]

/-- what is got of any bytes -/
theorem got_back (l : List UInt8) (x : En) (t : Nat) (h : gotE l = (x, t, 0)) :
    3 ≤ t ∧ t ≤ l.length ∧ chk x.m.k = true ∧ x.x.size ≤ 256 ∧ (x.m.g = true → x.x = ByteArray.empty) ∧ x.m.s < 18446744073709551616 ∧ t = (encE x).length ∧ l.take t = encE x := by
  rcases gotE_ways l with ⟨e, he, h45⟩ | ⟨ks, t1, s, t2, l3, h1, hc, hg, hd, he⟩ | ⟨ks, t1, s, t2, l3, vs, t4, h1, hc, hg, hd, hv, hl, he⟩
  · rw [h] at he
    injection he with _ he
    injection he with _ he
    omega
  · rw [h] at he
    injection he with hx he
    injection he with ht _
    subst hx ht
    obtain ⟨b1, b2, b3, b4, b5⟩ := getText_back _ _ _ h1
    obtain ⟨c1, c2, c3, c4, c5⟩ := Vi.get_back _ _ _ hg
    have d1 := congrArg List.length hd
    rw [List.length_drop, List.length_drop, List.length_cons] at d1
    have c6 : (Vi.enc s).length = t2 := by
      have := congrArg List.length c5
      rw [List.length_take] at this; omega
    have htake : l.take (t1 + t2 + 1) = (Vi.enc ks.length ++ ks) ++ (Vi.enc s ++ [1]) := by
      rw [Nat.add_assoc, List.take_add, b5, List.take_add, c5, hd]; rfl
    have henc : encE ⟨⟨⟨ks.toArray⟩, s, true⟩, ByteArray.empty⟩ = (Vi.enc ks.length ++ ks) ++ (Vi.enc s ++ [1]) := by
      unfold encE tailE; simp only [txt_size, if_true]
    have hbs := Vi.enc_pos ks.length
    refine ⟨by omega, by omega, hc, Nat.zero_le _, fun _ => rfl, c1, ?_, by rw [htake, henc]⟩
    rw [henc]; simp only [List.length_append, List.length_singleton]; omega
  · rw [h] at he
    injection he with hx he
    injection he with ht _
    subst hx ht
    obtain ⟨b1, b2, b3, b4, b5⟩ := getText_back _ _ _ h1
    obtain ⟨c1, c2, c3, c4, c5⟩ := Vi.get_back _ _ _ hg
    obtain ⟨f1, f2, f3, f4, f5⟩ := getText_back _ _ _ hv
    have d1 := congrArg List.length hd
    rw [List.length_drop, List.length_drop, List.length_cons] at d1
    have c6 : (Vi.enc s).length = t2 := by
      have := congrArg List.length c5
      rw [List.length_take] at this; omega
    have htake : l.take (t1 + t2 + 1 + t4) = (Vi.enc ks.length ++ ks) ++ (Vi.enc s ++ (0 :: (Vi.enc vs.length ++ vs))) := by
      rw [show t1 + t2 + 1 + t4 = t1 + (t2 + (1 + t4)) from by omega, List.take_add, b5, List.take_add, c5, hd, Nat.add_comm 1 t4, List.take_succ_cons, f5]
    have henc : encE ⟨⟨⟨ks.toArray⟩, s, false⟩, ⟨vs.toArray⟩⟩ = (Vi.enc ks.length ++ ks) ++ (Vi.enc s ++ (0 :: (Vi.enc vs.length ++ vs))) := by
      unfold encE tailE; simp only [txt_size, Bool.false_eq_true, if_false]
    have hbs := Vi.enc_pos ks.length
    refine ⟨by omega, by omega, hc, by rw [txt_size]; exact hl, (fun hh => by cases hh), c1, ?_, by rw [htake, henc]⟩
    rw [henc]; simp only [List.length_append, List.length_cons]; omega
theorem got_bad (l : List UInt8) (x : En) (t e : Nat) (h : gotE l = (x, t, e)) (he : e ≠ 0) : x = En.zero ∧ t = 0 ∧ (e = 4 ∨ e = 5) := by
  rcases gotE_ways l with ⟨e', h1, h45⟩ | ⟨ks, t1, s, t2, l3, _, _, _, _, h1⟩ | ⟨ks, t1, s, t2, l3, vs, t4, _, _, _, _, _, _, h1⟩
  · rw [h] at h1
    injection h1 with a h1
    injection h1 with b c
    exact ⟨a, b, by omega⟩
  · rw [h] at h1
    injection h1 with _ h1
    injection h1 with _ h1
    exact absurd h1 he
  · rw [h] at h1
    injection h1 with _ h1
    injection h1 with _ h1
    exact absurd h1 he
/-- an entry that is cut off is short -/
theorem got_cut (x : En) (m : Nat) (hk : x.m.k.size < 18446744073709551616) (hs : x.m.s < 18446744073709551616) (hx : x.x.size < 18446744073709551616) (hc : chk x.m.k = true) (hm : m < (encE x).length) : gotE ((encE x).take m) = (En.zero, 0, 5) := by
  have hal : (Vi.enc x.m.k.size ++ x.m.k.data.toList).length = (Vi.enc x.m.k.size).length + x.m.k.size := by rw [List.length_append, txt_len]
  have htl : (encE x).length = (Vi.enc x.m.k.size).length + x.m.k.size + ((Vi.enc x.m.s).length + (tailE x).length) := by unfold encE; rw [List.length_append, hal, List.length_append]
  have hspl : (encE x).take m = (Vi.enc x.m.k.size ++ x.m.k.data.toList).take m ++ (Vi.enc x.m.s ++ tailE x).take (m - ((Vi.enc x.m.k.size).length + x.m.k.size)) := by unfold encE; rw [List.take_append, hal]
  by_cases h1 : m < (Vi.enc x.m.k.size).length + x.m.k.size
  · rw [hspl, show m - ((Vi.enc x.m.k.size).length + x.m.k.size) = 0 from by omega, List.take_zero, List.append_nil]
    exact gotE_kbad (getText_cut x.m.k m hk h1) (by decide)
  · have hc' : chk ⟨x.m.k.data.toList.toArray⟩ = true := by rw [txt_of]; exact hc
    rw [hspl, List.take_of_length_le (by omega)]
    obtain ⟨q, hq⟩ : ∃ q, m - ((Vi.enc x.m.k.size).length + x.m.k.size) = q := ⟨_, rfl⟩
    rw [hq]
    have hg1 : ∀ r, getText ((Vi.enc x.m.k.size ++ x.m.k.data.toList) ++ r) = (x.m.k.data.toList, (Vi.enc x.m.k.size).length + x.m.k.size, 0) := fun r => by
      rw [List.append_assoc]; exact getText_enc x.m.k r hk
    have hdr : ∀ r, ((Vi.enc x.m.k.size ++ x.m.k.data.toList) ++ r).drop ((Vi.enc x.m.k.size).length + x.m.k.size) = r := fun r => by
      rw [List.drop_append, List.drop_eq_nil_of_le (by omega), hal, Nat.sub_self, List.drop_zero, List.nil_append]
    by_cases h2 : q < (Vi.enc x.m.s).length
    · have e : (Vi.enc x.m.s ++ tailE x).take q = (Vi.enc x.m.s).take q := by rw [List.take_append, show q - (Vi.enc x.m.s).length = 0 from by omega, List.take_zero, List.append_nil]
      rw [e]
      exact gotE_sbad (hg1 _) hc' (by rw [hdr]; exact Vi.get_cut x.m.s q hs h2) (by decide)
    · have e : (Vi.enc x.m.s ++ tailE x).take q = Vi.enc x.m.s ++ (tailE x).take (q - (Vi.enc x.m.s).length) := by rw [List.take_append, List.take_of_length_le (by omega)]
      rw [e]
      obtain ⟨p, hp⟩ : ∃ p, q - (Vi.enc x.m.s).length = p := ⟨_, rfl⟩
      rw [hp]
      have hpl : p < (tailE x).length := by omega
      have hg2 : ∀ r, Vi.get (((Vi.enc x.m.k.size ++ x.m.k.data.toList) ++ (Vi.enc x.m.s ++ r)).drop ((Vi.enc x.m.k.size).length + x.m.k.size)) = (x.m.s, (Vi.enc x.m.s).length, 0) := fun r => by rw [hdr]; exact Vi.get_enc _ _ hs
      have hd2 : ∀ r, (((Vi.enc x.m.k.size ++ x.m.k.data.toList) ++ (Vi.enc x.m.s ++ r)).drop ((Vi.enc x.m.k.size).length + x.m.k.size)).drop (Vi.enc x.m.s).length = r := fun r => by
        rw [hdr, List.drop_append, List.drop_eq_nil_of_le (Nat.le_refl _), Nat.sub_self, List.drop_zero, List.nil_append]
      rcases Nat.eq_zero_or_pos p with h0 | h0
      · subst h0
        rw [List.take_zero]
        exact gotE_end (hg1 _) hc' (hg2 _) (hd2 _)
      · cases hgn : x.m.g
        · have ht : tailE x = 0 :: (Vi.enc x.x.size ++ x.x.data.toList) := by unfold tailE; rw [hgn]; simp
          obtain ⟨p, rfl⟩ : ∃ j, p = j + 1 := ⟨p - 1, by omega⟩
          rw [ht, List.length_cons, List.length_append, txt_len] at hpl
          rw [ht, List.take_succ_cons]
          exact gotE_vbad (hg1 _) hc' (hg2 _) (hd2 _) rfl (getText_cut x.x p hx (by omega)) (by decide)
        · have ht : tailE x = [1] := by unfold tailE; rw [hgn]; simp
          rw [ht] at hpl
          simp at hpl
          omega
theorem got_nil : gotE [] = (En.zero, 0, 5) := gotE_kbad (show getText [] = ([], 0, 5) from rfl) (by decide)
end Go.Proofs.Ytoljldokehfokaa

