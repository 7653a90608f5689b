/-
  Plain facts: bytes whose last one is another; bytes that have all bits of others.
-/
import Derived.Test.YtjnmckchicmmgaaBlm
namespace Go.Proofs.Ytjnmckchicmmgaa
set_option linter.unusedVariables false

/-- bytes whose last one is another -/
theorem set_last (b : List UInt8) (m : Nat) (h : b.length = m + 1) (x : UInt8) : b.set m x = b.take m ++ [x] := by
  apply List.ext_getElem?; intro i
  rw [List.getElem?_set]
  by_cases e : m = i
  · subst e
    rw [if_pos rfl, if_pos (by omega), List.getElem?_append_right (by simp; omega)]
    have : m - (b.take m).length = 0 := by simp; omega
    rw [this]; rfl
  · rw [if_neg e]
    by_cases hi : i < m
    · rw [List.getElem?_append_left (by simp; omega), List.getElem?_take, if_pos hi]
    · rw [List.getElem?_eq_none (by omega), List.getElem?_eq_none (by simp; omega)]
/-- what May tells of so many bits with a 6 behind -/
theorem may_six (b s : List UInt8) (h : 8 ≤ b.length) : (Blm.may (b ++ [6]) s).1 = Blm.hasK b s 6 := by
  unfold Blm.may
  have hl : (b ++ [6]).length = b.length + 1 := by simp
  rw [if_neg (by rw [hl, Nat.add_sub_cancel, List.getD_eq_getElem?_getD, List.getElem?_append_right (Nat.le_refl _), Nat.sub_self]; simp; omega)]
  rw [hl, Nat.add_sub_cancel, List.take_append_of_le_length (Nat.le_refl _), List.take_of_length_le (Nat.le_refl _)]
/-- bytes that have all bits of others -/
def More (a b : List UInt8) : Prop := a.length = b.length ∧ ∀ (i : Nat) (x y : UInt8), a[i]? = some x → b[i]? = some y → ∃ m : Nat, y.toNat = x.toNat ||| m
theorem More.refl (a : List UInt8) : More a a := ⟨rfl, fun i x y hx hy => ⟨0, by rw [hx] at hy; injection hy with hy; subst hy; simp⟩⟩
theorem More.set {a b : List UInt8} (h : More a b) {i : Nat} {y : UInt8} (hy : b[i]? = some y) (t : Nat) (ht : y.toNat ||| t < 256) : More a (b.set i (UInt8.ofNat (y.toNat ||| t))) := by
  refine ⟨by rw [List.length_set]; exact h.1, fun j x z hx hz => ?_⟩
  rw [List.getElem?_set] at hz
  by_cases e : i = j
  · subst e
    rw [if_pos rfl] at hz
    obtain ⟨m, hm⟩ := h.2 i x y hx hy
    split at hz
    · injection hz with hz
      subst hz
      refine ⟨m ||| t, ?_⟩
      rw [UInt8.toNat_ofNat', Nat.mod_eq_of_lt (by simpa using ht), hm, Nat.or_assoc]
    · cases hz
  · rw [if_neg e] at hz
    exact h.2 j x z hx hz
theorem More.hasK {a b s : List UInt8} (h : More a b) (hs : Blm.hasK a s 6 = true) : Blm.hasK b s 6 = true := Blm.hasK_mono h.1 (Blm.has_or h.1 h.2) hs
theorem More.trans {a b c : List UInt8} (h : More a b) (k : More b c) : More a c := ⟨h.1.trans k.1, fun i x z hx hz => by
  have hi : i < b.length := by rw [← h.1]; exact (List.getElem?_eq_some_iff.1 hx).1
  obtain ⟨m, hm⟩ := h.2 i x _ hx (List.getElem?_eq_getElem hi)
  obtain ⟨m2, hm2⟩ := k.2 i _ z (List.getElem?_eq_getElem hi) hz
  exact ⟨m ||| m2, by rw [hm2, hm, Nat.or_assoc]⟩⟩
/-- the first k bytes have the others' bits, too -/
def OrRel (xa ya : List UInt8) (k : Nat) (xb : List UInt8) : Prop := xb.length = xa.length ∧ ∀ (i : Nat) (x y : UInt8), xa[i]? = some x → ya[i]? = some y → xb[i]? = some (if i < k then UInt8.ofNat (x.toNat ||| y.toNat) else x)
theorem OrRel.start (xa ya : List UInt8) : OrRel xa ya 0 xa := ⟨rfl, fun i x y hx hy => by rw [if_neg (Nat.not_lt_zero _)]; exact hx⟩
theorem or_byte (x y : UInt8) : x.toNat ||| y.toNat < 256 := Nat.or_lt_two_pow (n := 8) x.toNat_lt y.toNat_lt
theorem OrRel.step {xa ya xb : List UInt8} {k : Nat} (h : OrRel xa ya k xb) {x y : UInt8} (hx : xa[k]? = some x) (hy : ya[k]? = some y) : OrRel xa ya (k + 1) (xb.set k (UInt8.ofNat (x.toNat ||| y.toNat))) := by
  refine ⟨by rw [List.length_set]; exact h.1, fun i u v hu hv => ?_⟩
  have hk : k < xb.length := by rw [h.1]; exact (List.getElem?_eq_some_iff.1 hx).1
  rw [List.getElem?_set]
  by_cases e : k = i
  · subst e
    rw [if_pos rfl, if_pos hk, if_pos (Nat.lt_succ_self _)]
    rw [hx] at hu; rw [hy] at hv
    injection hu with hu; injection hv with hv
    rw [hu, hv]
  · rw [if_neg e, h.2 i u v hu hv]
    by_cases hi : i < k
    · rw [if_pos hi, if_pos (by omega)]
    · rw [if_neg hi, if_neg (by omega)]
theorem OrRel.left {xa ya xb : List UInt8} {k m : Nat} (h : OrRel xa ya k xb) (hl : ya.length = xa.length) (hm : m ≤ xa.length) : More (xa.take m) (xb.take m) := by
  refine ⟨by rw [List.length_take, List.length_take, h.1], fun i x z hx hz => ?_⟩
  rw [List.getElem?_take] at hx hz
  split at hx
  · rename_i hi
    rw [if_pos hi] at hz
    have hi2 : i < ya.length := by omega
    have h3 := h.2 i x _ hx (List.getElem?_eq_getElem hi2)
    rw [hz] at h3
    injection h3 with h3
    by_cases hk : i < k
    · rw [if_pos hk] at h3
      refine ⟨(ya[i]).toNat, ?_⟩
      rw [h3, UInt8.toNat_ofNat', Nat.mod_eq_of_lt (by simpa using or_byte x ya[i])]
    · rw [if_neg hk] at h3
      exact ⟨0, by rw [h3]; simp⟩
  · cases hx
theorem OrRel.right {xa ya xb : List UInt8} {k m : Nat} (h : OrRel xa ya k xb) (hl : ya.length = xa.length) (hm : m ≤ k) (hk : k ≤ xa.length) : More (ya.take m) (xb.take m) := by
  refine ⟨by rw [List.length_take, List.length_take, h.1, hl], fun i y z hy hz => ?_⟩
  rw [List.getElem?_take] at hy hz
  split at hy
  · rename_i hi
    rw [if_pos hi] at hz
    have hi2 : i < xa.length := by omega
    have h3 := h.2 i _ y (List.getElem?_eq_getElem hi2) hy
    rw [hz] at h3
    injection h3 with h3
    rw [if_pos (by omega)] at h3
    refine ⟨(xa[i]).toNat, ?_⟩
    rw [h3, UInt8.toNat_ofNat', Nat.mod_eq_of_lt (by simpa using or_byte xa[i] y), Nat.or_comm]
  · cases hy
/-- both filters' bits together: each key of both may be there -/
theorem or_may {la lb : List (List UInt8)} (hl : la.length = lb.length) {xb : List UInt8} (h : OrRel (Blm.filt la) (Blm.filt lb) (Blm.filt la).length xb) {s : List UInt8} (hs : s ∈ la ∨ s ∈ lb) : Blm.may xb s = (true, 0) := by
  have h1 := Blm.filt_len la
  have h2 := Blm.filt_len lb
  have h3 := Blm.size_pos la.length
  rw [← hl] at h2
  have hx := Blm.last_filt la
  have hy := Blm.last_filt lb
  rw [h1, Nat.add_sub_cancel, List.getD_eq_getElem?_getD] at hx
  rw [h2, Nat.add_sub_cancel, List.getD_eq_getElem?_getD] at hy
  obtain ⟨x, hx2⟩ : ∃ x, (Blm.filt la)[Blm.size la.length]? = some x := ⟨_, List.getElem?_eq_getElem (by omega)⟩
  obtain ⟨y, hy2⟩ : ∃ y, (Blm.filt lb)[Blm.size la.length]? = some y := ⟨_, List.getElem?_eq_getElem (by omega)⟩
  rw [hx2, Option.getD_some] at hx
  rw [hy2, Option.getD_some] at hy
  subst hx hy
  have h6 := h.2 _ _ _ hx2 hy2
  rw [if_pos (by omega)] at h6
  have hlen : xb.length = Blm.size la.length + 1 := by rw [h.1, h1]
  unfold Blm.may
  rw [if_neg (by rw [hlen, Nat.add_sub_cancel, List.getD_eq_getElem?_getD, h6]; simp; omega), hlen, Nat.add_sub_cancel]
  congr 1
  have ta := Blm.take_filt la
  have tb := Blm.take_filt lb
  rw [h1, Nat.add_sub_cancel] at ta
  rw [h2, Nat.add_sub_cancel] at tb
  rcases hs with hs | hs
  · have hm := h.left (m := Blm.size la.length) (by omega) (by omega)
    rw [ta] at hm
    have := Blm.may_there hs
    rw [Blm.may_filt] at this
    exact hm.hasK (congrArg Prod.fst this)
  · have hm := h.right (m := Blm.size la.length) (by omega) (by omega) (Nat.le_refl _)
    rw [tb] at hm
    have := Blm.may_there hs
    rw [Blm.may_filt] at this
    exact hm.hasK (congrArg Prod.fst this)
end Go.Proofs.Ytjnmckchicmmgaa
