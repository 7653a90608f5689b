/-
  Plain mathematics: what is read of a block's bytes.
  Plain mathematics: what is no block: other bytes behind, fewer, another place; blocks of parts.
-/
import Derived.Test.YtghfhojpnbpjoaaBkMB
namespace Go.Proofs.Ytghfhojpnbpjoaa
open Go.RowKit
set_option linter.unusedVariables false

def numF (l : List UInt8) (b : Bool) : List UInt8 × Bool := (l.drop (Vi.get l).2.1, b || decide ((Vi.get l).2.2 ≠ 0))
def textF (l : List UInt8) (b : Bool) : List UInt8 × Bool := (l.drop (getText l).2.1, b || decide ((getText l).2.2 ≠ 0))
def stateF : List UInt8 → Bool → Nat × List UInt8 × Bool
  | [], _ => (0, [], true)
  | c :: r, b => if 1 < c.toNat then (0, c :: r, true) else (c.toNat, r, b)
theorem stateF_cons (c : UInt8) (r : List UInt8) (b : Bool) : stateF (c :: r) b = if 1 < c.toNat then (0, c :: r, true) else (c.toNat, r, b) := rfl
def keyF (p : ByteArray) (l : List UInt8) (b : Bool) : ByteArray × List UInt8 × Bool :=
  if p.size < (Vi.get l).1 then (ByteArray.empty, (textF (numF l b).1 (numF l b).2).1, true)
  else (p.extract 0 (Vi.get l).1 ++ ⟨(getText (numF l b).1).1.toArray⟩, (textF (numF l b).1 (numF l b).2).1, (textF (numF l b).1 (numF l b).2).2 || !chk (p.extract 0 (Vi.get l).1 ++ ⟨(getText (numF l b).1).1.toArray⟩))
/-- behind the key: the number -/
def seqF (k : ByteArray × List UInt8 × Bool) : Nat × List UInt8 × Bool := ((Vi.get k.2.1).1, numF k.2.1 k.2.2)
def restF (k : ByteArray) (s : Nat) (g : Nat × List UInt8 × Bool) : En × List UInt8 × Bool :=
  if g.1 = 1 then (⟨⟨k, s, true⟩, ByteArray.empty⟩, g.2) else (⟨⟨k, s, false⟩, ⟨(getText g.2.1).1.toArray⟩⟩, textF g.2.1 g.2.2)
/-- an entry, what stands behind it, and whether the bytes are bad -/
def entF (p : ByteArray) (l : List UInt8) (b : Bool) : En × List UInt8 × Bool :=
  restF (keyF p l b).1 (seqF (keyF p l b)).1 (stateF (seqF (keyF p l b)).2.1 (seqF (keyF p l b)).2.2)
def decF : Nat → List En → ByteArray → List UInt8 → Bool → List En × Bool
  | 0, acc, _, _, b => (acc, !b)
  | f + 1, acc, p, l, b => if b = false ∧ l ≠ [] ∧ acc.length ≤ 64 then decF f (acc ++ [(entF p l b).1]) (entF p l b).1.m.k (entF p l b).2.1 (entF p l b).2.2 else (acc, !b)

theorem numF_enc (n : Nat) (r : List UInt8) (hn : n < 18446744073709551616) : (Vi.get (Vi.enc n ++ r)).1 = n ∧ numF (Vi.enc n ++ r) false = (r, false) := by
  have h := Vi.get_enc n r hn
  unfold numF
  rw [h]
  refine ⟨rfl, ?_⟩
  show ((Vi.enc n ++ r).drop (Vi.enc n).length, _) = _
  rw [List.drop_left]; rfl
theorem textF_enc (s : ByteArray) (r : List UInt8) (hs : s.size < 18446744073709551616) : (getText (Vi.enc s.size ++ (s.data.toList ++ r))).1 = s.data.toList ∧ textF (Vi.enc s.size ++ (s.data.toList ++ r)) false = (r, false) := by
  have h := getText_enc s r hs
  unfold textF
  rw [h]
  refine ⟨rfl, ?_⟩
  show ((Vi.enc s.size ++ (s.data.toList ++ r)).drop ((Vi.enc s.size).length + s.size), _) = _
  rw [← List.append_assoc, show (Vi.enc s.size).length + s.size = (Vi.enc s.size ++ s.data.toList).length from by rw [List.length_append, slen], List.drop_left]; rfl
theorem take_zero (p : ByteArray) : p.extract 0 0 = ByteArray.empty := txt_ext (by rw [Lib.extract_data]; simp)
theorem join_empty (a p : ByteArray) : p.extract 0 (cpK a ByteArray.empty) ++ cutK a (cpK a ByteArray.empty) = a := by
  rw [cpK_empty, take_zero, cutK_zero]
  exact txt_ext (by simp)
theorem keyF_row (p q : ByteArray) (x : En) (r : List UInt8) (hq : q = p ∨ q = ByteArray.empty) (hf : fineE x = true) :
    keyF p (rowE q x ++ r) false = (x.m.k, Vi.enc x.m.s ++ (tailE x ++ r), false) := by
  have hfs := fine_size hf
  have hle := cpK_le x.m.k q
  have hc : chk x.m.k = true := by
    unfold fineE at hf; simp only [Bool.and_eq_true] at hf; exact hf.1
  have hp : cpK x.m.k q ≤ p.size := by
    rcases hq with rfl | rfl
    · exact hle.2
    · rw [cpK_empty]; omega
  have hj : p.extract 0 (cpK x.m.k q) ++ cutK x.m.k (cpK x.m.k q) = x.m.k := by
    rcases hq with rfl | rfl
    · exact joinK _ _
    · exact join_empty _ _
  have hsz := cutK_size x.m.k (cpK x.m.k q)
  obtain ⟨n, hn⟩ : ∃ n, cpK x.m.k q = n := ⟨_, rfl⟩
  have hrow : rowE q x ++ r = Vi.enc n ++ (Vi.enc (cutK x.m.k n).size ++ ((cutK x.m.k n).data.toList ++ (Vi.enc x.m.s ++ (tailE x ++ r)))) := by
    unfold rowE
    rw [hn, List.append_assoc, encE_one]
    rfl
  rw [hn] at hj hp hsz hle
  obtain ⟨a1, a2⟩ := numF_enc n (Vi.enc (cutK x.m.k n).size ++ ((cutK x.m.k n).data.toList ++ (Vi.enc x.m.s ++ (tailE x ++ r)))) (by omega)
  obtain ⟨b1, b2⟩ := textF_enc (cutK x.m.k n) (Vi.enc x.m.s ++ (tailE x ++ r)) (by omega)
  rw [hrow]
  unfold keyF
  rw [a1, a2, if_neg (by omega), b1, b2, txt_of, hj, hc]
  rfl
theorem entF_row (p q : ByteArray) (x : En) (r : List UInt8) (hq : q = p ∨ q = ByteArray.empty) (hf : fineE x = true) (hs : x.m.s < 18446744073709551616) :
    entF p (rowE q x ++ r) false = (x, r, false) := by
  unfold entF
  rw [keyF_row p q x r hq hf]
  have hfs := fine_size hf
  obtain ⟨a1, a2⟩ := numF_enc x.m.s (tailE x ++ r) hs
  unfold seqF
  show restF x.m.k (Vi.get (Vi.enc x.m.s ++ (tailE x ++ r))).1 (stateF (numF (Vi.enc x.m.s ++ (tailE x ++ r)) false).1 (numF (Vi.enc x.m.s ++ (tailE x ++ r)) false).2) = _
  rw [a1, a2]
  obtain ⟨⟨k, s, g⟩, y⟩ := x
  cases g
  · obtain ⟨b1, b2⟩ := textF_enc y r (by have := hfs.2.2; simp only at this; omega)
    have ht : tailE ⟨⟨k, s, false⟩, y⟩ ++ r = 0 :: (Vi.enc y.size ++ (y.data.toList ++ r)) := by unfold tailE; simp
    have hst : stateF (0 :: (Vi.enc y.size ++ (y.data.toList ++ r))) false = (0, Vi.enc y.size ++ (y.data.toList ++ r), false) := rfl
    rw [ht, hst]
    show (if (0 : Nat) = 1 then _ else _) = _
    rw [if_neg (by decide)]
    simp only [b1, b2, txt_of]
  · have hy : y = ByteArray.empty := by
      unfold fineE at hf
      simp only [Bool.and_eq_true, Bool.or_eq_true, Bool.not_true, or_false, Bool.false_eq_true] at hf
      have h := hf.2.2
      rw [Lib.toList_data] at h
      apply txt_ext
      have : y.data.toList = [] := by simpa using h
      rw [this]; rfl
    subst hy
    rfl
/-- what was written is read -/
theorem dec_body : ∀ (S acc : List En) (p : ByteArray) (f : Nat), (∀ e ∈ S, fineE e = true) → (∀ e ∈ S, e.m.s < 18446744073709551616) → acc.length + S.length ≤ 64 → S.length < f →
    decF f acc p (bodyG acc.length p S) false = (acc ++ S, true)
  | [], acc, p, f, _, _, _, hf => by
    cases f with
    | zero => simp at hf
    | succ f => rw [bodyG, decF, if_neg (by simp), List.append_nil]; rfl
  | x :: S, acc, p, f, h1, h2, h3, hf => by
    cases f with
    | zero => simp at hf
    | succ f =>
      rw [List.length_cons] at h3 hf
      have hq : preK acc.length p = p ∨ preK acc.length p = ByteArray.empty := by unfold preK; split; exact .inr rfl; exact .inl rfl
      have hr := rowE_len (preK acc.length p) x (h1 x (by simp))
      rw [bodyG, decF, if_pos ⟨rfl, by intro q; rw [(List.append_eq_nil_iff.1 q).1] at hr; simp at hr, by omega⟩]
      rw [entF_row p _ x _ hq (h1 x (by simp)) (h2 x (by simp))]
      have ih := dec_body S (acc ++ [x]) x.m.k f (fun e he => h1 e (by simp [he])) (fun e he => h2 e (by simp [he])) (by rw [List.length_append, List.length_singleton]; omega) (by omega)
      rw [List.length_append, List.length_singleton, List.append_assoc] at ih
      exact ih

/-- how many bytes stand ahead of the places -/
def bodyE (l : List UInt8) : Option Nat :=
  if l.length < 2 then none
  else if l.length - 2 < 2 * (256 * (l.getD (l.length - 2) 0).toNat + (l.getD (l.length - 1) 0).toNat) then none
  else some (l.length - 2 - 2 * (256 * (l.getD (l.length - 2) 0).toNat + (l.getD (l.length - 1) 0).toNat))
def decB (l : List UInt8) : List En × Bool :=
  match bodyE l with
  | none => ([], false)
  | some m => decF 66 [] ByteArray.empty (l.take m) false
theorem bodyE_enc (S : List En) (h : okB S = true) : bodyE (encB S) = some (body S).length := by
  obtain ⟨h1, h2, h3, _⟩ := (okB_iff S).1 h
  have hp := places_len S
  have hb : body S ++ tailB S = encB S := rfl
  have ht : tailB S = (places S).flatMap two ++ [UInt8.ofNat ((places S).length / 256), UInt8.ofNat (places S).length] := by unfold tailB; rw [List.flatMap_append]; simp [two]
  obtain ⟨q, hq⟩ : ∃ q, body S ++ (places S).flatMap two = q := ⟨_, rfl⟩
  have hql : q.length = (body S).length + 2 * (places S).length := by rw [← hq, List.length_append, flat_two]
  have he : encB S = q ++ [UInt8.ofNat ((places S).length / 256), UInt8.ofNat (places S).length] := by rw [← hb, ht, ← hq, List.append_assoc]
  have hl : (encB S).length = q.length + 2 := by rw [he]; simp
  have g1 : (encB S).getD (q.length + 2 - 2) 0 = UInt8.ofNat ((places S).length / 256) := by rw [he]; simp [List.getD]
  have g2 : (encB S).getD (q.length + 2 - 1) 0 = UInt8.ofNat (places S).length := by rw [he]; simp [List.getD]
  have n1 : (UInt8.ofNat ((places S).length / 256)).toNat = 0 := by rw [Vi.toNat_ofNat _ (by omega)]; omega
  have n2 : (UInt8.ofNat (places S).length).toNat = (places S).length := Vi.toNat_ofNat _ (by omega)
  unfold bodyE
  rw [hl, if_neg (by omega), g1, g2, n1, n2, if_neg (by omega)]
  congr 1
  omega
theorem decB_enc (S : List En) (h : okB S = true) (hs : ∀ e ∈ S, e.m.s < 18446744073709551616) : decB (encB S) = (S, true) := by
  obtain ⟨h1, h2, h3, _⟩ := (okB_iff S).1 h
  unfold decB
  rw [bodyE_enc S h]
  show decF 66 [] ByteArray.empty ((encB S).take (body S).length) false = _
  have : (encB S).take (body S).length = bodyG 0 ByteArray.empty S := by unfold encB; rw [List.take_left]; rfl
  rw [this]
  exact dec_body S [] ByteArray.empty 66 h3 hs (by simpa using h2) (by omega)
/-- the answer of Get -/
def getB (l : List UInt8) : Option (List En) := if (decB l).2 = true ∧ okB (decB l).1 = true ∧ encB (decB l).1 = l then some (decB l).1 else none
theorem getB_some {l : List UInt8} {S : List En} (h : getB l = some S) : okB S = true ∧ encB S = l ∧ decB l = (S, true) := by
  unfold getB at h
  split at h
  · rename_i hc
    injection h with h
    subst h
    exact ⟨hc.2.1, hc.2.2, Prod.ext rfl hc.1⟩
  · cases h
theorem getB_enc (S : List En) (h : okB S = true) (hs : ∀ e ∈ S, e.m.s < 18446744073709551616) : getB (encB S) = some S := by
  unfold getB
  rw [decB_enc S h hs, if_pos ⟨rfl, h, rfl⟩]
end Go.Proofs.Ytghfhojpnbpjoaa

namespace Go.Proofs.Ytghfhojpnbpjoaa
open Go.RowKit
set_option linter.unusedVariables false

def Seqs (S : List En) : Prop := ∀ e ∈ S, e.m.s < 18446744073709551616
/-- the last two bytes -/
theorem enc_last (S : List En) (h : okB S = true) : ∃ q, encB S = q ++ [0, UInt8.ofNat (places S).length] ∧ q = body S ++ (places S).flatMap two ∧ 1 ≤ (places S).length ∧ (places S).length ≤ 16 := by
  obtain ⟨h1, h2, h3, _⟩ := (okB_iff S).1 h
  have hp := places_len S
  refine ⟨_, ?_, rfl, by omega, by omega⟩
  unfold encB tailB
  rw [List.flatMap_append, List.append_assoc]
  have : two (places S).length = [0, UInt8.ofNat (places S).length] := by unfold two; rw [show (places S).length / 256 = 0 from by omega]; rfl
  simp [this]
theorem append_two {α : Type} {q q' : List α} {a b a' b' : α} (h : q ++ [a, b] = q' ++ [a', b']) : q = q' ∧ a = a' ∧ b = b' := by
  have hl : q.length = q'.length := by have := congrArg List.length h; simp at this; exact this
  obtain ⟨h1, h2⟩ := List.append_inj h hl
  simp at h2
  exact ⟨h1, h2.1, h2.2⟩
theorem none_of {l : List UInt8} (h : ∀ S, okB S = true → encB S = l → decB l = (S, true) → False) : getB l = none := by
  cases hg : getB l with
  | none => rfl
  | some S =>
    obtain ⟨a, b, c⟩ := getB_some hg
    exact absurd (h S a b c) id
/-- one byte behind -/
theorem no_snoc (S : List En) (h : okB S = true) (x : UInt8) : getB (encB S ++ [x]) = none := by
  refine none_of fun S' h' he _ => ?_
  obtain ⟨q, e1, _, n1, n2⟩ := enc_last S h
  obtain ⟨q', e1', _, _, _⟩ := enc_last S' h'
  rw [e1, e1', show q ++ [0, UInt8.ofNat (places S).length] ++ [x] = (q ++ [0]) ++ [UInt8.ofNat (places S).length, x] from by simp] at he
  have := (append_two he).2.1
  have h2 := congrArg UInt8.toNat this
  rw [Vi.toNat_ofNat _ (by omega)] at h2
  simp at h2
  omega
theorem tail_begins (S : List En) (h : 1 ≤ S.length) : ∃ r, tailB S = 0 :: 0 :: r := by
  cases S with
  | nil => simp at h
  | cons x S =>
    unfold tailB places
    rw [offG, if_pos (by decide)]
    simp only [List.cons_append, List.flatMap_cons, List.nil_append]
    exact ⟨_, rfl⟩
theorem row_begins (p : ByteArray) (x : En) (hf : fineE x = true) (r : List UInt8) : ∀ t, rowE p x ++ r ≠ 0 :: 0 :: t := by
  intro t e
  have hfs := fine_size hf
  have hle := (cpK_le x.m.k p).1
  have small : ∀ n, n ≤ 32 → Vi.enc n = [UInt8.ofNat n] := fun n hn => by unfold Vi.enc Vi.encF; rw [if_pos (by omega)]
  unfold rowE encE restE at e
  obtain ⟨c, hc⟩ : ∃ c, cpK x.m.k p = c := ⟨_, rfl⟩
  rw [hc] at e hle
  have hcs := cutK_size x.m.k c
  simp only at e
  rw [small c (by omega), small (cutK x.m.k c).size (by omega)] at e
  simp only [List.cons_append, List.nil_append, List.cons.injEq] at e
  have h0 := congrArg UInt8.toNat e.1
  have h1 := congrArg UInt8.toNat e.2.1
  rw [Vi.toNat_ofNat _ (by omega)] at h0 h1
  have h0' : c = 0 := by simpa using h0
  have h1' : (cutK x.m.k c).size = 0 := by simpa using h1
  rw [hcs] at h1'
  omega
/-- two rows of rows that begin alike -/
theorem rows_par : ∀ (S S' : List En) (i : Nat) (p : ByteArray) (T T' : List UInt8), (∀ e ∈ S, fineE e = true) → Seqs S → (∀ e ∈ S', fineE e = true) → Seqs S' → bodyG i p S ++ T = bodyG i p S' ++ T' →
    (∃ D, S = S' ++ D ∧ bodyG (i + S'.length) (lastK p S') D ++ T = T') ∨ (∃ D, S' = S ++ D ∧ T = bodyG (i + S.length) (lastK p S) D ++ T')
  | S, [], i, p, T, T', _, _, _, _, h => .inl ⟨S, rfl, h⟩
  | [], S', i, p, T, T', _, _, _, _, h => .inr ⟨S', rfl, h⟩
  | x :: S, y :: S', i, p, T, T', f1, s1, f2, s2, h => by
    rw [bodyG, bodyG, List.append_assoc, List.append_assoc] at h
    have hq : preK i p = p ∨ preK i p = ByteArray.empty := by unfold preK; split; exact .inr rfl; exact .inl rfl
    have e1 := entF_row p (preK i p) x (bodyG (i + 1) x.m.k S ++ T) hq (f1 x (by simp)) (s1 x (by simp))
    have e2 := entF_row p (preK i p) y (bodyG (i + 1) y.m.k S' ++ T') hq (f2 y (by simp)) (s2 y (by simp))
    rw [h, e2] at e1
    injection e1 with hxy hrest
    injection hrest with hrest _
    subst hxy
    rcases rows_par S S' (i + 1) y.m.k T T' (fun e he => f1 e (by simp [he])) (fun e he => s1 e (by simp [he])) (fun e he => f2 e (by simp [he])) (fun e he => s2 e (by simp [he])) hrest.symm with ⟨D, h1, h2⟩ | ⟨D, h1, h2⟩
    · refine .inl ⟨D, by rw [h1]; rfl, ?_⟩
      rw [List.length_cons, lastK, show i + (S'.length + 1) = i + 1 + S'.length from by omega]; exact h2
    · refine .inr ⟨D, by rw [h1]; rfl, ?_⟩
      rw [List.length_cons, lastK, show i + (S.length + 1) = i + 1 + S.length from by omega]; exact h2
/-- no block begins another one -/
theorem enc_prefix (S S' : List En) (h : okB S = true) (h' : okB S' = true) (hs : Seqs S) (hs' : Seqs S') (z : List UInt8) (he : encB S' ++ z = encB S) : z = [] := by
  obtain ⟨a1, a2, a3, _⟩ := (okB_iff S).1 h
  obtain ⟨b1, b2, b3, _⟩ := (okB_iff S').1 h'
  obtain ⟨r, hr⟩ := tail_begins S a1
  obtain ⟨r', hr'⟩ := tail_begins S' b1
  have hq : bodyG 0 ByteArray.empty S ++ tailB S = bodyG 0 ByteArray.empty S' ++ (tailB S' ++ z) := by rw [← List.append_assoc]; exact he.symm
  rcases rows_par S S' 0 ByteArray.empty _ _ a3 hs b3 hs' hq with ⟨D, h1, h2⟩ | ⟨D, h1, h2⟩
  · cases D with
    | nil =>
      rw [List.append_nil] at h1
      subst h1
      have hh : encB S ++ z = encB S ++ [] := by rw [List.append_nil]; exact he
      exact List.append_cancel_left hh
    | cons x D =>
      rw [bodyG, hr', List.append_assoc] at h2
      exact absurd h2 (row_begins _ x (a3 x (by rw [h1]; simp)) _ _)
  · cases D with
    | nil =>
      rw [List.append_nil] at h1
      subst h1
      have hh : encB S' ++ z = encB S' ++ [] := by rw [List.append_nil]; exact he
      exact List.append_cancel_left hh
    | cons x D =>
      rw [bodyG, hr, List.append_assoc] at h2
      exact absurd h2.symm (row_begins _ x (b3 x (by rw [h1]; simp)) _ _)
theorem entF_seq (p : ByteArray) (l : List UInt8) (b : Bool) : (entF p l b).1.m.s < 18446744073709551616 := by
  unfold entF seqF restF
  split
  · exact (Vi.get_lt _).1
  · exact (Vi.get_lt _).1
theorem decF_seqs : ∀ (f : Nat) (acc : List En) (p : ByteArray) (l : List UInt8) (b : Bool), Seqs acc → Seqs (decF f acc p l b).1
  | 0, acc, p, l, b, h => h
  | f + 1, acc, p, l, b, h => by
    rw [decF]
    split
    · refine decF_seqs f _ _ _ _ fun e he => ?_
      rcases List.mem_append.1 he with he | he
      · exact h e he
      · rw [List.mem_singleton] at he; subst he; exact entF_seq p l b
    · exact h
theorem decB_seqs (l : List UInt8) : Seqs (decB l).1 := by
  unfold decB
  cases bodyE l with
  | none => intro e he; cases he
  | some m => exact decF_seqs _ _ _ _ _ (fun e he => by cases he)
theorem getB_seqs {l : List UInt8} {S : List En} (h : getB l = some S) : Seqs S := by
  have := decB_seqs l
  rw [(getB_some h).2.2] at this; exact this
/-- fewer bytes -/
theorem no_take (S : List En) (h : okB S = true) (hs : Seqs S) (k : Nat) (hk : k < (encB S).length) : getB ((encB S).take k) = none := by
  cases hg : getB ((encB S).take k) with
  | none => rfl
  | some S' =>
    obtain ⟨a, b, _⟩ := getB_some hg
    have := enc_prefix S S' h a hs (getB_seqs hg) ((encB S).drop k) (by rw [b, List.take_append_drop])
    have hl := congrArg List.length this
    rw [List.length_drop] at hl
    simp at hl
    omega
/-- the last place -/
theorem enc_place (S : List En) (h : okB S = true) : ∃ q a b c, encB S = q ++ [a, b, 0, c] ∧ body S = q.take (body S).length ∧ (body S).length ≤ q.length := by
  obtain ⟨q, e1, e2, n1, n2⟩ := enc_last S h
  obtain ⟨P, y, hP⟩ : ∃ P y, places S = P ++ [y] := by
    rcases List.eq_nil_or_concat (places S) with h0 | ⟨P, y, hP⟩
    · rw [h0] at n1; simp at n1
    · exact ⟨P, y, by simpa using hP⟩
  refine ⟨body S ++ P.flatMap two, UInt8.ofNat (y / 256), UInt8.ofNat y, UInt8.ofNat (places S).length, ?_, ?_, ?_⟩
  · rw [e1, e2]
    obtain ⟨N, hN⟩ : ∃ N, UInt8.ofNat (places S).length = N := ⟨_, rfl⟩
    rw [hN, hP, List.flatMap_append]
    simp [two]
  · rw [List.take_left]
  · rw [List.length_append]; omega
theorem bodyE_same {q : List UInt8} {a b a' b' c d : UInt8} : bodyE (q ++ [a, b, c, d]) = bodyE (q ++ [a', b', c, d]) := by
  unfold bodyE
  have h1 : ∀ x y : UInt8, (q ++ [x, y, c, d]).length = q.length + 4 := fun x y => by simp
  have h2 : ∀ x y : UInt8, (q ++ [x, y, c, d]).getD (q.length + 4 - 2) 0 = c := fun x y => by simp [List.getD]
  have h3 : ∀ x y : UInt8, (q ++ [x, y, c, d]).getD (q.length + 4 - 1) 0 = d := fun x y => by simp [List.getD]
  rw [h1, h1, h2, h2, h3, h3]
/-- another place -/
theorem no_place (S : List En) (h : okB S = true) (hs : Seqs S) {q : List UInt8} {a b a' b' c d : UInt8} (he : encB S = q ++ [a, b, c, d]) : getB (q ++ [a', b', c, d]) = if a' = a ∧ b' = b then some S else none := by
  by_cases hq : a' = a ∧ b' = b
  · rw [if_pos hq, hq.1, hq.2, ← he]; exact getB_enc S h hs
  · rw [if_neg hq]
    refine none_of fun S' h' he' hd' => ?_
    have hd := decB_enc S h hs
    obtain ⟨q0, a0, b0, c0, e0, hb0, hl0⟩ := enc_place S h
    have hqq : q0 = q := by
      rw [e0] at he
      exact (List.append_inj he (by have := congrArg List.length he; simp at this; exact this)).1
    subst hqq
    have hbe : bodyE (q0 ++ [a', b', c, d]) = bodyE (encB S) := by rw [he]; exact bodyE_same
    have hsame : decB (q0 ++ [a', b', c, d]) = decB (encB S) := by
      unfold decB
      rw [hbe, bodyE_enc S h, he]
      show decF 66 [] ByteArray.empty (List.take (body S).length (q0 ++ [a', b', c, d])) false = decF 66 [] ByteArray.empty (List.take (body S).length (q0 ++ [a, b, c, d])) false
      rw [List.take_append_of_le_length hl0, List.take_append_of_le_length hl0]
    rw [hsame, hd] at hd'
    injection hd' with e1 _
    subst e1
    rw [he] at he'
    have := (List.append_inj he' rfl).2
    simp at this
    exact hq ⟨this.1.symm, this.2.symm⟩
/-- blocks of parts -/
theorem body_fours (S : List En) (k : Nat) (hk : k % 4 = 0) (hl : k ≤ S.length) : body S = body (S.take k) ++ body (S.drop k) := by
  have h := bodyG_app (S.take k) (S.drop k) 0 ByteArray.empty
  rw [List.take_append_drop, List.length_take, Nat.min_eq_left hl, Nat.zero_add] at h
  unfold body
  rw [h, bodyG_four k 0 (by omega) (S.drop k), bodyG_fresh (lastK ByteArray.empty (S.take k)) ByteArray.empty 0 rfl (S.drop k)]
end Go.Proofs.Ytghfhojpnbpjoaa

