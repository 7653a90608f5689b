/-
  JournalsSure: the bytes of the first records, and what is left of them where the last ones are cut; Names at a law's own journal.
-/
import Derived.Test.YtbpdonnneleeeaaJEnd3
namespace Go.Proofs.Ytbpdonnneleeeaa
open Go.RowKit Go.Maps Go.Sort
set_option linter.unusedVariables false
set_option maxRecDepth 100000

/-- the bytes of records, one behind the other -/
def upto (rs : List (List UInt8)) : List UInt8 := rs.foldl (fun b r => b ++ Jr.wr b.length r) []
theorem upto_snoc (rs : List (List UInt8)) (r : List UInt8) : upto (rs ++ [r]) = upto rs ++ Jr.wr (upto rs).length r := by
  unfold upto; rw [List.foldl_append]; rfl
theorem upto_wf (rs : List (List UInt8)) : Jr.WF (upto rs) rs := by
  have h : ∀ (rs rs0 : List (List UInt8)) (b : List UInt8), Jr.WF b rs0 → Jr.WF (rs.foldl (fun b r => b ++ Jr.wr b.length r) b) (rs0 ++ rs) := by
    intro rs
    induction rs with
    | nil => intro rs0 b h; rw [List.append_nil]; exact h
    | cons r rs ih =>
      intro rs0 b h
      have := ih (rs0 ++ [r]) _ (h.add r)
      rw [List.append_assoc] at this
      exact this
  exact h rs [] [] Jr.WF.nil
theorem upto_pre (rs qs : List (List UInt8)) : upto rs <+: upto (rs ++ qs) := by
  unfold upto
  rw [List.foldl_append]
  generalize List.foldl (fun b r => b ++ Jr.wr b.length r) [] rs = b
  induction qs generalizing b with
  | nil => exact List.prefix_refl _
  | cons q qs ih => exact (List.prefix_append _ _).trans (ih _)
theorem wr_pos (n : Nat) (r : List UInt8) : 1 ≤ (Jr.wr n r).length := by
  unfold Jr.wr
  rw [Jr.enc]
  split
  · rw [List.length_append, Jr.bytesOf_cons, List.length_append, Jr.partB_len]; omega
  · rw [List.length_append, Jr.bytesOf_cons, List.length_append, Jr.partB_len]; omega

/-- the bytes of a list's first records -/
def BU (rs : List Rcd) (i : Nat) : List UInt8 := upto ((rs.take i).map Rcd.l)
theorem BU_zero (rs : List Rcd) : BU rs 0 = [] := rfl
theorem BU_next {rs : List Rcd} {i : Nat} {r : Rcd} (h : rs[i]? = some r) : BU rs (i + 1) = BU rs i ++ Jr.wr (BU rs i).length r.l := by
  unfold BU
  rw [List.take_add_one, h]
  simp only [Option.toList_some, List.map_append, List.map_cons, List.map_nil]
  rw [upto_snoc]
theorem BU_pre (rs : List Rcd) {i j : Nat} (h : i ≤ j) : BU rs i <+: BU rs j := by
  unfold BU
  have e : (rs.take j).map Rcd.l = (rs.take i).map Rcd.l ++ ((rs.take j).drop i).map Rcd.l := by
    rw [← List.map_append]
    congr 1
    have := List.take_append_drop i (rs.take j)
    rw [List.take_take, Nat.min_eq_left h] at this
    exact this.symm
  rw [e]
  exact upto_pre _ _
theorem BU_mono (rs : List Rcd) {i j : Nat} (h : i ≤ j) : (BU rs i).length ≤ (BU rs j).length := (BU_pre rs h).length_le
theorem BU_lt {rs : List Rcd} {i : Nat} (h : i < rs.length) : (BU rs i).length < (BU rs (i + 1)).length := by
  rw [BU_next (List.getElem?_eq_getElem h), List.length_append]
  have := wr_pos (BU rs i).length rs[i].l
  omega
theorem BU_len (rs : List Rcd) (hl : ∀ r ∈ rs, r.l.length = r.n) (i : Nat) : (BU rs i).length ≤ 14 * i + 8 * rsum (rs.take i) := by
  induction i with
  | zero => simp [BU_zero]
  | succ i ih =>
    cases h : rs[i]? with
    | none =>
      have e : rs.take (i + 1) = rs.take i := by rw [List.take_add_one, h]; simp
      unfold BU at ih ⊢
      rw [e]; omega
    | some r =>
      have := wr_len_le (BU rs i).length r.l
      rw [BU_next h, List.length_append, rsum_take rs i r h]
      have := hl r (List.mem_of_getElem? h)
      omega
/-- what is read of the bytes of which the last ones are cut -/
theorem BU_cut {rs : List Rcd} {n wf m : Nat} (hn : rs.length = n) (hw : wf < n) (h1 : (BU rs wf).length ≤ m) (h2 : m < (BU rs (wf + 1)).length) : Jr.Reads ((BU rs n).take m) ((rs.take wf).map Rcd.l) (BU rs wf).length := by
  have hr := List.getElem?_eq_getElem (l := rs) (i := wf) (by omega)
  have hp := BU_pre rs (i := wf + 1) (j := n) (by omega)
  obtain ⟨t, ht⟩ := hp
  rw [← ht, List.take_append_of_le_length (by omega), BU_next hr]
  rw [BU_next hr, List.length_append] at h2
  rw [List.take_append, List.take_of_length_le h1]
  exact (upto_wf ((rs.take wf).map Rcd.l)).cut _ _ (by show _ < (Jr.wr (BU rs wf).length _).length; show m - (BU rs wf).length < _; omega)
theorem BU_all (rs : List Rcd) (n : Nat) (hn : rs.length = n) : Jr.Reads (BU rs n) (rs.map Rcd.l) (BU rs n).length := by
  unfold BU
  rw [List.take_of_length_le (by omega)]
  exact (upto_wf _).reads

theorem tot_oneJ {D : Dir} (hD : DirOK D) (hT : Tidy D) {k : List UInt8} {b : Nat} (h1 : look D k = some b) (h2 : ∀ k', k' ≠ k → look D k' = none) (g : Nat → Nat) : tot D g = g b := by
  have h := tot_del D hT k b g h1
  have he : tot (D.del (.string k)) g = 0 := by
    obtain ⟨es, rfl, hp⟩ := hT
    have hno : (es.filter fun p => !p.1.sameKey (.string k)) = [] := by
      rw [List.filter_eq_nil_iff]
      intro e he hs
      obtain ⟨k', b', e1, e2⟩ := hD e he
      by_cases ek : k' = k
      · subst ek
        rw [e1, WideAt.sameKey_self (isKey k')] at hs
        cases hs
      · have hl : look (.map es) k' = none := h2 k' ek
        have hm := (key_look hD ⟨es, rfl, hp⟩ k').1 (List.mem_map.2 ⟨e, he, by rw [e1]; rfl⟩)
        rw [hl] at hm; cases hm
    show ((es.filter fun p => !p.1.sameKey (.string k)).map fun e => valE g e.2).sum = 0
    rw [hno]; rfl
  omega
theorem left_oneJ {w0 w : World} {d : Nat} {S : St} (h : At w0 w d S) {k : List UInt8} {b : Nat} (h1 : look S.pres k = some b) (h2 : ∀ k', k' ≠ k → look S.pres k' = none) : S.left = S.size - (S.file b).bytes.length := by
  show S.size - tot S.pres S.len = _
  rw [tot_oneJ h.presOK h.tidy h1 h2]; rfl

section
variable {w0 w w' : World} {d p f : Nat} {S : St} {b : List UInt8} {rs : List (List UInt8)} (h : Jn w0 w d p f S b rs)
include h
theorem jn_names : Calls Try.prog 18 #[dp d] w fun x w' => x = .returned (er 0) ∧ Jn w0 w' d p f S.names b rs :=
  (h.at_.run (Q := fun x S' => x = .returned (er 0) ∧ S' = S.names) (fun F hD => by
    obtain ⟨pm, dm, val, hD⟩ := hD
    exact (names_ok hD).mono fun x w' ⟨hx, hl⟩ => ⟨_, ⟨hx, rfl⟩, hl⟩)).mono fun x w' ⟨S', ⟨hx, hS⟩, ha⟩ => ⟨hx, by rw [hS] at ha; exact ⟨ha, h.pres, h.size, h.file, h.wf, h.small, h.room⟩⟩
end
/-- how the law's numbers stand ahead of round i0: K records are made sure, kp bytes are kept -/
def SureAt (n : Nat) (rs : List Rcd) (K kp f : Nat) (S : St) (i0 fr wf lf : Nat) : Prop :=
  (i0 ≤ K ∧ fr = 0 ∧ wf = K ∧ lf = kp) ∨ (K < i0 ∧ K ≤ wf ∧ wf < i0 ∧ wf ≤ n ∧ fr = (BU rs K).length ∧ lf + (BU rs wf).length = fr + kp ∧ (wf + 1 < i0 → fr + kp < (BU rs (wf + 1)).length) ∧ S.dur = .map [(.string [106], .lit (.int .u64 (f : Int)))] ∧ (S.file f).sure = fr)
def SureRel (w : World) (d p f n : Nat) (rs : List Rcd) (K kp : Nat) (from_ whole left i : Value) (wr : World) : Prop :=
  ∃ (i0 fr wf lf : Nat) (S : St), i = .int .i64 (i0 : Int) ∧ from_ = .int .i64 (fr : Int) ∧ whole = .int .i64 (wf : Int) ∧ left = .int .i64 (lf : Int) ∧ i0 ≤ n + 1 ∧ Jn w wr d p f S (BU rs (min i0 n)) ((rs.take (min i0 n)).map Rcd.l) ∧ SureAt n rs K kp f S i0 fr wf lf
theorem SureAt.same {n : Nat} {rs : List Rcd} {K kp f i0 fr wf lf : Nat} {S S' : St} (h : SureAt n rs K kp f S i0 fr wf lf) (h1 : S'.dur = S.dur) (h2 : (S'.file f).sure = (S.file f).sure) : SureAt n rs K kp f S' i0 fr wf lf := by
  unfold SureAt at *
  rw [h1, h2]; exact h
theorem sure_append (S : St) (f : Nat) (l : List UInt8) : ((S.append f l).file f).sure = (S.file f).sure := by
  show (upd S.file f ⟨(S.file f).bytes ++ l, (S.file f).sure⟩ f).sure = _
  rw [upd_same]
end Go.Proofs.Ytbpdonnneleeeaa
