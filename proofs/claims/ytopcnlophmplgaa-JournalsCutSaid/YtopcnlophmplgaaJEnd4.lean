/-
  JournalsSure: the bytes of the first records, and what is left of them where the last ones are cut; Names at a law's own journal.
  JournalsTurned: plain facts: of a file in which bits of a part are turned, the records ahead of that one are read.
  JournalsTurned: a file's bytes read into a row of the law's own, beside the disk; the row is written.
-/
import Derived.Test.YtopcnlophmplgaaJEnd3
namespace Go.Proofs.Ytopcnlophmplgaa
open Go.RowKit Go.Maps Go.Sort
set_option linter.unusedVariables false
set_option maxRecDepth 100000

/-- the bytes of records, one behind the other -/
def upto (rs : List (List UInt8)) : List UInt8 := rs.foldl (fun b r => b ++ Jr.wr b.length r) []
theorem upto_snoc (rs : List (List UInt8)) (r : List UInt8) : upto (rs ++ [r]) = upto rs ++ Jr.wr (upto rs).length r := by
  unfold upto; rw [List.foldl_append]; rfl
theorem upto_wf (rs : List (List UInt8)) : Jr.WF (upto rs) rs := by
  have h : ∀ (rs rs0 : List (List UInt8)) (b : List UInt8), Jr.WF b rs0 → Jr.WF (rs.foldl (fun b r => b ++ Jr.wr b.length r) b) (rs0 ++ rs) := by
    intro rs
    induction rs with
    | nil => intro rs0 b h; rw [List.append_nil]; exact h
    | cons r rs ih =>
      intro rs0 b h
      have := ih (rs0 ++ [r]) _ (h.add r)
      rw [List.append_assoc] at this
      exact this
  exact h rs [] [] Jr.WF.nil
theorem upto_pre (rs qs : List (List UInt8)) : upto rs <+: upto (rs ++ qs) := by
  unfold upto
  rw [List.foldl_append]
  generalize List.foldl (fun b r => b ++ Jr.wr b.length r) [] rs = b
  induction qs generalizing b with
  | nil => exact List.prefix_refl _
  | cons q qs ih => exact (List.prefix_append _ _).trans (ih _)
theorem wr_pos (n : Nat) (r : List UInt8) : 1 ≤ (Jr.wr n r).length := by
  unfold Jr.wr
  rw [Jr.enc]
  split
  · rw [List.length_append, Jr.bytesOf_cons, List.length_append, Jr.partB_len]; omega
  · rw [List.length_append, Jr.bytesOf_cons, List.length_append, Jr.partB_len]; omega

/-- the bytes of a list's first records -/
def BU (rs : List Rcd) (i : Nat) : List UInt8 := upto ((rs.take i).map Rcd.l)
theorem BU_zero (rs : List Rcd) : BU rs 0 = [] := rfl
theorem BU_next {rs : List Rcd} {i : Nat} {r : Rcd} (h : rs[i]? = some r) : BU rs (i + 1) = BU rs i ++ Jr.wr (BU rs i).length r.l := by
  unfold BU
  rw [List.take_add_one, h]
  simp only [Option.toList_some, List.map_append, List.map_cons, List.map_nil]
  rw [upto_snoc]
theorem BU_pre (rs : List Rcd) {i j : Nat} (h : i ≤ j) : BU rs i <+: BU rs j := by
  unfold BU
  have e : (rs.take j).map Rcd.l = (rs.take i).map Rcd.l ++ ((rs.take j).drop i).map Rcd.l := by
    rw [← List.map_append]
    congr 1
    have := List.take_append_drop i (rs.take j)
    rw [List.take_take, Nat.min_eq_left h] at this
    exact this.symm
  rw [e]
  exact upto_pre _ _
theorem BU_mono (rs : List Rcd) {i j : Nat} (h : i ≤ j) : (BU rs i).length ≤ (BU rs j).length := (BU_pre rs h).length_le
theorem BU_lt {rs : List Rcd} {i : Nat} (h : i < rs.length) : (BU rs i).length < (BU rs (i + 1)).length := by
  rw [BU_next (List.getElem?_eq_getElem h), List.length_append]
  have := wr_pos (BU rs i).length rs[i].l
  omega
theorem BU_len (rs : List Rcd) (hl : ∀ r ∈ rs, r.l.length = r.n) (i : Nat) : (BU rs i).length ≤ 14 * i + 8 * rsum (rs.take i) := by
  induction i with
  | zero => simp [BU_zero]
  | succ i ih =>
    cases h : rs[i]? with
    | none =>
      have e : rs.take (i + 1) = rs.take i := by rw [List.take_add_one, h]; simp
      unfold BU at ih ⊢
      rw [e]; omega
    | some r =>
      have := wr_len_le (BU rs i).length r.l
      rw [BU_next h, List.length_append, rsum_take rs i r h]
      have := hl r (List.mem_of_getElem? h)
      omega
/-- what is read of the bytes of which the last ones are cut -/
theorem BU_cut {rs : List Rcd} {n wf m : Nat} (hn : rs.length = n) (hw : wf < n) (h1 : (BU rs wf).length ≤ m) (h2 : m < (BU rs (wf + 1)).length) : Jr.Reads ((BU rs n).take m) ((rs.take wf).map Rcd.l) (BU rs wf).length := by
  have hr := List.getElem?_eq_getElem (l := rs) (i := wf) (by omega)
  have hp := BU_pre rs (i := wf + 1) (j := n) (by omega)
  obtain ⟨t, ht⟩ := hp
  rw [← ht, List.take_append_of_le_length (by omega), BU_next hr]
  rw [BU_next hr, List.length_append] at h2
  rw [List.take_append, List.take_of_length_le h1]
  exact (upto_wf ((rs.take wf).map Rcd.l)).cut _ _ (by show _ < (Jr.wr (BU rs wf).length _).length; show m - (BU rs wf).length < _; omega)
theorem BU_all (rs : List Rcd) (n : Nat) (hn : rs.length = n) : Jr.Reads (BU rs n) (rs.map Rcd.l) (BU rs n).length := by
  unfold BU
  rw [List.take_of_length_le (by omega)]
  exact (upto_wf _).reads

theorem tot_oneJ {D : Dir} (hD : DirOK D) (hT : Tidy D) {k : List UInt8} {b : Nat} (h1 : look D k = some b) (h2 : ∀ k', k' ≠ k → look D k' = none) (g : Nat → Nat) : tot D g = g b := by
  have h := tot_del D hT k b g h1
  have he : tot (D.del (.string k)) g = 0 := by
    obtain ⟨es, rfl, hp⟩ := hT
    have hno : (es.filter fun p => !p.1.sameKey (.string k)) = [] := by
      rw [List.filter_eq_nil_iff]
      intro e he hs
      obtain ⟨k', b', e1, e2⟩ := hD e he
      by_cases ek : k' = k
      · subst ek
        rw [e1, WideAt.sameKey_self (isKey k')] at hs
        cases hs
      · have hl : look (.map es) k' = none := h2 k' ek
        have hm := (key_look hD ⟨es, rfl, hp⟩ k').1 (List.mem_map.2 ⟨e, he, by rw [e1]; rfl⟩)
        rw [hl] at hm; cases hm
    show ((es.filter fun p => !p.1.sameKey (.string k)).map fun e => valE g e.2).sum = 0
    rw [hno]; rfl
  omega
theorem left_oneJ {w0 w : World} {d : Nat} {S : St} (h : At w0 w d S) {k : List UInt8} {b : Nat} (h1 : look S.pres k = some b) (h2 : ∀ k', k' ≠ k → look S.pres k' = none) : S.left = S.size - (S.file b).bytes.length := by
  show S.size - tot S.pres S.len = _
  rw [tot_oneJ h.presOK h.tidy h1 h2]; rfl

section
variable {w0 w w' : World} {d p f : Nat} {S : St} {b : List UInt8} {rs : List (List UInt8)} (h : Jn w0 w d p f S b rs)
include h
end
/-- how the law's numbers stand ahead of round i0: K records are made sure, kp bytes are kept -/
def SureAt (n : Nat) (rs : List Rcd) (K kp f : Nat) (S : St) (i0 fr wf lf : Nat) : Prop :=
  (i0 ≤ K ∧ fr = 0 ∧ wf = K ∧ lf = kp) ∨ (K < i0 ∧ K ≤ wf ∧ wf < i0 ∧ wf ≤ n ∧ fr = (BU rs K).length ∧ lf + (BU rs wf).length = fr + kp ∧ (wf + 1 < i0 → fr + kp < (BU rs (wf + 1)).length) ∧ S.dur = .map [(.string [106], .lit (.int .u64 (f : Int)))] ∧ (S.file f).sure = fr)
def SureRel (w : World) (d p f n : Nat) (rs : List Rcd) (K kp : Nat) (from_ whole left i : Value) (wr : World) : Prop :=
  ∃ (i0 fr wf lf : Nat) (S : St), i = .int .i64 (i0 : Int) ∧ from_ = .int .i64 (fr : Int) ∧ whole = .int .i64 (wf : Int) ∧ left = .int .i64 (lf : Int) ∧ i0 ≤ n + 1 ∧ Jn w wr d p f S (BU rs (min i0 n)) ((rs.take (min i0 n)).map Rcd.l) ∧ SureAt n rs K kp f S i0 fr wf lf
theorem SureAt.same {n : Nat} {rs : List Rcd} {K kp f i0 fr wf lf : Nat} {S S' : St} (h : SureAt n rs K kp f S i0 fr wf lf) (h1 : S'.dur = S.dur) (h2 : (S'.file f).sure = (S.file f).sure) : SureAt n rs K kp f S' i0 fr wf lf := by
  unfold SureAt at *
  rw [h1, h2]; exact h
theorem sure_append (S : St) (f : Nat) (l : List UInt8) : ((S.append f l).file f).sure = (S.file f).sure := by
  show (upd S.file f ⟨(S.file f).bytes ++ l, (S.file f).sure⟩ f).sure = _
  rw [upd_same]
end Go.Proofs.Ytopcnlophmplgaa

namespace Go.Proofs.Ytopcnlophmplgaa
open Go.RowKit Go.Maps Go.Sort
set_option linter.unusedVariables false
set_option maxRecDepth 100000

/-- the byte of 32 bits that turns byte i -/
def cb (bits i : Nat) : UInt8 := UInt8.ofNat (bits / 256 ^ i)
/-- bytes of which the first i behind p are turned -/
def TB (b : List UInt8) (p bits : Nat) : Nat → List UInt8
  | 0 => b
  | i + 1 => (TB b p bits i).set (p + i) ((TB b p bits i).getD (p + i) 0 ^^^ cb bits i)
theorem TB_len (b : List UInt8) (p bits i : Nat) : (TB b p bits i).length = b.length := by
  induction i with
  | zero => rfl
  | succ i ih => show ((TB b p bits i).set _ _).length = _; rw [List.length_set, ih]
theorem TB_four (pre suf : List UInt8) (x0 x1 x2 x3 : UInt8) (bits : Nat) :
    TB (pre ++ (x0 :: x1 :: x2 :: x3 :: suf)) pre.length bits 4 = pre ++ ((x0 ^^^ cb bits 0) :: (x1 ^^^ cb bits 1) :: (x2 ^^^ cb bits 2) :: (x3 ^^^ cb bits 3) :: suf) := by
  have hs : ∀ (l : List UInt8) (i : Nat) (c : UInt8), (pre ++ l).set (pre.length + i) c = pre ++ l.set i c := fun l i c => by
    rw [List.set_append_right _ _ (by omega), show pre.length + i - pre.length = i from by omega]
  have hg : ∀ (l : List UInt8) (i : Nat), (pre ++ l).getD (pre.length + i) 0 = l.getD i 0 := fun l i => by
    rw [List.getD_eq_getElem?_getD, List.getD_eq_getElem?_getD, List.getElem?_append_right (by omega), show pre.length + i - pre.length = i from by omega]
  unfold TB TB TB TB TB
  rw [hg, hs, hg, hs, hg, hs, hg, hs]
  rfl
theorem cb_ne {bits : Nat} (h0 : bits ≠ 0) (hl : bits < 4294967296) (x0 x1 x2 x3 : UInt8) : [x0 ^^^ cb bits 0, x1 ^^^ cb bits 1, x2 ^^^ cb bits 2, x3 ^^^ cb bits 3] ≠ [x0, x1, x2, x3] := by
  intro h
  injection h with e0 h
  injection h with e1 h
  injection h with e2 h
  injection h with e3 _
  have hz : ∀ (x c : UInt8), x ^^^ c = x → c.toNat = 0 := fun x c h => by
    have h2 : x ^^^ (x ^^^ c) = x ^^^ x := by rw [h]
    rw [← UInt8.xor_assoc, UInt8.xor_self, UInt8.zero_xor] at h2
    rw [h2]; rfl
  have f0 := hz _ _ e0
  have f1 := hz _ _ e1
  have f2 := hz _ _ e2
  have f3 := hz _ _ e3
  simp only [cb, UInt8.toNat_ofNat'] at f0 f1 f2 f3
  omega
/-- where a record's first part stands -/
theorem part_first (pos : Nat) (r : List UInt8) (h8 : 11 ≤ Jr.room pos) (h4 : 4 ≤ r.length) : ∃ k d t, Jr.bytesOf (Jr.enc true pos r) = Jr.partB k d ++ t ∧ 4 ≤ d.length ∧ d.length ≤ 121 := by
  have hr := (Jr.room_pos pos).2
  by_cases h : r.length ≤ Jr.room pos - 7
  · rw [Jr.enc_last true h, Jr.bytesOf_cons]
    exact ⟨_, r, _, rfl, h4, by omega⟩
  · rw [Jr.enc_more true (by omega) (by omega), Jr.bytesOf_cons]
    exact ⟨_, _, _, rfl, by rw [List.length_take]; omega, by rw [List.length_take]; omega⟩
/-- a part whose data is turned can't be read -/
theorem getP_turned {f : List UInt8} {pos : Nat} {k : UInt8} {x y d2 t : List UInt8} (hl : y.length = x.length) (h4 : x.length ≤ 4) (hne : y ≠ x) (hd : (x ++ d2).length < 65536)
    (hf : f.drop pos = four (Jr.csum k (x ++ d2)) ++ (Jr.two (x ++ d2).length ++ (k :: (y ++ d2))) ++ t) : Jr.getP f pos = none := by
  cases hg : Jr.getP f pos with
  | none => rfl
  | some q =>
    obtain ⟨k', d'⟩ := q
    exfalso
    obtain ⟨h1, h2⟩ := Jr.getP_of hg
    have hr := (Jr.room_pos pos).2
    rw [hf] at h2
    obtain ⟨u, hu⟩ := h2
    unfold Jr.partB at hu
    simp only [List.append_assoc, List.cons_append] at hu
    have hsum := List.append_inj_left hu (by simp [four])
    have hu := List.append_inj_right hu (by simp [four])
    have hlen := List.append_inj_left hu (by simp [Jr.two])
    have hu := List.append_inj_right hu (by simp [Jr.two])
    have hdl := Jr.two_inj (by omega) hd hlen
    injection hu with hk hv
    subst hk
    have hv2 : d' ++ u = (y ++ d2) ++ t := by rw [hv, List.append_assoc]
    have hdd := List.append_inj_left hv2 (by rw [hdl]; simp only [List.length_append]; omega)
    have hs := Jr.four_inj (Jr.csum_lt _ _) (Jr.csum_lt _ _) hsum
    rw [hdd] at hs
    unfold Jr.csum at hs
    have e : ∀ z : List UInt8, k' :: (z ++ d2) = [k'] ++ (z ++ d2) := fun _ => rfl
    rw [e, e, Crc.on_append _ Crc.small_tab, Crc.on_append _ Crc.small_tab, Crc.on_append _ Crc.small_tab, Crc.on_append _ Crc.small_tab] at hs
    have h3 := Crc.on_inj d2 (Crc.on_lt _ _ _) (Crc.on_lt _ _ _) hs
    exact hne (Crc.on_four _ hl h4 h3)

theorem reads_turned {rs : List Rcd} {n k : Nat} {r : Rcd} {bits : Nat} (hn : rs.length = n) (hr : rs[k]? = some r) (h4 : 4 ≤ r.l.length) (hroom : 11 ≤ Jr.room (Jr.nextP (BU rs k).length)) (hb0 : bits ≠ 0) (hbl : bits < 4294967296) :
    Jr.nextP (BU rs k).length + 11 ≤ (BU rs n).length ∧ Jr.Reads (TB (BU rs n) (Jr.nextP (BU rs k).length + 7) bits 4) ((rs.take k).map Rcd.l) (BU rs k).length := by
  have hk : k < rs.length := (List.getElem?_eq_some_iff.1 hr).1
  obtain ⟨t, ht⟩ := BU_pre rs (i := k + 1) (j := n) (by omega)
  obtain ⟨kd, d, t2, hp, hd1, hd2⟩ := part_first (Jr.nextP (BU rs k).length) r.l hroom h4
  rw [BU_next hr] at ht
  unfold Jr.wr at ht
  rw [hp] at ht
  have hpad := Jr.pad_len (BU rs k)
  obtain ⟨ps, hpath, hst⟩ := upto_wf ((rs.take k).map Rcd.l)
  have hpath : Jr.Path (BU rs k) 0 ps (BU rs k).length := hpath
  have hst : Jr.steps Jr.JS.init ps = some ⟨(rs.take k).map Rcd.l, none, (BU rs k).length⟩ := hst
  obtain ⟨x0, x1, x2, x3, d2, rfl⟩ : ∃ x0 x1 x2 x3 d2, d = x0 :: x1 :: x2 :: x3 :: d2 := by
    match d, hd1 with
    | x0 :: x1 :: x2 :: x3 :: d2, _ => exact ⟨x0, x1, x2, x3, d2, rfl⟩
  generalize hB : BU rs k = B at *
  generalize hP : B ++ List.replicate (Jr.nextP B.length - B.length) (0 : UInt8) = P at *
  have hpre : (P ++ (four (Jr.csum kd (x0 :: x1 :: x2 :: x3 :: d2)) ++ (Jr.two (x0 :: x1 :: x2 :: x3 :: d2).length ++ [kd]))).length = Jr.nextP B.length + 7 := by
    rw [List.length_append, hpad]; simp [four, Jr.two]
  have hall : BU rs n = (P ++ (four (Jr.csum kd (x0 :: x1 :: x2 :: x3 :: d2)) ++ (Jr.two (x0 :: x1 :: x2 :: x3 :: d2).length ++ [kd]))) ++ (x0 :: x1 :: x2 :: x3 :: (d2 ++ (t2 ++ t))) := by
    rw [← ht, ← hP]
    unfold Jr.partB
    simp only [List.append_assoc, List.cons_append, List.nil_append]
  refine ⟨?_, ?_⟩
  · rw [hall, List.length_append, hpre]; simp only [List.length_cons]; omega
  · rw [hall, ← hpre, TB_four]
    have hne := cb_ne hb0 hbl x0 x1 x2 x3
    refine ⟨ps, B.length, _, hpath.more ?_, hst, rfl, rfl, .inl ?_⟩
    · rw [List.append_assoc, ← hP, List.append_assoc]; exact List.prefix_append _ _
    · refine getP_turned (x := [x0, x1, x2, x3]) (y := [x0 ^^^ cb bits 0, x1 ^^^ cb bits 1, x2 ^^^ cb bits 2, x3 ^^^ cb bits 3]) (d2 := d2) (k := kd) (t := t2 ++ t) rfl (by simp) hne (by have : ([x0, x1, x2, x3] ++ d2).length = (x0 :: x1 :: x2 :: x3 :: d2).length := rfl; omega) ?_
      rw [← hpad, List.append_assoc, List.drop_left]
      simp only [List.append_assoc, List.cons_append, List.nil_append]
end Go.Proofs.Ytopcnlophmplgaa

namespace Go.Proofs.Ytopcnlophmplgaa
open Go.RowKit Go.Maps Go.Sort
set_option linter.unusedVariables false
set_option maxRecDepth 100000

/-- a row's first cells are these bytes -/
def RowIs (cur : Array Value) (l : List UInt8) : Prop := cur.toList.take l.length = l.map bv
theorem RowIs.get {cur : Array Value} {l : List UInt8} (h : RowIs cur l) {j : Nat} (hj : j < l.length) : cur[j]? = some (bv (l.getD j 0)) := by
  have e : (cur.toList.take l.length)[j]? = (l.map bv)[j]? := by rw [show cur.toList.take l.length = l.map bv from h]
  rw [List.getElem?_take, if_pos hj, List.getElem?_map, List.getElem?_eq_getElem hj, Array.getElem?_toList] at e
  rw [e, List.getD_eq_getElem?_getD, List.getElem?_eq_getElem hj]
  rfl
theorem RowIs.set {cur : Array Value} {l : List UInt8} (h : RowIs cur l) (j : Nat) (c : UInt8) : RowIs (cur.setIfInBounds j (bv c)) (l.set j c) := by
  unfold RowIs
  rw [Array.toList_setIfInBounds, List.length_set, List.map_set, List.take_set, show cur.toList.take l.length = l.map bv from h]
theorem turn_cell (x : UInt8) (bs i xn : Nat) (hx : x.toNat = xn) : Go.bits BinOp.xor IntKind.u8 (xn : Int) ((bs : Int) / 2 ^ (8 * i) % 256) = ((x ^^^ cb bs i).toNat : Int) := by
  have e0 : (2 : Int) ^ (8 * i) = ((256 ^ i : Nat) : Int) := by
    rw [show (256 : Nat) ^ i = 2 ^ (8 * i) from by rw [Nat.pow_mul]]
    simp [Int.natCast_pow]
  have e : (bs : Int) / 2 ^ (8 * i) % 256 = ((bs / 256 ^ i % 256 : Nat) : Int) := by
    rw [e0, Int.natCast_emod, Int.natCast_ediv]; rfl
  have hlt := x.toNat_lt
  rw [e, u8_xor_nat _ _ (by omega) (Nat.mod_lt _ (by decide)), UInt8.toNat_xor, hx]
  unfold cb
  rw [UInt8.toNat_ofNat']
section
variable {w0 w : World} {d p : Nat} {S : St} {cur : Array Value} {t : TypeId}
theorem lies_row (h : AtP w0 w d S p cur t) {l : List UInt8} (hr : RowIs cur l) : Lies w w.heap.size 1 (some ⟨p, 0, none⟩) l.length (l.map bv) := by
  have hp : p < w.heap.size := by obtain ⟨F, _, _, _, _, h5, _⟩ := h; exact h5
  refine ⟨by simp, fun j hj => ⟨_, bv (l.getD j 0), rfl, ?_, ?_, ?_⟩⟩
  · exact hp
  · have hj : j < l.length := by simpa using hj
    rw [List.getElem?_map, List.getD_eq_getElem?_getD, List.getElem?_eq_getElem hj]; rfl
  · rw [add_lit, Nat.zero_add]
    exact h.cell (hr.get (by simpa using hj))
theorem at_readP (h : At w0 w d S) (s : ByteArray) (hs : s.size ≤ 140737488355328) (hn : okName s.data.toList = true) {f : Nat} (hk : look S.pres s.data.toList = some f) (N : Nat) (hN : (S.file f).bytes.length = N) (hpos : 0 < N) :
    Calls Try.prog 16 #[dp d, .string s, .int .i64 0, .int .i64 (N : Int)] w fun x w' => ∃ g c cur, x = .returned (.tuple #[.slice (some ⟨g, 0, none⟩) N c, er 0]) ∧ N ≤ c ∧ RowIs cur (S.file f).bytes ∧ AtP w0 w' d S g cur 5 := by
  obtain ⟨F, ⟨pm, dm, val, hD⟩, hF, hB⟩ := h
  have hA3 : argErr [okName s.data.toList, decide ((0 : Int) ≤ ((0 : Nat) : Int)), decide ((0 : Int) ≤ (N : Int))] = 0 := argErr_ok (by simp [hn])
  have hlen : S.len f = N := hN
  refine (read_ok hD s hs 0 N (by decide) hA3 hk (by omega)).mono fun x w' ⟨v, hx, ho, hb⟩ => ?_
  rw [List.drop_zero, List.take_of_length_le (by omega)] at ho
  rcases ho.2 with ⟨_, h0⟩ | ⟨g, cap, cur, rfl, hg, hh, h1, h2, h3, h4⟩
  · omega
  · refine ⟨g, cap, cur, hx, h1, ?_, F, Disk.below ⟨pm, dm, val, hD⟩ hb, ?_, hF, Nat.le_trans hB.size hg, heap_len hh, hB.trans (hb.mono hB.size), hh⟩
    · unfold RowIs
      rw [hN, ← h4, Nat.mul_one]
    · intro hFg
      have hlt : Disk w F d S := ⟨pm, dm, val, hD⟩
      have := hlt.lt g hFg
      omega
end
end Go.Proofs.Ytopcnlophmplgaa

