/-
  Contracts of the document's own disk: Rename, Append, Read.
  Contract of the document's own Read.
  What both disks answer to Size and Read, whatever they are asked.
  The law's 'same': a disk of package files and the document's own, of which each has what the other one has.
-/
import Derived.Test.YtbpdonnneleeeaaGreatDoorRefQ
import Derived.Test.YtbpdonnneleeeaaGreatDoorGrow
import Derived.Test.YtbpdonnneleeeaaGreatDoorMemZ
import Derived.Test.YtbpdonnneleeeaaGreatDoorAtZ
namespace Go.Proofs.YtbpdonnneleeeaaGreatDoor
open Go.RowKit Go.Maps Go.Sort
set_option linter.unusedVariables false
set_option linter.unusedSectionVars false
set_option maxRecDepth 100000

theorem arg2 (a b : Bool) : argErr [a, b] = if a then (if b then 0 else 1) else 1 := by cases a <;> cases b <;> rfl
theorem Turn.trans' {F F' : Nat → Prop} {a b : World} (h : Turn F a b) (hF : ∀ i, F i → F' i) : Turn F' a b := ⟨h.os, h.tape, h.output, h.size, fun i hi hn => h.block i hi (fun x => hn (hF i x))⟩
theorem map_del {D : Dir} (h : IsMap D) (k : List UInt8) : IsMap (D.del (.string k)) := by
  obtain ⟨es, rfl⟩ := h; exact ⟨_, rfl⟩
theorem len_drp (L : NL) (i : Nat) (h : i < L.length) : (drp L i).length + 1 = L.length := by unfold drp; simp; omega

set_option maxHeartbeats 2000000 in
theorem rrename_fails {w : World} {G : Nat → Prop} {m : Nat} {S : St} (h : Rf w G m S) (s t : ByteArray) (hs : s.size ≤ 140737488355328) (ht : t.size ≤ 140737488355328) {e : Int} (he : firstErr [0, argErr [okName s.data.toList, okName t.data.toList], noneErr (look S.pres s.data.toList)] = e) (hne : e ≠ 0) :
    Calls Tryz.prog 14 #[.pointer (some ⟨m, 0, none⟩), .string s, .string t] w fun x w' => x = .returned (er e) ∧ w' = w := by
  obtain ⟨R, ρ, A, n, c, L, A2, n2, c2, LS, fa, fk, h, h1, h2⟩ := h
  rw [fer2, arg2] at he
  have HN := Lib.hid (rname_any s w hs)
  have HN2 := Lib.hid (rname_any t w ht)
  have HF := Lib.hid (find_any h.c1 h.row h.nlen (by have := h.few; have := h.nlen; omega) s)
  cases hok : okName s.data.toList with
  | false =>
    rw [hok] at he HN
    have he : (1 : Int) = e := he
    have HE := Lib.hid he
    clear he hok
    go_enter Tryz.func14, Tryz.ntmps14
    go_wp2_with fail
    refine HN.out.mono ?_
    rintro x w' ⟨rfl, rfl⟩
    go_wp2
    go_ret
    exact ⟨by rw [← HE.out]; rfl, rfl⟩
  | true =>
    cases hok2 : okName t.data.toList with
    | false =>
      rw [hok, hok2] at he
      rw [hok] at HN
      rw [hok2] at HN2
      have he : (1 : Int) = e := he
      have HE := Lib.hid he
      clear he hok hok2
      go_enter Tryz.func14, Tryz.ntmps14
      go_wp2_with fail
      refine HN.out.mono ?_
      rintro x w' ⟨rfl, rfl⟩
      go_wp2_with fail
      refine HN2.out.mono ?_
      rintro x w'' ⟨rfl, rfl⟩
      go_wp2
      go_ret
      exact ⟨by rw [← HE.out]; rfl, rfl⟩
    | true =>
      rw [hok, hok2] at he
      rw [hok] at HN
      rw [hok2] at HN2
      have he : noneErr (look S.pres s.data.toList) = e := he
      cases hk : look S.pres s.data.toList with
      | some f => rw [hk] at he; exact absurd he.symm hne
      | none =>
        rw [hk] at he
        have he : (7 : Int) = e := he
        have HF : Hid (Calls Tryz.prog 50 #[.pointer (some ⟨m, 0, none⟩), .string s] w fun x w' => x = .returned (.int .i64 (-1)) ∧ w' = w) := by have := HF.out; rw [(h1.not hk).1] at this; exact this
        have HE := Lib.hid he
        clear he hok hok2 hk
        go_enter Tryz.func14, Tryz.ntmps14
        go_wp2_with fail
        refine HN.out.mono ?_
        rintro x w' ⟨rfl, rfl⟩
        go_wp2_with fail
        refine HN2.out.mono ?_
        rintro x w'' ⟨rfl, rfl⟩
        go_wp2_with fail
        refine HF.out.mono ?_
        rintro x w3 ⟨rfl, rfl⟩
        go_wp2
        go_ret
        exact ⟨by rw [← HE.out]; rfl, rfl⟩

set_option maxHeartbeats 2000000 in
theorem rrename_same {w : World} {G : Nat → Prop} {m : Nat} {S : St} (h : Rf w G m S) (s : ByteArray) (hs : s.size ≤ 140737488355328) (hn : okName s.data.toList = true) {f : Nat} (hk : look S.pres s.data.toList = some f) :
    Calls Tryz.prog 14 #[.pointer (some ⟨m, 0, none⟩), .string s, .string s] w fun x w' => x = .returned (er 0) ∧ w' = w := by
  obtain ⟨R, ρ, A, n, c, L, A2, n2, c2, LS, fa, fk, h, h1, h2⟩ := h
  have HN := Lib.hid (rname_any s w hs)
  rw [hn] at HN
  have hF := find_any h.c1 h.row h.nlen (by have := h.few; have := h.nlen; omega) s
  obtain ⟨i, b, o, hi, hin, hie, hA, q2, hf⟩ := h.found h1 hk
  rw [hi] at hF
  have HF : Hid (Calls Tryz.prog 50 #[.pointer (some ⟨m, 0, none⟩), .string s] w fun x w' => x = .returned (.int .i64 (i : Int)) ∧ w' = w) := hF
  clear hF hn hk hi hie q2 hf h h1 h2 hA
  go_enter Tryz.func14, Tryz.ntmps14
  go_wp2_with fail
  refine HN.out.mono ?_
  rintro x w' ⟨rfl, rfl⟩
  go_wp2_with fail
  refine HN.out.mono ?_
  rintro x w'' ⟨rfl, rfl⟩
  go_wp2_with fail
  refine HF.out.mono ?_
  rintro x w3 ⟨rfl, rfl⟩
  go_wp2
  go_ret
  exact ⟨rfl, rfl⟩

/-- behind what Rename has done to the rows -/
theorem rrename_done {w w6 : World} {G G6 R : Nat → Prop} {m : Nat} {S : St} {ρ : Nat → Nat} {A A2 : Option Addr} {n c n2 c2 : Nat} {L6 LS : NL} {fa : Nat → Option Addr} {fk : Nat → Nat} {k k' : List UInt8} {f : Nat} (hT : Turn G w w6) (hG : ∀ i, G6 i → more G w w6 i) (hlt : ∀ i, G i → i < w.heap.size)
    (h : RfAt w6 G6 R m S.size S.file ρ S.live A n c L6 A2 n2 c2 LS fa fk) (hM : IsMap S.pres) (hk : look S.pres k = some f) (hne : k ≠ k') {D : Dir} (hD : Rep D L6) (hDe : ∀ x, look D x = if x = k' then some f else if x = k then none else look S.pres x) (h2 : Rep S.dur LS) :
    Left6 G m w w6 (S.rename k k' f) := by
  have hlk : ∀ x, look (S.rename k k' f).pres x = if x = k' then some f else if x = k then none else look S.pres x := fun x => by
    show look ((S.pres.put (.string k') (.lit (.int .u64 (f : Int)))).del (.string k)) x = _
    rw [look_del, look_put _ hM]
    by_cases e1 : x = k
    · subst e1; rw [if_pos rfl, if_neg hne, if_pos rfl]
    · by_cases e2 : x = k'
      · rw [if_neg e1, if_pos e2, if_pos e2]
      · rw [if_neg e1, if_neg e2, if_neg e2, if_neg e1]
  have hrep : Rep (S.rename k k' f).pres L6 := hD.same fun x => by rw [hlk, hDe]
  refine ⟨hT, R, ρ, A, n, c, L6, A2, n2, c2, LS, fa, fk, ?_, hrep, h2⟩
  refine RfAt.mono (RfAt.less h (T' := (S.rename k k' f).live) ?_ (fun e he => .inl ⟨e.1, (hrep.2 e.1 e.2).1 he⟩) (fun e he => .inr ⟨e.1, (h2.2 e.1 e.2).1 he⟩) (fun f _ => rfl)) hG (more_lt hlt hT.size)
  rintro g (⟨x, hx⟩ | ⟨x, hx⟩)
  · rw [hlk] at hx
    by_cases e2 : x = k'
    · rw [if_pos e2] at hx; injection hx with hx; rw [← hx]; exact .inl ⟨k, hk⟩
    · rw [if_neg e2] at hx
      by_cases e1 : x = k
      · rw [if_pos e1] at hx; cases hx
      · rw [if_neg e1] at hx; exact .inl ⟨x, hx⟩
  · exact .inr ⟨x, hx⟩

set_option maxHeartbeats 4000000 in
theorem rrename_ok {w : World} {G : Nat → Prop} {m : Nat} {S : St} (h : Rf w G m S) (hT0 : Tidy S.pres) (s t : ByteArray) (hs : s.size ≤ 140737488355328) (ht : t.size ≤ 140737488355328) (hn : okName s.data.toList = true) (hn2 : okName t.data.toList = true) {f : Nat} (hk : look S.pres s.data.toList = some f) (hst : s ≠ t) :
    Calls Tryz.prog 14 #[.pointer (some ⟨m, 0, none⟩), .string s, .string t] w fun x w' => x = .returned (er 0) ∧ Left6 G m w w' (S.rename s.data.toList t.data.toList f) := by
  obtain ⟨R, ρ, A, n, c, L, A2, n2, c2, LS, fa, fk, h, h1, h2⟩ := h
  have HN := Lib.hid (rname_any s w hs)
  rw [hn] at HN
  have HN2 := Lib.hid (rname_any t w ht)
  rw [hn2] at HN2
  have hF := find_any h.c1 h.row h.nlen (by have := h.few; have := h.nlen; omega) s
  obtain ⟨i, b, o, hi, hin, hie, hA, q2, hf⟩ := h.found h1 hk
  rw [hi] at hF
  have HF : Hid (Calls Tryz.prog 50 #[.pointer (some ⟨m, 0, none⟩), .string s] w fun x w' => x = .returned (.int .i64 (i : Int)) ∧ w' = w) := hF
  have hil := (List.getElem?_eq_some_iff.1 hie).1
  have HD := Lib.hid (drop_any h i hil)
  have hM : IsMap S.pres := by obtain ⟨es, he, _⟩ := hT0; exact ⟨es, he⟩
  have hne : s.data.toList ≠ t.data.toList := fun e => hst (txt_ext e)
  have HH := Lib.hid h; have H2 := Lib.hid h2; have HM := Lib.hid hM; have HNe := Lib.hid hne; have HK := Lib.hid hk; have HTf := Lib.hid hf
  have HR1 := Lib.hid (h1.del hie)
  have HL1 : Hid ((drp L i).length ≤ 69) := by have := len_drp L i hil; have := h.few; show _ ≤ _; omega
  have HDe : Hid (∀ x, look (S.pres.del (.string s.data.toList)) x = if x = s.data.toList then none else look S.pres x) := fun x => look_del _ _ _
  have c1 := h.c1
  have hl70 : n ≤ 70 := by have := h.few; have := h.nlen; omega
  have hnc := h.cap.1
  have hnest : (s.toList == t.toList) = false := by rw [txt_eqB]; exact decide_eq_false hst
  subst hA
  clear hF hn hn2 hk hi hie hf h h1 h2 hil hM hne hst
  go_enter Tryz.func14, Tryz.ntmps14
  go_wp2_with fail
  refine HN.out.mono ?_
  rintro x w' ⟨rfl, rfl⟩
  go_wp2_with fail
  refine HN2.out.mono ?_
  rintro x w'' ⟨rfl, rfl⟩
  go_wp2_with fail
  refine HF.out.mono ?_
  rintro x w2 ⟨rfl, rfl⟩
  go_wp2_with fail
  refine HD.out.mono ?_
  rintro x w3 ⟨rfl, hT3, A3, n3, c3, R3, hR3⟩
  have HT3 := Lib.hid hT3; have HR3 := Lib.hid hR3
  have hF3 := find_any hR3.c1 hR3.row hR3.nlen (by have := hR3.few; have := hR3.nlen; omega) t
  cases hk2 : look S.pres t.data.toList with
  | none =>
    have hk3 : look (S.pres.del (.string s.data.toList)) t.data.toList = none := by rw [HDe.out, if_neg HNe.out.symm]; exact hk2
    rw [(HR1.out.not hk3).1] at hF3
    have HF3 : Hid (Calls Tryz.prog 50 #[.pointer (some ⟨m, 0, none⟩), .string t] w3 fun x w' => x = .returned (.int .i64 (-1)) ∧ w' = w3) := hF3
    have HLd := Lib.hid (lead_any hR3 t f HTf.out HL1.out)
    have HRp := Lib.hid (HR1.out.put (map_del HM.out _) f hk3)
    clear hT3 hR3 hF3 hk2 hk3 c1 q2
    go_wp2_with fail
    refine HF3.out.mono ?_
    rintro x w4 ⟨rfl, rfl⟩
    go_wp2_with fail
    refine HLd.out.mono ?_
    rintro x w6 ⟨rfl, hT6, A6, n6, c6, R6, hR6⟩
    have HE := Lib.hid (rrename_done (turn_more HT3.out hT6) (more_more HT3.out.size hT6.size) HH.out.lt hR6 HM.out HK.out HNe.out HRp.out (fun x => by
      rw [look_put _ (map_del HM.out _), HDe.out]) H2.out)
    clear hT6 hR6
    go_wp2
    go_ret
    exact ⟨rfl, HE.out⟩
  | some g =>
    have hk3 : look (S.pres.del (.string s.data.toList)) t.data.toList = some g := by rw [HDe.out, if_neg HNe.out.symm]; exact hk2
    obtain ⟨j, hj, hje⟩ := HR1.out.find hk3
    rw [hj] at hF3
    have HF3 : Hid (Calls Tryz.prog 50 #[.pointer (some ⟨m, 0, none⟩), .string t] w3 fun x w' => x = .returned (.int .i64 (j : Int)) ∧ w' = w3) := hF3
    have HD3 := Lib.hid (drop_any hR3 j (List.getElem?_eq_some_iff.1 hje).1)
    have HR2 := Lib.hid (HR1.out.del hje)
    have hk4 : look ((S.pres.del (.string s.data.toList)).del (.string t.data.toList)) t.data.toList = none := by rw [look_del, if_pos rfl]
    have HRp := Lib.hid (HR2.out.put (map_del (map_del HM.out _) _) f hk4)
    have HL2 : Hid ((drp (drp L i) j).length ≤ 69) := by have := len_drp (drp L i) j (List.getElem?_eq_some_iff.1 hje).1; have := HL1.out; show _ ≤ _; omega
    clear hT3 hR3 hF3 hk2 hk3 hk4 hj hje c1 q2
    go_wp2_with fail
    refine HF3.out.mono ?_
    rintro x w4 ⟨rfl, rfl⟩
    go_wp2_with fail
    refine HD3.out.mono ?_
    rintro x w5 ⟨rfl, hT5, A5, n5, c5, R5, hR5⟩
    have HT5 := Lib.hid hT5
    have HLd := Lib.hid (lead_any hR5 t f HTf.out HL2.out)
    clear hT5 hR5
    go_wp2_with fail
    refine HLd.out.mono ?_
    rintro x w6 ⟨rfl, hT6, A6, n6, c6, R6, hR6⟩
    have HE := Lib.hid (rrename_done (turn_more (turn_more HT3.out HT5.out) (hT6.trans' (more_more HT3.out.size HT5.out.size))) (fun i hi => more_more (Nat.le_trans HT3.out.size HT5.out.size) hT6.size i (by
      rcases hi with hi | hi
      · exact .inl (more_more HT3.out.size HT5.out.size i hi)
      · exact .inr hi)) HH.out.lt hR6 HM.out HK.out HNe.out HRp.out (fun x => by
      rw [look_put _ (map_del (map_del HM.out _) _), look_del, HDe.out]
      by_cases e : x = t.data.toList
      · rw [if_pos e, if_pos e]
      · rw [if_neg e, if_neg e, if_neg e]) H2.out)
    clear hT6 hR6
    go_wp2
    go_ret
    exact ⟨rfl, HE.out⟩


/-- Append's error -/
def appErr (S : St) (s : List UInt8) (n : Nat) : Int := firstErr [0, argErr [okName s], noneErr (look S.pres s), match look S.pres s with
  | some f => spaceErr S (S.len f) n
  | none => 0]
theorem wp_bytes_nil (w : World) (base : Nat) : w.ownsRow base 5 1 (.slice none 0 0) 0 (([] : List UInt8).map bv) := ⟨rfl, .inl ⟨rfl, rfl⟩⟩

set_option maxHeartbeats 4000000 in
theorem rappend_fails {w : World} {G : Nat → Prop} {m : Nat} {S : St} (h : Rf w G m S) (hD : DirOK S.pres) (hT : Tidy S.pres) (s : ByteArray) (hs : s.size ≤ 140737488355328) (B : Option Addr) (nb cb : Nat) (hnb : nb ≤ 140737488355328) {e : Int} (he : appErr S s.data.toList nb = e) (hne : e ≠ 0) :
    Calls Tryz.prog 16 #[.pointer (some ⟨m, 0, none⟩), .string s, .slice B nb cb] w fun x w' => x = .returned (er e) ∧ w' = w := by
  have HLf := Lib.hid (rleft_ok h hD hT)
  obtain ⟨R, ρ, A, n, c, L, A2, n2, c2, LS, fa, fk, h, h1, h2⟩ := h
  unfold appErr at he
  rw [fer3, arg1] at he
  have HN := Lib.hid (rname_any s w hs)
  have HF := Lib.hid (find_any h.c1 h.row h.nlen (by have := h.few; have := h.nlen; omega) s)
  cases hok : okName s.data.toList with
  | false =>
    rw [hok] at he HN
    have he : (1 : Int) = e := he
    have HE := Lib.hid he
    clear he hok
    go_enter Tryz.func16, Tryz.ntmps16
    go_wp2_with fail
    refine HN.out.mono ?_
    rintro x w' ⟨rfl, rfl⟩
    go_wp2
    go_ret
    exact ⟨by rw [← HE.out]; rfl, rfl⟩
  | true =>
    rw [hok] at he HN
    cases hk : look S.pres s.data.toList with
    | none =>
      rw [hk] at he
      have he : (7 : Int) = e := he
      have HF : Hid (Calls Tryz.prog 50 #[.pointer (some ⟨m, 0, none⟩), .string s] w fun x w' => x = .returned (.int .i64 (-1)) ∧ w' = w) := by have := HF.out; rw [(h1.not hk).1] at this; exact this
      have HE := Lib.hid he
      clear he hok hk
      go_enter Tryz.func16, Tryz.ntmps16
      go_wp2_with fail
      refine HN.out.mono ?_
      rintro x w' ⟨rfl, rfl⟩
      go_wp2_with fail
      refine HF.out.mono ?_
      rintro x w'' ⟨rfl, rfl⟩
      go_wp2
      go_ret
      exact ⟨by rw [← HE.out]; rfl, rfl⟩
    | some f =>
      rw [hk] at he
      have he : spaceErr S (S.len f) nb = e := he
      have hsp : ¬ (nb ≤ S.left ∧ nb + S.len f ≤ 1048576) := fun x => hne (by rw [← he]; exact spaceErr_ok x)
      have he6 : (6 : Int) = e := by rw [← he]; exact (spaceErr_no hsp).symm
      obtain ⟨i, b, o, hi, hin, hie, hA, q2, hf⟩ := h.found h1 hk
      rw [hi] at HF
      have HF : Hid (Calls Tryz.prog 50 #[.pointer (some ⟨m, 0, none⟩), .string s] w fun x w' => x = .returned (.int .i64 (i : Int)) ∧ w' = w) := HF.out
      have c1 := h.c1
      have hnc := h.cap.1
      have hl70 : n ≤ 70 := by have := h.few; have := h.nlen; omega
      have f0 := (h.files f hf).f0
      have hmx := (h.files f hf).max
      have hfl : (S.file f).bytes.length = S.len f := rfl
      rw [hfl] at f0 hmx
      have HE := Lib.hid he6
      have hlf : S.left ≤ 8388608 := by have := h.hi; unfold St.left; omega
      generalize S.left = lf at *
      generalize S.len f = le at *
      subst hA
      clear he hok hk hi hie hf h h1 h2 he6 hfl
      by_cases hgt : lf < nb
      · have j1 : (lf : Int) < (nb : Int) := by omega
        clear hsp hgt
        go_enter Tryz.func16, Tryz.ntmps16
        go_wp2_with fail
        refine HN.out.mono ?_
        rintro x w' ⟨rfl, rfl⟩
        go_wp2_with fail
        refine HF.out.mono ?_
        rintro x w'' ⟨rfl, rfl⟩
        go_wp2_with fail
        refine HLf.out.mono ?_
        rintro x w3 ⟨rfl, rfl⟩
        go_wp2
        go_ret
        exact ⟨by rw [← HE.out]; rfl, rfl⟩
      · have j1 : (nb : Int) ≤ (lf : Int) := by omega
        have j2 : (1048576 : Int) < (le : Int) + (nb : Int) := by omega
        clear hsp hgt
        go_enter Tryz.func16, Tryz.ntmps16
        go_wp2_with fail
        refine HN.out.mono ?_
        rintro x w' ⟨rfl, rfl⟩
        go_wp2_with fail
        refine HF.out.mono ?_
        rintro x w'' ⟨rfl, rfl⟩
        go_wp2_with fail
        refine HLf.out.mono ?_
        rintro x w3 ⟨rfl, rfl⟩
        go_wp2
        go_ret
        exact ⟨by rw [← HE.out]; rfl, rfl⟩

set_option maxHeartbeats 4000000 in
theorem rappend_ok {w : World} {G : Nat → Prop} {m : Nat} {S : St} (h : Rf w G m S) (hD : DirOK S.pres) (hT : Tidy S.pres) (s : ByteArray) (hs : s.size ≤ 140737488355328) (hn : okName s.data.toList = true) (B : Option Addr) (nb cb : Nat) (l : List UInt8) (hl : Lies w w.heap.size 1 B nb (l.map bv)) {f : Nat} (hk : look S.pres s.data.toList = some f) (hsp : nb ≤ S.left ∧ nb + S.len f ≤ 1048576) :
    Calls Tryz.prog 16 #[.pointer (some ⟨m, 0, none⟩), .string s, .slice B nb cb] w fun x w' => x = .returned (er 0) ∧ Left6 G m w w' (S.append f l) := by
  obtain ⟨i0, hi0, hz0, hz1, hz2⟩ := info_parts byte_info
  have HLf := Lib.hid (rleft_ok h hD hT)
  obtain ⟨R, ρ, A, n, c, L, A2, n2, c2, LS, fa, fk, h, h1, h2⟩ := h
  have HN := Lib.hid (rname_any s w hs)
  rw [hn] at HN
  have hF := find_any h.c1 h.row h.nlen (by have := h.few; have := h.nlen; omega) s
  obtain ⟨i, b, o, hi, hin, hie, hA, q2, hf⟩ := h.found h1 hk
  rw [hi] at hF
  have HF : Hid (Calls Tryz.prog 50 #[.pointer (some ⟨m, 0, none⟩), .string s] w fun x w' => x = .returned (.int .i64 (i : Int)) ∧ w' = w) := hF
  have c1 := h.c1
  have hnc := h.cap.1
  have hl70 : n ≤ 70 := by have := h.few; have := h.nlen; omega
  have hfile := h.files f hf
  have f0 := hfile.f0
  have hmx := hfile.max
  have hbl : l.length = nb := by have := hl.len; simpa using this
  have HFl : Hid (Lies w w.heap.size 1 (fa f) (S.file f).bytes.length ((S.file f).bytes.map bv)) := hfile.lies.lies (fun i hi => h.lt i (h.rsub i hi))
  have HBl := Lib.hid hl; have HH := Lib.hid h; have H1 := Lib.hid h1; have H2 := Lib.hid h2; have HTf := Lib.hid hf; have HBn := Lib.hid hbl
  have hlf : S.left ≤ 8388608 := by have := h.hi; unfold St.left; omega
  have hsp1 := hsp.1; have hsp2 : nb + (S.file f).bytes.length ≤ 1048576 := hsp.2
  have HSl : Hid (S.left ≤ 8388608) := hlf
  obtain ⟨le, hle⟩ : ∃ le, (S.file f).bytes.length = le := ⟨_, rfl⟩
  rw [hle] at f0 hmx hsp2 HFl
  have HLe := Lib.hid hle
  generalize S.left = lf at *
  subst hA
  clear hF hn hk hi hie hf h h1 h2 hfile hl hbl hsp hle hlf
  go_enter Tryz.func16, Tryz.ntmps16
  go_wp2_with fail
  refine HN.out.mono ?_
  rintro x w' ⟨rfl, rfl⟩
  go_wp2_with fail
  refine HF.out.mono ?_
  rintro x w'' ⟨rfl, rfl⟩
  go_wp2_with fail
  refine HLf.out.mono ?_
  rintro x w3 ⟨rfl, rfl⟩
  have j1 : (nb : Int) ≤ (lf : Int) := by omega
  have j2 : (le : Int) + (nb : Int) ≤ 1048576 := by omega
  go_wp2_with (at_builtin; refine wpList_app _ rfl (.const (.slice none 0 0)) (.tmp 45) 46 rfl w3.heap.size 5 i0 _ 1 1 Tryz.underlying46 hi0 hz0 hz1 hz2 rfl (by decide) (.slice none 0 0) 0 [] rfl (World.ownsRow_nil _ _ _ _) w3.heap.size (fa f) le (fk f) ((S.file f).bytes.map bv) rfl HFl.out (bv_one _) (by unfold maxLen; omega) (by omega) (Nat.le_refl _) ?_)
  intro v1 w4 hown1 hg1 _
  have hb1 : Below w3.heap.size w3 w4 := (Below.refl _ _).grown hg1 (Nat.le_refl _) (fun j hj => by cases hj)
  have hown1 : w4.ownsRow w3.heap.size 5 1 v1 le ((S.file f).bytes.map bv) := by simpa using hown1
  have HO1 := Lib.hid hown1; have HB1 := Lib.hid hb1
  clear hown1 hg1 hb1
  go_wp2_with (at_builtin; refine wpList_app _ rfl (.tmp 46) (.tmp 47) 46 rfl w3.heap.size 5 i0 _ 1 1 Tryz.underlying46 hi0 hz0 hz1 hz2 rfl (by decide) v1 le ((S.file f).bytes.map bv) rfl HO1.out w3.heap.size B nb cb (l.map bv) rfl (HBl.out.below HB1.out) (bv_one _) (by unfold maxLen; omega) (by omega) HB1.out.size ?_)
  intro v2 w5 hown2 hg2 _
  have hb2 : Below w3.heap.size w3 w5 := HB1.out.grown hg2 HB1.out.size (fun j hj => (HO1.out.lt j hj).1)
  obtain ⟨A', c', rfl, hnc', hcm', _⟩ := own_shape hown2
  have f0' : w5.cell? ⟨ρ f, 0, none⟩ = some (.slice (fa f) (S.file f).bytes.length (fk f)) := (((HH.out.below hb2).files f HTf.out).f0)
  have hfz : w5.frozen? ⟨ρ f, 0, none⟩ = false := (((HH.out.below hb2).files f HTf.out).thaw 0)
  have HE : Hid (Left6 G m w3 (w5.setCell ⟨ρ f, 0, none⟩ (.slice A' (le + nb) c')) (S.append f l)) := by
    have hfi := (HH.out.below hb2).files f HTf.out
    have hbx := rfile_box (j := 0) (v := .slice A' (le + nb) c') hfi.cells
    have hlen : ((S.file f).bytes ++ l).length = le + nb := by rw [List.length_append, HLe.out, HBn.out]
    have hown3 : (w5.setCell ⟨ρ f, 0, none⟩ (.slice A' (le + nb) c')).ownsRow w3.heap.size 5 1 (.slice A' (le + nb) c') (le + nb) (((S.file f).bytes ++ l).map bv) := by
      rw [List.map_append]
      refine ⟨hown2.1, ?_⟩
      rcases hown2.2 with h2 | ⟨g, cap, cur, hv, hg, hh, r⟩
      · exact .inl h2
      · exact .inr ⟨g, cap, cur, hv, hg, (Below.heap_setCell _ _ _ _ (by have := HH.out.lt _ (HH.out.files f HTf.out).mem; show g ≠ ρ f; omega)).trans hh, r⟩
    have hown2' := hown2.lt
    obtain ⟨a1, a2⟩ := mk_rfile (w5 := w5.setCell ⟨ρ f, 0, none⟩ (.slice A' (le + nb) c')) (cc := ⟨(S.file f).bytes ++ l, (S.file f).sure⟩) (A' := A') (k' := c') (R' := andOwn R (.slice A' (le + nb) c')) HH.out hb2 HTf.out rfl (fun i hi => .inl hi) (fun i hi => by
      rcases hi with hi | hi
      · exact .inl hi
      · exact .inr (hown2' i hi)) (by rw [hbx]; show _ = some (Obj.cells #[.slice A' ((S.file f).bytes ++ l).length c', .int .i64 ((S.file f).sure : Int)] _ _); rw [hlen]; rfl) (by show LiesIn _ _ 1 A' ((S.file f).bytes ++ l).length _; rw [hlen]; exact LiesIn.of_own hown3 fun g hg => .inr hg) (by show ((S.file f).bytes ++ l).length ≤ c' ∧ _; rw [hlen]; exact ⟨hnc', hcm'⟩) (by show (S.file f).sure ≤ ((S.file f).bytes ++ l).length; rw [List.length_append]; have := hfi.sure; omega) (by show ((S.file f).bytes ++ l).length ≤ _; rw [hlen]; omega)
    exact ⟨a1, _, ρ, _, n, c, L, A2, n2, c2, LS, _, _, a2, H1.out, H2.out⟩
  rw [HLe.out] at f0'
  clear hown2 hg2 hb2 f0
  go_wp2
  go_ret
  exact ⟨rfl, HE.out⟩
end Go.Proofs.YtbpdonnneleeeaaGreatDoor

namespace Go.Proofs.YtbpdonnneleeeaaGreatDoor
open Go.RowKit Go.Maps Go.Sort
set_option linter.unusedVariables false
set_option linter.unusedSectionVars false
set_option maxRecDepth 100000

/-- Read's error -/
def readErr (S : St) (s : List UInt8) (a n : Int) : Int := firstErr [0, argErr [okName s, decide (0 ≤ a), decide (0 ≤ n)], noneErr (look S.pres s), match look S.pres s with
  | some f => shortErr (S.len f) a n
  | none => 0]
theorem arg3 (a b c : Bool) : argErr [a, b, c] = if a && b && c then 0 else 1 := by cases a <;> cases b <;> cases c <;> rfl

set_option maxHeartbeats 4000000 in
theorem rread_fails {w : World} {G : Nat → Prop} {m : Nat} {S : St} (h : Rf w G m S) (s : ByteArray) (hs : s.size ≤ 140737488355328) (a k : Int) (ha2 : a ≤ 9223372036854775807) (ha3 : -9223372036854775808 ≤ a) {e : Int} (he : readErr S s.data.toList a k = e) (hne : e ≠ 0) :
    Calls Tryz.prog 18 #[.pointer (some ⟨m, 0, none⟩), .string s, .int .i64 a, .int .i64 k] w fun x w' => x = .returned (.tuple #[.slice none 0 0, er e]) ∧ w' = w := by
  obtain ⟨R, ρ, A, n, c, L, A2, n2, c2, LS, fa, fk, h, h1, h2⟩ := h
  unfold readErr at he
  rw [fer3, arg3] at he
  have HN := Lib.hid (rname_any s w hs)
  have HF := Lib.hid (find_any h.c1 h.row h.nlen (by have := h.few; have := h.nlen; omega) s)
  cases hok : okName s.data.toList with
  | false =>
    rw [hok] at he HN
    have he : (1 : Int) = e := he
    have HE := Lib.hid he
    clear he hok
    go_enter Tryz.func18, Tryz.ntmps18
    go_wp2_with fail
    refine HN.out.mono ?_
    rintro x w' ⟨rfl, rfl⟩
    go_wp2
    go_ret2
    exact ⟨by rw [← HE.out]; rfl, rfl⟩
  | true =>
    rw [hok] at he HN
    by_cases ha : 0 ≤ a
    · by_cases hk0 : 0 ≤ k
      · rw [decide_eq_true ha, decide_eq_true hk0] at he
        cases hk : look S.pres s.data.toList with
        | none =>
          rw [hk] at he
          have he : (7 : Int) = e := he
          have HF : Hid (Calls Tryz.prog 50 #[.pointer (some ⟨m, 0, none⟩), .string s] w fun x w' => x = .returned (.int .i64 (-1)) ∧ w' = w) := by have := HF.out; rw [(h1.not hk).1] at this; exact this
          have HE := Lib.hid he
          clear he hok hk
          go_enter Tryz.func18, Tryz.ntmps18
          go_wp2_with fail
          refine HN.out.mono ?_
          rintro x w' ⟨rfl, rfl⟩
          go_wp2_with fail
          refine HF.out.mono ?_
          rintro x w'' ⟨rfl, rfl⟩
          go_wp2
          go_ret2
          exact ⟨by rw [← HE.out]; rfl, rfl⟩
        | some f =>
          rw [hk] at he
          have he : shortErr (S.len f) a k = e := he
          have hsp : ¬ k ≤ (S.len f : Int) - a := fun x => hne (by rw [← he]; exact shortErr_ok x)
          have he5 : (5 : Int) = e := by rw [← he]; exact (shortErr_no hsp).symm
          obtain ⟨i, b, o, hi, hin, hie, hA, q2, hf⟩ := h.found h1 hk
          rw [hi] at HF
          have HF : Hid (Calls Tryz.prog 50 #[.pointer (some ⟨m, 0, none⟩), .string s] w fun x w' => x = .returned (.int .i64 (i : Int)) ∧ w' = w) := HF.out
          have c1 := h.c1
          have hnc := h.cap.1
          have hl70 : n ≤ 70 := by have := h.few; have := h.nlen; omega
          have f0 := (h.files f hf).f0
          have hmx := (h.files f hf).max
          have hfl : (S.file f).bytes.length = S.len f := rfl
          rw [hfl] at f0 hmx
          have HE := Lib.hid he5
          generalize S.len f = le at *
          subst hA
          clear he hok hk hi hie hf h h1 h2 he5 hfl
          by_cases hgt : (le : Int) < a
          · clear hsp
            go_enter Tryz.func18, Tryz.ntmps18
            go_wp2_with fail
            refine HN.out.mono ?_
            rintro x w' ⟨rfl, rfl⟩
            go_wp2_with fail
            refine HF.out.mono ?_
            rintro x w'' ⟨rfl, rfl⟩
            go_wp2
            go_ret2
            exact ⟨by rw [← HE.out]; rfl, rfl⟩
          · have j1 : a ≤ (le : Int) := by omega
            have j2 : (le : Int) - a < k := by omega
            clear hsp hgt
            go_enter Tryz.func18, Tryz.ntmps18
            go_wp2_with fail
            refine HN.out.mono ?_
            rintro x w' ⟨rfl, rfl⟩
            go_wp2_with fail
            refine HF.out.mono ?_
            rintro x w'' ⟨rfl, rfl⟩
            go_wp2
            go_ret2
            exact ⟨by rw [← HE.out]; rfl, rfl⟩
      · rw [decide_eq_true ha, decide_eq_false hk0] at he
        have he : (1 : Int) = e := he
        have HE := Lib.hid he
        have j1 : k < 0 := by omega
        clear he hok hk0
        go_enter Tryz.func18, Tryz.ntmps18
        go_wp2_with fail
        refine HN.out.mono ?_
        rintro x w' ⟨rfl, rfl⟩
        go_wp2
        go_ret2
        exact ⟨by rw [← HE.out]; rfl, rfl⟩
    · rw [decide_eq_false ha] at he
      have he : (1 : Int) = e := by
        cases hd : decide (0 ≤ k) <;> rw [hd] at he <;> exact he
      have HE := Lib.hid he
      have j1 : a < 0 := by omega
      clear he hok ha
      go_enter Tryz.func18, Tryz.ntmps18
      go_wp2_with fail
      refine HN.out.mono ?_
      rintro x w' ⟨rfl, rfl⟩
      go_wp2
      go_ret2
      exact ⟨by rw [← HE.out]; rfl, rfl⟩

set_option maxHeartbeats 4000000 in
theorem rread_ok {w : World} {G : Nat → Prop} {m : Nat} {S : St} (h : Rf w G m S) (s : ByteArray) (hs : s.size ≤ 140737488355328) (hn : okName s.data.toList = true) (a k : Nat) {f : Nat} (hk : look S.pres s.data.toList = some f) (hr : a + k ≤ S.len f) :
    Calls Tryz.prog 18 #[.pointer (some ⟨m, 0, none⟩), .string s, .int .i64 (a : Int), .int .i64 (k : Int)] w fun x w' => ∃ v, x = .returned (.tuple #[v, er 0]) ∧ w'.ownsRow w.heap.size 5 1 v k ((((S.file f).bytes.drop a).take k).map bv) ∧ Below w.heap.size w w' := by
  obtain ⟨i0, hi0, hz0, hz1, hz2⟩ := info_parts byte_info
  obtain ⟨R, ρ, A, n, c, L, A2, n2, c2, LS, fa, fk, h, h1, h2⟩ := h
  have HN := Lib.hid (rname_any s w hs)
  rw [hn] at HN
  have hF := find_any h.c1 h.row h.nlen (by have := h.few; have := h.nlen; omega) s
  obtain ⟨i, b, o, hi, hin, hie, hA, q2, hf⟩ := h.found h1 hk
  rw [hi] at hF
  have HF : Hid (Calls Tryz.prog 50 #[.pointer (some ⟨m, 0, none⟩), .string s] w fun x w' => x = .returned (.int .i64 (i : Int)) ∧ w' = w) := hF
  have c1 := h.c1
  have hnc := h.cap.1
  have hl70 : n ≤ 70 := by have := h.few; have := h.nlen; omega
  have hfile := h.files f hf
  have f0 := hfile.f0
  have hmx := hfile.max
  have hcap := hfile.cap.1
  have hfl : Lies w w.heap.size 1 (fa f) (S.file f).bytes.length ((S.file f).bytes.map bv) := hfile.lies.lies (fun i hi => h.lt i (h.rsub i hi))
  have hr : a + k ≤ (S.file f).bytes.length := hr
  have HS : Hid (Lies w w.heap.size 1 (cutA (fa f) (fk f) a) k ((((S.file f).bytes.drop a).take k).map bv)) := by
    have h1 := (hfl.cutA (m := a) (c := fk f) (by omega) hcap).take_ (m := k) (by omega)
    rw [List.map_take]; exact h1
  have hcut := fun w => run_cut2 w (fa f) (S.file f).bytes.length (fk f) a k (by omega)
  generalize ((S.file f).bytes.drop a).take k = news at *
  generalize (S.file f).bytes.length = le at *
  subst hA
  clear hF hn hk hi hie hf h h1 h2 hfile hfl
  go_enter Tryz.func18, Tryz.ntmps18
  go_wp2_with fail
  refine HN.out.mono ?_
  rintro x w' ⟨rfl, rfl⟩
  go_wp2_with fail
  refine HF.out.mono ?_
  rintro x w'' ⟨rfl, rfl⟩
  go_wp2_with (at_builtin; refine wpList_app _ rfl (.const (.slice none 0 0)) (.tmp 62) 46 rfl w''.heap.size 5 i0 _ 1 1 Tryz.underlying46 hi0 hz0 hz1 hz2 rfl (by decide) (.slice none 0 0) 0 [] rfl (World.ownsRow_nil _ _ _ _) w''.heap.size (cutA (fa f) (fk f) a) k (fk f - a) (news.map bv) rfl HS.out (bv_one _) (by unfold maxLen; omega) (by omega) (Nat.le_refl _) ?_)
  intro v1 w4 hown1 hg1 _
  have hb1 : Below w''.heap.size w'' w4 := (Below.refl _ _).grown hg1 (Nat.le_refl _) (fun j hj => by cases hj)
  have hown1 : w4.ownsRow w''.heap.size 5 1 v1 k (news.map bv) := by simpa using hown1
  have HO1 := Lib.hid hown1; have HB1 := Lib.hid hb1
  clear hown1 hg1 hb1
  go_wp2
  go_ret2
  exact ⟨_, rfl, HO1.out, HB1.out⟩
end Go.Proofs.YtbpdonnneleeeaaGreatDoor

namespace Go.Proofs.YtbpdonnneleeeaaGreatDoor
open Go.RowKit Go.Maps Go.Sort
set_option linter.unusedVariables false
set_option linter.unusedSectionVars false
set_option maxRecDepth 100000

/-- Size's error, and its number -/
def sizeErr (S : St) (l : List UInt8) : Int := firstErr [0, argErr [okName l], noneErr (look S.pres l)]
def sizeN (S : St) (l : List UInt8) : Nat := if sizeErr S l = 0 then (match look S.pres l with | some f => S.len f | none => 0) else 0
theorem psize_any {w : World} {F : Nat → Prop} {d : Nat} {S : St} (h : Disk w F d S) (s : ByteArray) (hs : s.size ≤ 140737488355328) :
    Calls Tryz.prog 28 #[dp d, .string s] w fun x w' => x = .returned (.tuple #[.int .i64 (sizeN S s.data.toList : Int), er (sizeErr S s.data.toList)]) ∧ Below w.heap.size w w' := by
  obtain ⟨pm, dm, val, hD⟩ := h
  by_cases he : sizeErr S s.data.toList = 0
  · obtain ⟨_, h1, h2⟩ := all_zero3 he
    obtain ⟨f, hf⟩ := none_some h2
    have hn : sizeN S s.data.toList = S.len f := by unfold sizeN; rw [if_pos he, hf]
    rw [hn, he]
    exact size_ok hD s hs h1 hf
  · have hn : sizeN S s.data.toList = 0 := if_neg he
    rw [hn]
    exact size_fails _ s w hs 0 _ _ hD.gives (fun _ _ => hD.leads hs) rfl he
theorem okName_of {l : List UInt8} (h : argErr [okName l] = 0) : okName l = true := argErr_all h _ (by simp)
theorem rsize_any {w : World} {G : Nat → Prop} {m : Nat} {S : St} (h : Rf w G m S) (s : ByteArray) (hs : s.size ≤ 140737488355328) :
    Calls Tryz.prog 29 #[dp m, .string s] w fun x w' => x = .returned (.tuple #[.int .i64 (sizeN S s.data.toList : Int), er (sizeErr S s.data.toList)]) ∧ w' = w := by
  by_cases he : sizeErr S s.data.toList = 0
  · obtain ⟨_, h1, h2⟩ := all_zero3 he
    obtain ⟨f, hf⟩ := none_some h2
    have hn : sizeN S s.data.toList = S.len f := by unfold sizeN; rw [if_pos he, hf]
    rw [hn, he]
    exact rsize_ok h s hs (okName_of h1) hf
  · have hn : sizeN S s.data.toList = 0 := if_neg he
    rw [hn]
    exact rsize_fails h s hs rfl he
/-- what Read answers -/
def readB (S : St) (l : List UInt8) (a n : Int) : List UInt8 := if readErr S l a n = 0 then (match look S.pres l with | some f => ((S.file f).bytes.drop a.toNat).take n.toNat | none => []) else []
theorem read_zero {S : St} {l : List UInt8} {a n : Int} (he : readErr S l a n = 0) : ∃ f a' n', look S.pres l = some f ∧ okName l = true ∧ a = ((a' : Nat) : Int) ∧ n = ((n' : Nat) : Int) ∧ a' + n' ≤ S.len f ∧ readB S l a n = ((S.file f).bytes.drop a').take n' ∧ (readB S l a n).length = n' := by
  have he' := he
  unfold readErr at he'
  obtain ⟨_, h1, h2, h3⟩ := all_zero4 he'
  obtain ⟨f, hf⟩ := none_some h2
  have hk := argErr_all h1 (okName l) (by simp)
  have ha := of_decide_eq_true (argErr_all h1 (decide (0 ≤ a)) (by simp))
  have hn := of_decide_eq_true (argErr_all h1 (decide (0 ≤ n)) (by simp))
  obtain ⟨a', rfl⟩ := Int.eq_ofNat_of_zero_le ha
  obtain ⟨n', rfl⟩ := Int.eq_ofNat_of_zero_le hn
  rw [hf] at h3
  have hle : a' + n' ≤ S.len f := by
    have h3 : shortErr (S.len f) (a' : Int) (n' : Int) = 0 := h3
    unfold shortErr at h3
    split at h3
    · omega
    · cases h3
  have hb : readB S l a' n' = ((S.file f).bytes.drop a').take n' := by unfold readB; rw [if_pos he, hf]; rfl
  refine ⟨f, a', n', hf, hk, rfl, rfl, hle, hb, ?_⟩
  rw [hb, List.length_take, List.length_drop]
  unfold St.len at hle
  omega
theorem readB_len (S : St) (l : List UInt8) (a n : Int) : (readB S l a n).length ≤ n.toNat := by
  by_cases he : readErr S l a n = 0
  · obtain ⟨f, a', n', _, _, _, h2, _, _, h⟩ := read_zero he; omega
  · unfold readB; rw [if_neg he]; exact Nat.zero_le _
theorem pread_any {w : World} {F : Nat → Prop} {d : Nat} {S : St} (h : Disk w F d S) (s : ByteArray) (hs : s.size ≤ 140737488355328) (a n : Int) (ha2 : a ≤ 9223372036854775807) :
    Calls Tryz.prog 17 #[dp d, .string s, .int .i64 a, .int .i64 n] w fun x w' => ∃ v, x = .returned (.tuple #[v, er (readErr S s.data.toList a n)]) ∧ w'.ownsRow w.heap.size 5 1 v (readB S s.data.toList a n).length ((readB S s.data.toList a n).map bv) ∧ Below w.heap.size w w' := by
  obtain ⟨pm, dm, val, hD⟩ := h
  by_cases he : readErr S s.data.toList a n = 0
  · obtain ⟨f, a', n', hf, hk, rfl, rfl, hle, hb, hlen⟩ := read_zero he
    rw [hlen, hb, he]
    exact read_ok hD s hs a' n' (by omega) (argErr_ok (by simp [hk])) hf hle
  · have hb : readB S s.data.toList a n = [] := if_neg he
    rw [hb]
    refine (read_fails _ s a n w hs 0 _ (match look S.pres s.data.toList with | some f => shortErr (S.len f) a n | none => 0) _ hD.gives (fun _ _ => hD.leads hs) (fun _ h1 h2 => ?_) rfl he).mono fun x w' ⟨hx, hb⟩ => ⟨.slice none 0 0, hx, World.ownsRow_nil _ _ _ _, hb⟩
    obtain ⟨f, hf⟩ := none_some h2
    have ha := of_decide_eq_true (argErr_all h1 (decide (0 ≤ a)) (by simp))
    have := hD.reach hs hf a n ha ha2
    rw [hf]; exact this
theorem rread_any {w : World} {G : Nat → Prop} {m : Nat} {S : St} (h : Rf w G m S) (s : ByteArray) (hs : s.size ≤ 140737488355328) (a n : Int) (ha2 : a ≤ 9223372036854775807) (ha3 : -9223372036854775808 ≤ a) :
    Calls Tryz.prog 18 #[dp m, .string s, .int .i64 a, .int .i64 n] w fun x w' => ∃ v, x = .returned (.tuple #[v, er (readErr S s.data.toList a n)]) ∧ w'.ownsRow w.heap.size 5 1 v (readB S s.data.toList a n).length ((readB S s.data.toList a n).map bv) ∧ Below w.heap.size w w' := by
  by_cases he : readErr S s.data.toList a n = 0
  · obtain ⟨f, a', n', hf, hk, rfl, rfl, hle, hb, hlen⟩ := read_zero he
    rw [hlen, hb, he]
    exact rread_ok h s hs hk a' n' hf hle
  · have hb : readB S s.data.toList a n = [] := if_neg he
    rw [hb]
    exact (rread_fails h s hs a n ha2 ha3 rfl he).mono fun x w' ⟨hx, hw⟩ => ⟨.slice none 0 0, hx, World.ownsRow_nil _ _ _ _, by rw [hw]; exact Below.refl _ _⟩
end Go.Proofs.YtbpdonnneleeeaaGreatDoor

namespace Go.Proofs.YtbpdonnneleeeaaGreatDoor
open Go.RowKit Go.Maps Go.Sort
set_option linter.unusedVariables false
set_option linter.unusedSectionVars false
set_option maxRecDepth 100000

theorem list_mem {S : St} (hD : DirOK S.pres) (hT : Tidy S.pres) (hN : Named S) : ∀ x ∈ S.list, ∃ f, look S.pres x = some f ∧ okName x = true ∧ x.length ≤ 16 := fun x hx => by
  have h1 : x ∈ strKeys S.pres := (List.mergeSort_perm _ _).mem_iff.1 hx
  have h2 := (key_look hD hT x).1 h1
  obtain ⟨f, hf⟩ := Option.isSome_iff_exists.1 h2
  have h3 := hN.1 x f hf
  refine ⟨f, hf, h3, ?_⟩
  unfold okName at h3
  exact (of_decide_eq_true (Bool.and_eq_true_iff.1 h3).1).2

set_option maxHeartbeats 4000000 in
theorem play_same {w : World} {F G : Nat → Prop} {d m : Nat} {S : St} (hF : Disk w F d S) (hG : Rf w G m S) (hN : Named S) :
    Calls Tryz.prog 27 #[dp d, dp m] w fun x w' => x = .returned (.bool true) ∧ Below w.heap.size w w' := by
  obtain ⟨pm, dm, val, hF⟩ := hF
  have HM := Lib.hid (list_mem hF.presOK hF.tidy hN)
  have HDO := Lib.hid hF.presOK; have HT := Lib.hid hF.tidy
  have HF := Lib.hid hF; have HG := Lib.hid hG
  obtain ⟨n, hn⟩ : ∃ n, S.list.length = n := ⟨_, rfl⟩
  have HNn := Lib.hid hn
  have hn62 : n ≤ 4611686018427387904 := by
    have hG2 := hG
    obtain ⟨R, ρ, A, n', c, L, A2, n2, c2, LS, fa, fk, h, h1, h2⟩ := hG2
    have h3 := h1.list hF.presOK hF.tidy
    have h4 : S.list.length = L.length := by rw [h3, List.length_map]
    have := h.few
    omega
  have hll : ((S.left : Int) != (S.left : Int)) = false := by simp
  clear hF hG hN hn
  go_enter Tryz.func27, Tryz.ntmps27
  go_wp2_with fail
  refine (list_ok HF.out).mono ?_
  rintro x w1 ⟨v, rfl, ho, hb1⟩
  rw [HNn.out] at ho
  obtain ⟨A, c, rfl, hnc, hcm, _⟩ := own_shape ho
  have HL : Hid (Lies w1 w1.heap.size 1 A n (S.list.map sv)) := Lies.of_own ho
  have HB1 := Lib.hid hb1
  clear ho hb1 hnc hcm
  go_wp2_with fail
  refine (rlist_ok (HG.out.below HB1.out) HDO.out HT.out).mono ?_
  rintro x w2 ⟨A2, c2, rfl, hl2, hb2⟩
  rw [HNn.out] at hl2 ⊢
  have HL2 := Lib.hid hl2; have HB2 := Lib.hid hb2
  clear hl2 hb2
  go_wp2_with fail
  refine (texts_any A A2 n n c c2 w2.heap.size S.list S.list w2 ((HL.out.below HB2.out).more HB2.out.size) HL2.out hn62).mono ?_
  rintro x w3 ⟨rfl, q, rfl⟩
  rw [sameT_self]
  have HB3 := Lib.hid ((HB1.out.trans (HB2.out.mono HB1.out.size)).trans ((below_q w2 q).mono (Nat.le_trans HB1.out.size HB2.out.size)))
  have HC3 : Hid (Below w1.heap.size w1 (w2.drewN q)) := HB2.out.trans ((below_q w2 q).mono HB2.out.size)
  generalize w2.drewN q = w3 at *
  go_wp2_with fail
  refine (left_ok (HF.out.below HB3.out)).mono ?_
  rintro x w4 ⟨rfl, hb4⟩
  have HB4 := Lib.hid (HB3.out.trans (hb4.mono HB3.out.size))
  have HC4 := Lib.hid (HC3.out.trans (hb4.mono HC3.out.size))
  clear hb4
  go_wp2_with fail
  refine (rleft_ok (HG.out.below HB4.out) HDO.out HT.out).mono ?_
  rintro x w5 ⟨rfl, rfl⟩
  go_wp2_with fail
  go_loopw [6] (fun i wr => ∃ k : Nat, k ≤ n ∧ i = .int .i64 (k : Int) ∧ Below w.heap.size w wr ∧ Below w1.heap.size w1 wr) (fun i _ => n - (intOf i).toNat)
  case atStart => exact ⟨0, Nat.zero_le _, rfl, HB4.out, HC4.out⟩
  case round =>
    obtain ⟨k, hk, rfl, hbw, hb1r⟩ := hrel
    have HBw := Lib.hid hbw; have HBr := Lib.hid hb1r
    clear hbw hb1r
    by_cases hlt : k < n
    · obtain ⟨b, o, x, rfl, hbb, hx, hc1⟩ := (HL.out.below HBr.out).text hlt
      obtain ⟨f, hf, hok, hx16⟩ := HM.out x (List.mem_of_getElem? hx)
      obtain ⟨z, hz⟩ : ∃ z : ByteArray, z = ⟨x.toArray⟩ := ⟨_, rfl⟩
      have hzd : z.data.toList = x := by rw [hz]
      have hzs : z.size ≤ 140737488355328 := by rw [hz]; show x.toArray.size ≤ _; simp; omega
      rw [← hz] at hc1
      rw [← hzd] at hf hok
      have hmx := (HF.out.files f (.inl ⟨_, hf⟩)).max
      obtain ⟨le, hle⟩ : ∃ le, S.len f = le := ⟨_, rfl⟩
      have hle20 : le ≤ 1048576 := by rw [← hle]; exact hmx
      have hlee : ((le : Int) != (le : Int)) = false := by simp
      have HSz : Hid (∀ W, Below w.heap.size w W → Calls Tryz.prog 28 #[dp d, .string z] W fun x w' => x = .returned (.tuple #[.int .i64 (le : Int), er 0]) ∧ Below W.heap.size W w') := fun W hW => by
        have := size_ok (HF.out.below hW) z hzs (argOK1 hok) hf; rw [hle] at this; exact this
      have HRz : Hid (∀ W, Below w.heap.size w W → Calls Tryz.prog 29 #[dp m, .string z] W fun x w' => x = .returned (.tuple #[.int .i64 (le : Int), er 0]) ∧ w' = W) := fun W hW => by
        have := rsize_ok (HG.out.below hW) z hzs hok hf; rw [hle] at this; exact this
      have hrd : (((S.file f).bytes.drop 0).take le) = (S.file f).bytes := by rw [List.drop_zero]; exact List.take_of_length_le (by have : (S.file f).bytes.length = le := hle; omega)
      have HRd : Hid (∀ W, Below w.heap.size w W → Calls Tryz.prog 17 #[dp d, .string z, .int .i64 0, .int .i64 (le : Int)] W fun x w' => ∃ v, x = .returned (.tuple #[v, er 0]) ∧ w'.ownsRow W.heap.size 5 1 v le ((S.file f).bytes.map bv) ∧ Below W.heap.size W w') := fun W hW => by
        have := read_ok (HF.out.below hW) z hzs 0 le (by omega) (argErr_ok (by simp [hok])) hf (by omega); rw [hrd] at this; exact this
      have HRr : Hid (∀ W, Below w.heap.size w W → Calls Tryz.prog 18 #[dp m, .string z, .int .i64 0, .int .i64 (le : Int)] W fun x w' => ∃ v, x = .returned (.tuple #[v, er 0]) ∧ w'.ownsRow W.heap.size 5 1 v le ((S.file f).bytes.map bv) ∧ Below W.heap.size W w') := fun W hW => by
        have := rread_ok (HG.out.below hW) z hzs hok 0 le hf (by omega); rw [hrd] at this; exact this
      have hblt : b < wr.heap.size := World.block_lt_of_cell? wr _ hc1
      have HCl : Hid (∀ W, Below wr.heap.size wr W → W.cell? ⟨b, o + k, none⟩ = some (.string z) ∧ Below w.heap.size w W ∧ Below w1.heap.size w1 W) := fun W hW => ⟨(hW.cell hblt).trans hc1, HBw.out.trans (hW.mono HBw.out.size), HBr.out.trans (hW.mono HBr.out.size)⟩
      clear hf hok hx16 hz hzd hzs hmx hle hrd hx hbb
      go_wp2_with fail
      refine (HSz.out _ HBw.out).mono ?_
      rintro x w6 ⟨rfl, hb6⟩
      have H6 := Lib.hid hb6
      obtain ⟨c6, b6, _⟩ := HCl.out w6 hb6
      clear hb6
      go_wp2_with fail
      refine (HRz.out _ b6).mono ?_
      rintro x w7 ⟨rfl, rfl⟩
      go_wp2_with fail
      refine (HRd.out _ b6).mono ?_
      rintro x w8 ⟨v8, rfl, ho8, hb8⟩
      obtain ⟨A8, c8, rfl, _⟩ := own_shape ho8
      have H8 := Lib.hid (H6.out.trans (hb8.mono H6.out.size))
      obtain ⟨c8', b8, _⟩ := HCl.out w8 H8.out
      have HL8 : Hid (Lies w8 w8.heap.size 1 A8 le ((S.file f).bytes.map bv)) := Lies.of_own ho8
      clear ho8 hb8
      go_wp2_with fail
      refine (HRr.out _ b8).mono ?_
      rintro x w9 ⟨v9, rfl, ho9, hb9⟩
      obtain ⟨A9, c9, rfl, _⟩ := own_shape ho9
      have H9 := Lib.hid (H8.out.trans (hb9.mono H8.out.size))
      have HS9 := Lib.hid (same_any A8 A9 le le c8 c9 w9.heap.size _ _ w9 ((HL8.out.below hb9).more hb9.size) (Lies.of_own ho9) (by omega))
      clear ho9 hb9
      go_wp2_with fail
      refine HS9.out.mono ?_
      rintro x w10 ⟨rfl, q, rfl⟩
      rw [sameB_self]
      obtain ⟨_, b10, b10'⟩ := HCl.out (w9.drewN q) (H9.out.trans ((below_q w9 q).mono H9.out.size))
      have HB10 := Lib.hid b10; have HB10' := Lib.hid b10'
      generalize w9.drewN q = w10 at *
      clear b10 b10' hc1
      go_wp2_with fail
      go_roundw
      case rel => exact ⟨k + 1, hlt, by go_num, HB10.out, HB10'.out⟩
      case measure => simp [intOf]; omega
    · obtain rfl : k = n := by omega
      go_wp2_with fail
      go_ret
      exact ⟨rfl, HBw.out⟩
end Go.Proofs.YtbpdonnneleeeaaGreatDoor

