/-
  Contracts of the document's own disk: New, Left, List, Rename.
-/
import Derived.Test.YtbpdonnneleeeaaGreatDoorRefZ2
import Derived.Test.YtbpdonnneleeeaaGreatDoorGrow
namespace Go.Proofs.YtbpdonnneleeeaaGreatDoor
open Go.RowKit Go.Maps Go.Sort
set_option linter.unusedVariables false
set_option linter.unusedSectionVars false
set_option maxRecDepth 100000

/-- what a row's files count for is what the directory's do -/
theorem Rep.tot {D : Dir} {L : NL} (h : Rep D L) (hD : DirOK D) (hT : Tidy D) (g : Nat → Nat) : (L.map fun e => g e.2).sum = tot D g := by
  obtain ⟨es, rfl, hp⟩ := id hT
  have hperm : (L.map fun e : List UInt8 × Nat => ((Lit.string e.1, (DataW.lit (.int .u64 (e.2 : Int)) : DataW Unit)))).Perm es := by
    refine (List.perm_ext_iff_of_nodup ?_ ?_).2 fun a => ?_
    · rw [List.Nodup, List.pairwise_map]
      refine List.Pairwise.imp (fun {a b} hab e => ?_) h.1
      injection e with e1 _; injection e1 with e1
      rw [e1] at hab; exact List.lt_irrefl _ hab
    · exact List.Pairwise.imp (fun {a b} hab e => hab (by rw [e])) hp
    · rw [List.mem_map]
      constructor
      · rintro ⟨e, he, rfl⟩
        have hl := (h.2 e.1 e.2).1 he
        unfold look at hl
        simp only [DataW.atKey] at hl
        cases hf : es.find? (fun p => p.1.sameKey (.string e.1)) with
        | none => rw [hf] at hl; cases hl
        | some p =>
          rw [hf] at hl
          have hpm := List.mem_of_find?_eq_some hf
          have hp1 := WideAt.sameKey_eq (List.find?_some (p := fun p : Lit × DataW Unit => p.1.sameKey (.string e.1)) hf)
          obtain ⟨k', b', q1, q2⟩ := hD p hpm
          have hb : blk p.2 = some e.2 := hl
          rw [q2] at hb
          have hb : some b' = some e.2 := hb
          injection hb with hb
          have hpe : p = (.string e.1, .lit (.int .u64 (e.2 : Int))) := by
            rw [← hb, ← q2, ← hp1]
          rw [← hpe]; exact hpm
      · intro ha
        obtain ⟨k, b, q1, q2, q3⟩ := ent_look (e := a) hD hT ha
        refine ⟨(k, b), (h.2 k b).2 q3, ?_⟩
        show (Lit.string k, (DataW.lit (.int .u64 (b : Int)) : DataW Unit)) = a
        rw [← q1, ← q2]
  have h1 := (hperm.map fun e => valE g e.2).sum_nat
  rw [List.map_map] at h1
  exact h1

theorem rnew_bad (n : Int) (w : World) (h : n < 1 ∨ 8388608 < n) : Calls Tryz.prog 7 #[.int .i64 n] w fun x w' => x = .returned (.tuple #[.pointer none, er 1]) ∧ w' = w := by
  by_cases h1 : n < 1
  · clear h
    go_enter Tryz.func7, Tryz.ntmps7
    go_wp2
    go_ret2
    exact ⟨rfl, rfl⟩
  · have h2 : 8388608 < n := h.resolve_left h1
    clear h
    go_enter Tryz.func7, Tryz.ntmps7
    go_wp2
    go_ret2
    exact ⟨rfl, rfl⟩
theorem rnew_ok (n : Nat) (w : World) (h1 : 1 ≤ n) (h2 : n ≤ 8388608) : Calls Tryz.prog 7 #[.int .i64 (n : Int)] w fun x w' => ∃ m, x = .returned (.tuple #[.pointer (some ⟨m, 0, none⟩), er 0]) ∧ Below w.heap.size w w' ∧ Rf w' (fun i => w.heap.size ≤ i ∧ i < w'.heap.size) m (St.new n) := by
  have HE : Hid (Rf (w.alloc (.cells #[.int .i64 (n : Int), .slice none 0 0, .slice none 0 0] 88)) (fun i => w.heap.size ≤ i ∧ i < (w.alloc (.cells #[.int .i64 (n : Int), .slice none 0 0, .slice none 0 0] 88)).heap.size) w.heap.size (St.new n)) := by
    have hs := alloc_size w (.cells #[.int .i64 (n : Int), .slice none 0 0, .slice none 0 0] 88)
    have hn := heap_alloc_new w (.cells #[.int .i64 (n : Int), .slice none 0 0, .slice none 0 0] 88)
    generalize w.alloc (.cells #[.int .i64 (n : Int), .slice none 0 0, .slice none 0 0] 88) = W at *
    have hlive : ∀ f, ¬ (St.new n).live f := by
      rintro f (⟨k, hk⟩ | ⟨k, hk⟩) <;> cases hk
    have hrep : Rep (.map []) ([] : NL) := ⟨List.Pairwise.nil, fun k f => ⟨(fun x => by cases x), (fun x => by cases x)⟩⟩
    exact ⟨fun _ => False, id, none, 0, 0, [], none, 0, 0, [], fun _ => none, fun _ => 0, ⟨hn, ⟨Nat.le_refl _, by omega⟩, LiesIn.nil, ⟨Nat.le_refl _, Nat.zero_le _⟩, LiesIn.nil, ⟨Nat.le_refl _, Nat.zero_le _⟩, fun e he => (by cases he), fun e he => (by cases he), fun f hf => absurd hf (hlive f), fun f g hf => absurd hf (hlive f), by decide, by decide, h2, fun i hi => hi.elim, fun i hi => hi.elim, fun i f hi => hi.elim, fun i hi => hi.2⟩, hrep, hrep⟩
  have i1 : ¬ (n : Int) < 1 := by omega
  have i2 : ¬ (8388608 : Int) < (n : Int) := by omega
  have HB : Hid (Below w.heap.size w (w.alloc (.cells #[.int .i64 (n : Int), .slice none 0 0, .slice none 0 0] 88))) := below_a (Below.refl _ _) _
  go_enter Tryz.func7, Tryz.ntmps7
  go_wp2
  go_ret2
  exact ⟨_, rfl, HB.out, HE.out⟩

def psum (S : St) (L : NL) (k : Nat) : Nat := ((L.take k).map fun e => S.len e.2).sum
def LfR (w : World) (S : St) (N n : Nat) (L : NL) (t i : Value) (wr : World) : Prop :=
  ∃ k p : Nat, k ≤ n ∧ i = .int .i64 (k : Int) ∧ t = .int .i64 ((N : Int) - (p : Int)) ∧ Hid (p = psum S L k) ∧ p ≤ k * 1048576 ∧ wr = w
set_option maxHeartbeats 2000000 in
theorem rleft_ok {w : World} {G : Nat → Prop} {m : Nat} {S : St} (h : Rf w G m S) (hD : DirOK S.pres) (hT : Tidy S.pres) :
    Calls Tryz.prog 31 #[.pointer (some ⟨m, 0, none⟩)] w fun x w' => x = .returned (.int .i64 (S.left : Int)) ∧ w' = w := by
  obtain ⟨R, ρ, A, n, c, L, A2, n2, c2, LS, fa, fk, h, h1, h2⟩ := h
  have c0 := h.c0
  have c1 := h.c1
  have hl70 : n ≤ 70 := by have := h.few; have := h.nlen; omega
  have HH := Lib.hid h
  have HN := Lib.hid h.nlen
  have HTot : Hid (psum S L n = tot S.pres S.len) := by
    show _ = _
    unfold psum
    rw [List.take_of_length_le (by rw [h.nlen]; exact Nat.le_refl _)]; exact h1.tot hD hT S.len
  have hhi := h.hi
  obtain ⟨N, hN⟩ : ∃ N, S.size = N := ⟨_, rfl⟩
  rw [hN] at c0 hhi
  have HSz := Lib.hid hN
  clear h h1 h2 hN
  go_enter Tryz.func31, Tryz.ntmps31
  go_wp2
  go_loopw [3, 4] (fun t i wr => LfR w S N n L t i wr) (fun _ i _ => n - (intOf i).toNat)
  case atStart => exact ⟨0, 0, Nat.zero_le _, rfl, by simp, rfl, Nat.zero_le _, rfl⟩
  case round =>
    obtain ⟨k, p, hk, rfl, rfl, HP, hp, rfl⟩ := hrel
    by_cases hlt : k < n
    · obtain ⟨b, o, e, rfl, _, he, q1, q2⟩ := pair_at HH.out.row hlt
      have hte := HH.out.ids e (List.mem_of_getElem? he)
      have hfile := HH.out.files e.2 hte
      have f0 := hfile.f0
      have hfl : (S.file e.2).bytes.length = S.len e.2 := rfl
      rw [hfl] at f0
      have hmx : S.len e.2 ≤ 1048576 := hfile.max
      have HP2 : Hid (p + S.len e.2 = psum S L (k + 1)) := by
        show _ = _
        rw [HP.out]
        unfold psum
        rw [List.take_add_one, he, List.map_append, List.sum_append]
        simp
      generalize S.len e.2 = le at *
      have hsub : (N : Int) - (p : Int) - (le : Int) = (N : Int) - ((p + le : Nat) : Int) := by omega
      have HSub := Lib.hid hsub
      clear he hte hfile hfl hsub
      go_wp2
      go_roundw
      case rel => exact ⟨k + 1, p + le, hlt, by go_num, by rw [HSub.out], HP2.out, by omega, rfl⟩
      case measure => simp [intOf]; omega
    · obtain rfl : n = k := by omega
      have HL : Hid (S.left = N - p) := by
        show S.size - tot S.pres S.len = _
        rw [HSz.out, HP.out, HTot.out]
      go_wp2
      go_ret
      exact ⟨by rw [HL.out]; show Ending.returned (.int .i64 (max 0 ((N : Int) - (p : Int)))) = _; congr 2; omega, rfl⟩

theorem rl_info : (Tryz.prog.info? 9).map (fun i => (i.zero, i.size, i.bytes)) = some (some (.string ByteArray.empty), 1, 16) := by kernel_rfl
def LsR (w : World) (L : NL) (n : Nat) (v i : Value) (wr : World) : Prop :=
  ∃ k : Nat, k ≤ n ∧ i = .int .i64 (k : Int) ∧ wr.ownsRow w.heap.size 9 1 v k ((L.take k).map fun e => sv e.1) ∧ Below w.heap.size w wr
set_option maxHeartbeats 2000000 in
theorem rlist_ok {w : World} {G : Nat → Prop} {m : Nat} {S : St} (h : Rf w G m S) (hD : DirOK S.pres) (hT : Tidy S.pres) :
    Calls Tryz.prog 62 #[.pointer (some ⟨m, 0, none⟩)] w fun x w' => ∃ A c, x = .returned (.slice A S.list.length c) ∧ Lies w' w'.heap.size 1 A S.list.length (S.list.map sv) ∧ Below w.heap.size w w' := by
  obtain ⟨i0, hi, hz0, hz1, hz2⟩ := info_parts rl_info
  obtain ⟨R, ρ, A, n, c, L, A2, n2, c2, LS, fa, fk, h, h1, h2⟩ := h
  have hl70 : n ≤ 70 := by have := h.few; have := h.nlen; omega
  have HH := Lib.hid h
  have HN := Lib.hid h.nlen
  have HLi := Lib.hid (h1.list hD hT)
  clear h h1 h2
  go_enter Tryz.func62, Tryz.ntmps62
  go_wp2
  go_loopw [3, 4] (fun v i wr => LsR w L n v i wr) (fun _ i _ => n - (intOf i).toNat)
  case atStart => exact ⟨0, Nat.zero_le _, rfl, ⟨rfl, .inl ⟨rfl, rfl⟩⟩, Below.refl _ _⟩
  case round =>
    obtain ⟨k, hk, rfl, hown, hbw⟩ := hrel
    have HBr := Lib.hid hbw; have HOwn := Lib.hid hown
    obtain ⟨A1, cc1, rfl, hnc1, hcm1, hA1⟩ := own_shape hown
    have HHr := Lib.hid (HH.out.below hbw)
    have c1 := HHr.out.c1
    clear hbw hown
    by_cases hlt : k < n
    · obtain ⟨b, o, e, hA, _, he, q1, q2⟩ := pair_at HHr.out.row hlt
      have HTk : Hid (L.take (k + 1) = L.take k ++ [e]) := by show _ = _; rw [List.take_add_one, he]; rfl
      rw [hA] at c1
      clear he
      go_wp2_with (at_builtin; refine wpList_app _ rfl (.tmp 14) (.tmp 23) 112 rfl w.heap.size 9 i0 _ 1 16 Tryz.underlying112 hi hz0 hz1 hz2 rfl (by decide) (.slice A1 k cc1) k ((L.take k).map fun e => sv e.1) rfl (HOwn.out.alloc _) (wr.heap.size + 1) (some ⟨wr.heap.size, 0, none⟩) 1 1 [sv e.1] rfl ?c1 ?c2 ?c3 ?c4 ?c5 ?_)
      case c1 => exact one_lies rfl _ _
      case c2 => intro u hu; simp at hu; subst hu; rfl
      case c3 => unfold maxLen; omega
      case c4 => omega
      case c5 => have := HBr.out.size; simp; omega
      intro v2 w9 hown2 hg2 _
      have HB9 : Hid (Below w.heap.size w w9) := (HBr.out.alloc HBr.out.size _).grown hg2 (by have := HBr.out.size; simp; omega) (fun j hj => (HOwn.out.lt j hj).1)
      have HO9 : Hid (w9.ownsRow w.heap.size 9 1 v2 (k + 1) ((L.take (k + 1)).map fun e => sv e.1)) := by show World.ownsRow _ _ _ _ _ _ _; rw [HTk.out, List.map_append]; simpa using hown2
      clear hown2 hg2
      go_wp2
      go_roundw
      case rel => exact ⟨k + 1, hlt, by go_num, HO9.out, HB9.out⟩
      case measure => simp [intOf]; omega
    · obtain rfl : n = k := by omega
      have HE : Hid (∃ A c, Ending.returned (Value.slice A1 n cc1) = .returned (.slice A S.list.length c) ∧ Lies wr wr.heap.size 1 A S.list.length (S.list.map sv) ∧ Below w.heap.size w wr) := by
        have h9 := HOwn.out
        rw [List.take_of_length_le (by rw [HN.out]; exact Nat.le_refl _)] at h9
        have e1 : S.list.length = n := by rw [HLi.out, List.length_map]; exact HN.out.symm
        refine ⟨A1, cc1, by rw [e1], ?_, HBr.out⟩
        rw [e1, HLi.out, List.map_map]
        exact Lies.of_own h9
      go_wp2
      go_ret
      exact HE.out
end Go.Proofs.YtbpdonnneleeeaaGreatDoor
