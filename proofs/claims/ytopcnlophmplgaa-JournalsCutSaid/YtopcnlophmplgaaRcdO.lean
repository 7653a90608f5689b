/-
  A list of byte lists of the call's own, each in memory of its own, and a byte list that is being made: what becomes of them when a list is put behind the others.
-/
import Derived.Test.YtopcnlophmplgaaRcd
import Derived.Test.YtopcnlophmplgaaWrote
namespace Go.Proofs.Ytopcnlophmplgaa
open Go.RowKit
set_option linter.unusedVariables false

theorem slice_info : (Try.prog.info? 33).map (fun i => (i.zero, i.size, i.bytes)) = some (some (.slice none 0 0), 1, 24) := by kernel_rfl
structure RecsAt (W : World) (base : Nat) (vr vb : Value) (rs : List Rcd) (bl : List UInt8) : Prop where
  row : W.ownsRow base 33 1 vr rs.length (rs.map Rcd.v)
  each : ∀ r ∈ rs, W.ownsRow base 5 1 r.v r.n (r.l.map bv)
  apart : rs.Pairwise fun r q => r.v.ownBlock = none ∨ r.v.ownBlock ≠ q.v.ownBlock
  cur : W.ownsRow base 5 1 vb bl.length (bl.map bv)
  curApart : ∀ r ∈ rs, vb.ownBlock = none ∨ r.v.ownBlock ≠ vb.ownBlock
/-- rows of unlike elements lie in unlike blocks -/
theorem rows_apart {W : World} {base base' e e' k k' n n' : Nat} {v v' : Value} {xs xs' : List Value} (h : W.ownsRow base e k v n xs) (h' : W.ownsRow base' e' k' v' n' xs') (hne : e ≠ e') : v.ownBlock = none ∨ v.ownBlock ≠ v'.ownBlock := by
  rcases h.2 with ⟨rfl, _⟩ | ⟨g, cap, cur, rfl, _, hh, _⟩
  · exact .inl rfl
  · refine .inr fun he => ?_
    rcases h'.2 with ⟨rfl, _⟩ | ⟨g', cap', cur', rfl, _, hh', _⟩
    · cases he
    · have : g = g' := by simpa [Value.ownBlock] using he
      subst this
      rw [hh] at hh'
      injection hh' with hh'
      injection hh' with _ hh'
      exact hne hh'
theorem RecsAt.keep {S : Nat → Prop} {A B : World} {base : Nat} {vr vb : Value} {rs : List Rcd} {bl : List UInt8} (h : RecsAt A base vr vb rs bl) (hw : Wrote S A B) (hs : ∀ i, S i → i < base) : RecsAt B base vr vb rs bl := by
  have hq : ∀ {e k n : Nat} {v : Value} {xs : List Value}, A.ownsRow base e k v n xs → B.ownsRow base e k v n xs := fun hr => hw.row hr fun g hg hS => by have := hs g hS; have := (hr.lt g hg).1; omega
  exact ⟨hq h.row, fun r hr => hq (h.each r hr), h.apart, hq h.cur, h.curApart⟩
/-- a byte list goes on -/
theorem RecsAt.app {W : World} {base : Nat} {vr vb : Value} {rs : List Rcd} {bl : List UInt8} (h : RecsAt W base vr vb rs bl) (hb : base ≤ W.heap.size) {B n c : Nat} {A : Option Addr} {d : List UInt8} (hd : Lies W B 1 A n (d.map bv)) (hlen : bl.length + n ≤ 1099511627776) :
    ∃ A1 c1 W1, (Builtin.append_ #[33, 33] 33 #[vb, .slice A n c]).run Try.prog W = .ok (.slice A1 (bl.length + n) c1) W1 ∧ Wrote (fun i => base ≤ i ∧ vb.ownBlock = some i) W W1 ∧
      RecsAt W1 base vr (.slice A1 (bl.length + n) c1) rs (bl ++ d) ∧ W.grownBy W1 vb.ownBlock := by
  obtain ⟨i0, hi, hz0, hz1, hz2⟩ := info_parts byte_info
  obtain ⟨v1, W1, hrun, hown, hg, hblk⟩ := run_app (P := Try.prog) W base 33 33 5 i0 _ 1 1 Try.underlying33 hi hz0 hz1 hz2 rfl (by decide) vb bl.length (bl.map bv) h.cur B A n c (d.map bv) hd (bv_one _) (by unfold maxLen; omega) (by omega) hb
  obtain ⟨A1, c1, rfl, _, _, _⟩ := own_shape hown
  have hdn := hd.blen
  refine ⟨A1, c1, W1, hrun, (Wrote.grown hg).mono (fun i _ hs => ⟨(h.cur.lt i hs).1, hs⟩), ⟨?_, ?_, h.apart, ?_, ?_⟩, hg⟩
  · refine h.row.kept hg ?_
    exact rows_apart h.row h.cur (by decide)
  · intro r hr
    refine (h.each r hr).kept hg ?_
    rcases h.curApart r hr with e | e
    · rw [e]
      cases r.v.ownBlock with
      | none => exact .inl rfl
      | some g => exact .inr (by simp)
    · exact .inr e
  · rw [List.length_append, hdn, List.map_append]; exact hown
  · intro r hr
    rcases hblk with e | e
    · rw [e]; exact h.curApart r hr
    · refine .inr fun e2 => ?_
      rw [e] at e2
      have := (h.each r hr).lt _ e2
      omega
/-- the byte list is put behind the others -/
theorem RecsAt.push {W : World} {base : Nat} {vr : Value} {A1 : Option Addr} {m c1 : Nat} {rs : List Rcd} {bl : List UInt8} (h : RecsAt W base vr (.slice A1 m c1) rs bl) (hm : bl.length = m) (hb : base ≤ W.heap.size) (hlen : rs.length ≤ 1073741824) :
    ∃ Ar cr W2, (Builtin.append_ #[22, 22] 22 #[vr, .slice (some ⟨W.heap.size, 0, none⟩) 1 1]).run Try.prog (W.alloc (.cells #[.slice A1 m c1] 33)) = .ok (.slice Ar (rs.length + 1) cr) W2 ∧ Wrote (fun i => base ≤ i ∧ vr.ownBlock = some i) W W2 ∧
      RecsAt W2 base (.slice Ar (rs.length + 1) cr) (.slice none 0 0) (rs ++ [⟨A1, m, c1, bl⟩]) [] := by
  subst hm
  obtain ⟨i0, hi, hz0, hz1, hz2⟩ := info_parts slice_info
  have hl := one_lies (w := W) rfl (.slice A1 bl.length c1) 33
  have hrow := h.row.alloc (.cells #[.slice A1 bl.length c1] 33)
  obtain ⟨v1, W2, hrun, hown, hg, hblk⟩ := run_app (P := Try.prog) (W.alloc (.cells #[.slice A1 bl.length c1] 33)) base 22 22 33 i0 _ 1 24 Try.underlying22 hi hz0 hz1 hz2 rfl (by decide) vr rs.length (rs.map Rcd.v) hrow _ _ 1 1 _ hl
    (by intro u hu; simp only [List.mem_singleton] at hu; subst hu; rfl) (by unfold maxLen; omega) (by omega) (by simp; omega)
  obtain ⟨Ar, cr, rfl, _, _, _⟩ := own_shape hown
  have hwr : Wrote (fun i => base ≤ i ∧ vr.ownBlock = some i) W W2 :=
    ((Wrote.refl _ W).alloc _).trans ((Wrote.grown hg).mono (fun i _ hs => ⟨(hrow.lt i hs).1, hs⟩))
  have hap : ∀ {n : Nat} {v : Value} {xs : List Value}, W.ownsRow base 5 1 v n xs → W2.ownsRow base 5 1 v n xs := fun hr => hwr.row hr fun g hgg ⟨_, hv⟩ => by
    rcases rows_apart hr h.row (by decide) with e | e
    · rw [e] at hgg; cases hgg
    · exact e (hgg.trans hv.symm)
  refine ⟨Ar, cr, W2, hrun, hwr, ⟨?_, ?_, ?_, ⟨rfl, .inl ⟨rfl, rfl⟩⟩, fun r _ => .inl rfl⟩⟩
  · rw [List.length_append, List.map_append]; exact hown
  · intro r hr
    rcases List.mem_append.1 hr with hr | hr
    · exact hap (h.each r hr)
    · rw [List.mem_singleton] at hr
      subst hr
      exact hap h.cur
  · refine List.pairwise_append.2 ⟨h.apart, List.pairwise_singleton _ _, ?_⟩
    intro r hr q hq
    rw [List.mem_singleton] at hq
    subst hq
    rcases h.curApart r hr with e | e
    · show r.v.ownBlock = none ∨ r.v.ownBlock ≠ (Value.slice A1 bl.length c1).ownBlock
      rw [e]
      cases r.v.ownBlock with
      | none => exact .inl rfl
      | some g => exact .inr (by simp)
    · exact .inr e
end Go.Proofs.Ytopcnlophmplgaa
