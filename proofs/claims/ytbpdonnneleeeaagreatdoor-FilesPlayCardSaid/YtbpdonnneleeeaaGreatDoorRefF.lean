/-
  Contract of the document's own Fail.
-/
import Derived.Test.YtbpdonnneleeeaaGreatDoorRefZ3
import Derived.Deep.RegionLaw
namespace Go.Proofs.YtbpdonnneleeeaaGreatDoor
open Go.RowKit Go.Maps Go.Sort
set_option linter.unusedVariables false
set_option linter.unusedSectionVars false
set_option maxRecDepth 100000

theorem run_headU (w : World) (A : Option Addr) (n c h : Nat) (h3 : h ≤ c) :
    (Instr.slice 46 (.slice A n c) none (some (.int .i64 (h : Int))) none).run Tryz.prog w = .ok (.slice A h c) w := by
  obtain ⟨i0, hi, hz0, hz1, hz2⟩ := info_parts byte_info
  unfold Instr.slice
  simp [run_underlying Tryz.underlying46, Instr.sliceBounds, Instr.sliceBound, asIntOf, sizeOf, typeInfo, hi, h3]
  cases A <;> simp [Addr.add]
/-- what is left of a disk, as far as its names have come -/
structure FI (w wr : World) (mo N : Nat) (S' : St) (L' : NL) (k : Nat) (ρ : Nat → Nat) (RB : Nat → Prop) (A : Option Addr) (c : Nat) (fa : Nat → Option Addr) (fk : Nat → Nat) : Prop where
  below : Below w.heap.size w wr
  mo_ : w.heap.size ≤ mo
  box : wr.heap[mo]? = some (.cells #[.int .i64 (N : Int), .slice A k c, .slice none 0 0] 88 (0, 0))
  own : wr.ownsRow w.heap.size 106 2 (.slice A k c) k (rowOf ρ (L'.take k))
  files : ∀ e ∈ L'.take k, RFile wr (fun i => w.heap.size ≤ i ∧ i < wr.heap.size) RB (ρ e.2) (S'.file e.2) (fa e.2) (fk e.2)
  rb : ∀ i, RB i → w.heap.size ≤ i ∧ i < wr.heap.size ∧ i ≠ mo ∧ (Value.slice A k c).ownBlock ≠ some i ∧ ∀ e ∈ L'.take k, i ≠ ρ e.2
  inj : ∀ e ∈ L'.take k, ∀ e' ∈ L'.take k, ρ e.2 = ρ e'.2 → e.2 = e'.2
def FlRel (w : World) (mo N : Nat) (S' : St) (L' : NL) (n : Nat) (i : Value) (wr : World) : Prop :=
  ∃ k ρ RB A c fa fk, k ≤ n ∧ i = .int .i64 (k : Int) ∧ FI w wr mo N S' L' k ρ RB A c fa fk

/-- one name more -/
theorem FI.step {w wr w1 w4 w5 : World} {mo N k : Nat} {S' : St} {L' : NL} {ρ : Nat → Nat} {RB : Nat → Prop} {A A1 A2 : Option Addr} {c c1 c2 : Nat} {fa : Nat → Option Addr} {fk : Nat → Nat} (h : FI w wr mo N S' L' k ρ RB A c fa fk) {e : List UInt8 × Nat} (he : L'[k]? = some e) (hnew : ∀ x ∈ L'.take k, x.2 ≠ e.2)
    {sz : Nat} (hsz : sz = (S'.file e.2).bytes.length) (hsure : (S'.file e.2).sure = sz) (hmx : sz ≤ 1048576) (hb1 : Below wr.heap.size wr w1) (ho1 : w1.ownsRow wr.heap.size 5 1 (.slice A1 sz c1) sz ((S'.file e.2).bytes.map bv))
    (hg : ((w1.alloc (.cells #[.slice A1 sz c1, .int .i64 (sz : Int)] 103)).alloc (.cells (ent (upd ρ e.2 w1.heap.size) e).toArray 106)).grownBy w4 (Value.slice A k c).ownBlock) (ho4 : w4.ownsRow w.heap.size 106 2 (.slice A2 (k + 1) c2) (k + 1) (rowOf ρ (L'.take k) ++ ent (upd ρ e.2 w1.heap.size) e))
    (hv : (Value.slice A2 (k + 1) c2).ownBlock = (Value.slice A k c).ownBlock ∨ (Value.slice A2 (k + 1) c2).ownBlock = some ((w1.alloc (.cells #[.slice A1 sz c1, .int .i64 (sz : Int)] 103)).alloc (.cells (ent (upd ρ e.2 w1.heap.size) e).toArray 106)).heap.size) (hw : w5 = w4.setCell ⟨mo, 1, none⟩ (.slice A2 (k + 1) c2)) :
    FI w w5 mo N S' L' (k + 1) (upd ρ e.2 w1.heap.size) (andOwn RB (.slice A1 sz c1)) A2 c2 (upd fa e.2 A1) (upd fk e.2 c1) := by
  have s1 := alloc_size w1 (.cells #[.slice A1 sz c1, .int .i64 (sz : Int)] 103)
  have n1 := heap_alloc_new w1 (.cells #[.slice A1 sz c1, .int .i64 (sz : Int)] 103)
  have b2 : Below w1.heap.size w1 (w1.alloc (.cells #[.slice A1 sz c1, .int .i64 (sz : Int)] 103)) := below_a (Below.refl _ _) _
  generalize w1.alloc (.cells #[.slice A1 sz c1, .int .i64 (sz : Int)] 103) = w2 at *
  have s2 := alloc_size w2 (.cells (ent (upd ρ e.2 w1.heap.size) e).toArray 106)
  have b3 : Below w2.heap.size w2 (w2.alloc (.cells (ent (upd ρ e.2 w1.heap.size) e).toArray 106)) := below_a (Below.refl _ _) _
  generalize w2.alloc (.cells (ent (upd ρ e.2 w1.heap.size) e).toArray 106) = w3 at *
  have t1 := hb1.size
  have t4 := hg.size
  have hwB := h.below.size
  have hmo : mo < wr.heap.size := (Array.getElem?_eq_some_iff.1 h.box).1
  have hrow := h.own.lt
  have hx5 : ∀ i, i ≠ mo → w5.heap[i]? = w4.heap[i]? := fun i hi => by rw [hw]; exact Below.heap_setCell _ _ _ _ hi
  have hz5 : w5.heap.size = w4.heap.size := by rw [hw]; simp [World.setCell]
  have hx4 : ∀ i, i < w1.heap.size → some i ≠ (Value.slice A k c).ownBlock → w4.heap[i]? = w1.heap[i]? := fun i hi hne => (hg.block i (by omega) hne).trans ((b3.block i (by omega)).trans (b2.block i hi))
  have hxr : ∀ i, i < wr.heap.size → some i ≠ (Value.slice A k c).ownBlock → w4.heap[i]? = wr.heap[i]? := fun i hi hne => (hx4 i (by omega) hne).trans (hb1.block i hi)
  have hmorow : some mo ≠ (Value.slice A k c).ownBlock := fun x => by
    rcases h.own.2 with ⟨hv, _⟩ | ⟨g, cap, cur, hv, _, hh, _⟩
    · rw [hv] at x; cases x
    · rw [hv] at x; injection x with x; have x : mo = g := x
      rw [← x, h.box] at hh; injection hh with hh; injection hh with _ hh; exact absurd hh (by decide)
  have hfrow : ∀ x ∈ L'.take k, some (ρ x.2) ≠ (Value.slice A k c).ownBlock := fun x hx y => by
    rcases h.own.2 with ⟨hv, _⟩ | ⟨g, cap, cur, hv, _, hh, _⟩
    · rw [hv] at y; cases y
    · rw [hv] at y; injection y with y; have y : ρ x.2 = g := y
      rw [← y, (h.files x hx).cells] at hh; injection hh with hh; injection hh with _ hh; exact absurd hh (by decide)
  have hfmo : ∀ x ∈ L'.take k, ρ x.2 ≠ mo := fun x hx y => by
    have h1 := (h.files x hx).cells
    rw [y, h.box] at h1; injection h1 with h1; injection h1 with _ h1; exact absurd h1 (by decide)
  have hlt : ∀ x ∈ L'.take k, ρ x.2 < wr.heap.size := fun x hx => (h.files x hx).mem.2
  have htk : L'.take (k + 1) = L'.take k ++ [e] := by rw [List.take_add_one, he]; rfl
  have hmem : ∀ x, x ∈ L'.take (k + 1) → x ∈ L'.take k ∨ x = e := fun x hx => by
    rw [htk] at hx
    rcases List.mem_append.1 hx with hx | hx
    · exact .inl hx
    · exact .inr (List.mem_singleton.1 hx)
  have hup : ∀ x ∈ L'.take k, upd ρ e.2 w1.heap.size x.2 = ρ x.2 := fun x hx => upd_other _ _ (hnew x hx)
  have hb04 : Below w.heap.size w w4 := by
    refine ⟨?_, ?_, ?_, by omega, fun i hi => ?_⟩
    · rw [hg.os, b3.os, b2.os, hb1.os]; exact h.below.os
    · rw [hg.tape, b3.tape, b2.tape, hb1.tape]; exact h.below.tape
    · rw [hg.output, b3.output, b2.output, hb1.output]; exact h.below.output
    · exact (hxr i (by omega) (fun x => by have := (hrow i x.symm).1; omega)).trans (h.below.block i hi)
  have hown1 := ho1.lt
  obtain ⟨_, _, eo, hnc1, hcm1, _⟩ := own_shape ho1
  injection eo with eo1 eo2 eo3
  subst eo3
  have hown1' : ∀ i, (Value.slice A1 sz c1).ownBlock = some i → wr.heap.size ≤ i ∧ i < w1.heap.size := fun i hi => hown1 i hi
  have hrowlt : ∀ i, (Value.slice A k c).ownBlock = some i → i < wr.heap.size := fun i hi => (hrow i hi).2
  have hbox4 : w4.heap[mo]? = some (.cells #[.int .i64 (N : Int), .slice A k c, .slice none 0 0] 88 (0, 0)) := (hxr mo hmo hmorow).trans h.box
  have hcell1 : w5.heap[w1.heap.size]? = some (.cells #[.slice A1 sz c1, .int .i64 (sz : Int)] 103 (0, 0)) := by
    rw [hx5 _ (by omega), hg.block _ (by omega) (fun x => by have := hrowlt _ x.symm; omega), b3.block _ (by omega)]
    exact n1
  have hRB : ∀ i, andOwn RB (.slice A1 sz c1) i → w5.heap[i]? = w1.heap[i]? := fun i hi => by
    rcases hi with hi | hi
    · have h1 := h.rb i hi
      exact (hx5 i h1.2.2.1).trans (hx4 i (by omega) (fun x => h1.2.2.2.1 x.symm))
    · have h1 := hown1' i hi
      exact (hx5 i (by omega)).trans (hx4 i h1.2 (fun x => by have := hrowlt i x.symm; omega))
  refine ⟨?_, h.mo_, ?_, ?_, ?_, ?_, ?_⟩
  · exact ⟨by rw [hw]; exact hb04.os, by rw [hw]; exact hb04.tape, by rw [hw]; exact hb04.output, by have := hb04.size; omega, fun i hi => (hx5 i (by have := h.mo_; omega)).trans (hb04.block i hi)⟩
  · rw [hw]; exact rbox_set hbox4
  · have e1 : rowOf ρ (L'.take k) ++ ent (upd ρ e.2 w1.heap.size) e = rowOf (upd ρ e.2 w1.heap.size) (L'.take (k + 1)) := by
      rw [htk, rowOf_app, rowOf_congr fun x hx => (hup x hx).symm]
      congr 1
    rw [e1] at ho4
    have hne : ∀ g, (Value.slice A2 (k + 1) c2).ownBlock = some g → g ≠ mo := fun g hg2 => by
      rcases hv with hv | hv
      · intro x; exact hmorow (by rw [← x, ← hg2, hv])
      · rw [hv] at hg2; injection hg2 with hg2; omega
    refine ⟨ho4.1, ?_⟩
    rcases ho4.2 with h2 | ⟨g, cap, cur, hv2, hg2, hh, r⟩
    · exact .inl h2
    · exact .inr ⟨g, cap, cur, hv2, hg2, (hx5 g (hne g (by rw [hv2]; rfl))).trans hh, r⟩
  · intro x hx
    rcases hmem x hx with hx | rfl
    · rw [hup x hx, upd_other _ _ (hnew x hx), upd_other _ _ (hnew x hx)]
      have hf := h.files x hx
      refine ⟨⟨hf.mem.1, by have := hf.mem.2; omega⟩, (hx5 _ (hfmo x hx)).trans ((hxr _ (hlt x hx) (hfrow x hx)).trans hf.cells), ?_, hf.cap, hf.sure, hf.max⟩
      refine ((hf.lies.keep (w' := w5) fun i hi => ?_).mono fun i hi => .inl hi)
      have h1 := h.rb i hi
      rw [hRB i (.inl hi)]; exact hb1.block i h1.2.1
    · rw [upd_same, upd_same, upd_same]
      refine ⟨⟨by omega, by omega⟩, ?_, ?_, ?_, ?_, ?_⟩
      · rw [← hsz, hsure]; exact hcell1
      · rw [← hsz]
        exact (LiesIn.of_own (G := andOwn RB (.slice A1 sz c1)) ho1 fun g hg => .inr hg).keep hRB
      · rw [← hsz]; exact ⟨hnc1, hcm1⟩
      · rw [← hsz, hsure]; exact Nat.le_refl _
      · rw [← hsz]; exact hmx
  · intro i hi
    have hA2 : (Value.slice A2 (k + 1) c2).ownBlock = some i → (Value.slice A k c).ownBlock = some i ∨ i = w3.heap.size := fun x => by
      rcases hv with hv | hv
      · rw [hv] at x; exact .inl x
      · rw [hv] at x; injection x with x; exact .inr x.symm
    rcases hi with hi | hi
    · have h1 := h.rb i hi
      refine ⟨h1.1, by omega, h1.2.2.1, fun x => ?_, fun x hx => ?_⟩
      · rcases hA2 x with x | x
        · exact h1.2.2.2.1 x
        · omega
      · rcases hmem x hx with hx | rfl
        · rw [hup x hx]; exact h1.2.2.2.2 x hx
        · rw [upd_same]; omega
    · have h1 := hown1' i hi
      refine ⟨by omega, by omega, by omega, fun x => ?_, fun x hx => ?_⟩
      · rcases hA2 x with x | x
        · have := hrowlt i x; omega
        · omega
      · rcases hmem x hx with hx | rfl
        · rw [hup x hx]; have := hlt x hx; omega
        · rw [upd_same]; omega
  · intro x hx y hy hxy
    rcases hmem x hx with hx | rfl
    · rcases hmem y hy with hy | rfl
      · rw [hup x hx, hup y hy] at hxy; exact h.inj x hx y hy hxy
      · rw [hup x hx, upd_same] at hxy; have := hlt x hx; omega
    · rcases hmem y hy with hy | rfl
      · rw [upd_same, hup y hy] at hxy; have := hlt y hy; omega
      · rfl


/-- the names of a row, with what is left of their files -/
def leftRow (S' : St) (L : NL) : NL := L.map fun e => (e.1, (look S'.pres e.1).getD 0)
theorem leftRow_rep {S S' : St} {D : Dir} {keep : Nat} {L : NL} (h : FailSpec S D keep S') (hr : Rep D L) : Rep S'.pres (leftRow S' L) := by
  refine ⟨?_, fun k b => ?_⟩
  · show ((L.map fun e => (e.1, (look S'.pres e.1).getD 0)) : NL).Pairwise _
    rw [List.pairwise_map]; exact hr.1
  · unfold leftRow
    rw [List.mem_map]
    constructor
    · rintro ⟨e, he, hx⟩
      injection hx with h1 h2
      obtain ⟨b', hb, _⟩ := (h.2.2 e.1).2 e.2 ((hr.2 e.1 e.2).1 he)
      rw [← h1, hb]
      rw [hb] at h2
      exact congrArg some h2
    · intro hk
      cases hd : look D k with
      | none => rw [(h.2.2 k).1 hd] at hk; cases hk
      | some f => exact ⟨(k, f), (hr.2 k f).2 hd, by rw [hk]; rfl⟩
theorem leftRow_at {S S' : St} {D : Dir} {keep : Nat} {L : NL} (h : FailSpec S D keep S') (hr : Rep D L) {i : Nat} {e : List UInt8 × Nat} (he : L[i]? = some e) : ∃ b, (leftRow S' L)[i]? = some (e.1, b) ∧ look S'.pres e.1 = some b ∧ S'.file b = cutC keep (S.file e.2) := by
  obtain ⟨b, hb, hc⟩ := (h.2.2 e.1).2 e.2 ((hr.2 e.1 e.2).1 (List.mem_of_getElem? he))
  refine ⟨b, ?_, hb, hc⟩
  unfold leftRow
  rw [List.getElem?_map, he, Option.map_some, hb]; rfl
/-- when all names have come -/
theorem FI.done {w wr : World} {mo N n : Nat} {S' : St} {L' : NL} {ρ : Nat → Nat} {RB : Nat → Prop} {A : Option Addr} {c : Nat} {fa : Nat → Option Addr} {fk : Nat → Nat} (h : FI w wr mo N S' L' n ρ RB A c fa fk) (hn : L'.length = n) (hr : Rep S'.pres L') (h70 : n ≤ 70) (hN : S'.size = N) (hhi : N ≤ 8388608) :
    Rf wr (fun i => w.heap.size ≤ i ∧ i < wr.heap.size) mo { S' with dur := .map [] } := by
  have ht : L'.take n = L' := List.take_of_length_le (by omega)
  have hown := h.own
  have hfiles := h.files
  have hrb := h.rb
  have hinj := h.inj
  rw [ht] at hown hfiles hrb hinj
  obtain ⟨_, _, eo, hnc, hcm, _⟩ := own_shape hown
  injection eo with _ _ eo
  subst eo
  have hrow := hown.lt
  have hmo : mo < wr.heap.size := (Array.getElem?_eq_some_iff.1 h.box).1
  have hlive : ∀ f, St.live { S' with dur := .map [] } f → ∃ k, (k, f) ∈ L' := by
    rintro f (⟨k, hk⟩ | ⟨k, hk⟩)
    · exact ⟨k, (hr.2 k f).2 hk⟩
    · cases hk
  have hmorow : ∀ i, (Value.slice A n c).ownBlock = some i → i ≠ mo := fun i hi x => by
    rcases hown.2 with ⟨hv, _⟩ | ⟨g, cap, cur, hv, _, hh, _⟩
    · rw [hv] at hi; cases hi
    · rw [hv] at hi; injection hi with hi; have hi : g = i := hi
      rw [hi, x, h.box] at hh; injection hh with hh; injection hh with _ hh; exact absurd hh (by decide)
  refine ⟨andOwn RB (.slice A n c), ρ, A, n, c, L', none, 0, 0, [], fa, fk, ⟨?_, ⟨h.mo_, hmo⟩, LiesIn.of_own hown fun g hg => .inr hg, ⟨hnc, hcm⟩, LiesIn.nil, ⟨Nat.le_refl _, Nat.zero_le _⟩, ?_, fun e he => (by cases he), ?_, ?_, by omega, by decide, by show S'.size ≤ _; omega, ?_, ?_, ?_, fun i hi => hi.2⟩, hr, ⟨List.Pairwise.nil, fun k f => ⟨(fun x => by cases x), (fun x => by cases x)⟩⟩⟩
  · show _ = some (Obj.cells #[.int .i64 (S'.size : Int), _, _] _ _); rw [hN]; exact h.box
  · exact fun e he => .inl ⟨e.1, (hr.2 e.1 e.2).1 he⟩
  · intro f hf
    obtain ⟨k, hk⟩ := hlive f hf
    exact (hfiles (k, f) hk).mono (fun i hi => hi) (fun i hi => .inl hi)
  · intro f g hf hg hfg
    obtain ⟨k, hk⟩ := hlive f hf
    obtain ⟨k', hk'⟩ := hlive g hg
    exact hinj (k, f) hk (k', g) hk' hfg
  · intro i hi
    rcases hi with hi | hi
    · have := hrb i hi; exact ⟨this.1, this.2.1⟩
    · exact hrow i hi
  · intro i hi
    rcases hi with hi | hi
    · exact (hrb i hi).2.2.1
    · exact hmorow i hi
  · intro i f hi hf x
    obtain ⟨k, hk⟩ := hlive f hf
    rcases hi with hi | hi
    · exact (hrb i hi).2.2.2.2 (k, f) hk x
    · rcases hown.2 with ⟨hv, _⟩ | ⟨g, cap, cur, hv, _, hh, _⟩
      · rw [hv] at hi; cases hi
      · rw [hv] at hi; injection hi with hi; have hi : g = i := hi
        rw [hi, x, (hfiles (k, f) hk).cells] at hh; injection hh with hh; injection hh with _ hh; exact absurd hh (by decide)

theorem FI.keep {w wr wr' : World} {mo N k : Nat} {S' : St} {L' : NL} {ρ : Nat → Nat} {RB : Nat → Prop} {A : Option Addr} {c : Nat} {fa : Nat → Option Addr} {fk : Nat → Nat} (h : FI w wr mo N S' L' k ρ RB A c fa fk) (hb : Below wr.heap.size wr wr') : FI w wr' mo N S' L' k ρ RB A c fa fk :=
  ⟨h.below.trans (hb.mono h.below.size), h.mo_, (hb.block mo (Array.getElem?_eq_some_iff.1 h.box).1).trans h.box, own_below h.own hb, fun e he => by
    have hf := h.files e he
    exact ⟨⟨hf.mem.1, Nat.lt_of_lt_of_le hf.mem.2 hb.size⟩, (hb.block _ hf.mem.2).trans hf.cells, hf.lies.keep fun i hi => hb.block i (h.rb i hi).2.1, hf.cap, hf.sure, hf.max⟩,
  fun i hi => ⟨(h.rb i hi).1, Nat.lt_of_lt_of_le (h.rb i hi).2.1 hb.size, (h.rb i hi).2.2.1, (h.rb i hi).2.2.2.1, (h.rb i hi).2.2.2.2⟩, h.inj⟩
theorem box_grown {w3 w4 : World} {mo : Nat} {o o1 o2 : Obj} {row : Option Nat} (h : w3.heap[mo]? = some o) (hg : ((w3.alloc o1).alloc o2).grownBy w4 row) (hn : some mo ≠ row) : w4.heap[mo]? = some o := by
  have hlt := (Array.getElem?_eq_some_iff.1 h).1
  have e1 := alloc_size w3 o1
  have e2 := alloc_size (w3.alloc o1) o2
  exact (hg.block mo (by omega) hn).trans ((Below.heap_alloc _ _ _ (by omega)).trans ((Below.heap_alloc _ _ _ hlt).trans h))
theorem file_lies {w3 : World} {k : List UInt8} {z : ByteArray} {A1 : Option Addr} {nn cc1 : Nat} (hz : sv k = .string z) : Lies ((w3.alloc (.cells #[.slice A1 nn cc1, .int .i64 (nn : Int)] 103)).alloc (.cells #[.string z, fp w3.heap.size] 106)) (w3.heap.size + 1 + 1) 2 (some ⟨w3.heap.size + 1, 0, none⟩) 1 [.string z, fp w3.heap.size] := by
  have := ent_lies (w3.alloc (.cells #[.slice A1 nn cc1, .int .i64 (nn : Int)] 103)) (fun _ => w3.heap.size) (k, 0) (w3.heap.size + 1) (alloc_size _ _).symm
  unfold ent at this
  simp only [hz] at this
  exact this
/-- one name more, as the walk has it -/
theorem FI.step2 {w wr w1 w4 : World} {mo N k : Nat} {S' : St} {L' : NL} {ρ : Nat → Nat} {RB : Nat → Prop} {A A1 A2 : Option Addr} {c c1 c2 : Nat} {fa : Nat → Option Addr} {fk : Nat → Nat} (h : FI w wr mo N S' L' k ρ RB A c fa fk) {key : List UInt8} {b' : Nat} {z : ByteArray} (hz : sv key = .string z) (he : L'[k]? = some (key, b')) (hnew : ∀ x ∈ L'.take k, x.2 ≠ b')
    {sz : Nat} {by' : List UInt8} (hsz : sz = (S'.file b').bytes.length) (hby : (S'.file b').bytes = by' ∧ (S'.file b').sure = sz) (hmx : sz ≤ 1048576) (hb1 : Below wr.heap.size wr w1) (ho1 : w1.ownsRow wr.heap.size 5 1 (.slice A1 sz c1) sz (by'.map bv))
    (hg : ((w1.alloc (.cells #[.slice A1 sz c1, .int .i64 (sz : Int)] 103)).alloc (.cells #[.string z, fp w1.heap.size] 106)).grownBy w4 (Value.slice A k c).ownBlock) (ho4 : w4.ownsRow w.heap.size 106 2 (.slice A2 (k + 1) c2) (k + 1) (rowOf ρ (L'.take k) ++ [.string z, fp w1.heap.size]))
    (hv : (Value.slice A2 (k + 1) c2).ownBlock = (Value.slice A k c).ownBlock ∨ (Value.slice A2 (k + 1) c2).ownBlock = some ((w1.alloc (.cells #[.slice A1 sz c1, .int .i64 (sz : Int)] 103)).alloc (.cells #[.string z, fp w1.heap.size] 106)).heap.size) :
    FI w (w4.setCell ⟨mo, 1, none⟩ (.slice A2 (k + 1) c2)) mo N S' L' (k + 1) (upd ρ b' w1.heap.size) (andOwn RB (.slice A1 sz c1)) A2 c2 (upd fa b' A1) (upd fk b' c1) := by
  have hent : ent (upd ρ b' w1.heap.size) (key, b') = [.string z, fp w1.heap.size] := by unfold ent; simp only [upd_same, hz]
  exact FI.step h (e := (key, b')) he hnew hsz hby.2 hmx hb1 (by rw [hby.1]; exact ho1) (by rw [hent]; exact hg) (by rw [hent]; exact ho4) (by rw [hent]; exact hv) rfl
theorem names_dur {S' : St} (h : S'.dur = S'.pres) : St.names { S' with dur := .map [] } = S' := by
  cases S'; simp only [St.names] at h ⊢; subst h; rfl
theorem rfail_bad {w : World} {m : Nat} (keep : Int) (names : Bool) (hk : keep < 0) :
    Calls Tryz.prog 26 #[.pointer (some ⟨m, 0, none⟩), .int .i64 keep, .bool names] w fun x w' => x = .returned (.tuple #[.pointer none, er 1]) ∧ w' = w := by
  go_enter Tryz.func26, Tryz.ntmps26
  go_wp2
  go_ret2
  exact ⟨rfl, rfl⟩

end Go.Proofs.YtbpdonnneleeeaaGreatDoor
