/-
  Package merges: the lists that wait, in memory.
  Package merges: cmpEntries; which of two lists comes sooner; sink.
  Package merges: areAscending.
-/
import Derived.Test.YtoljldokehfokaaMgM
import Derived.Test.YtoljldokehfokaaBkMB
import Derived.Test.YtoljldokehfokaaPlTx
import Derived.Deep.RegionHeld3
import Derived.BigRegion
import Derived.LoopTactic
import Derived.Deep.LoopGhost
namespace Go.Proofs.Ytoljldokehfokaa
open Go.RowKit
set_option linter.unusedVariables false
set_option maxRecDepth 100000

theorem el_keepM {w w' : World} {B n c : Nat} {A : Option Addr} {S : List En} (h : EL w B A n c S) (hc : ∀ p : Addr, p.block < B → w'.cell? p = w.cell? p) (hs : w.heap.size ≤ w'.heap.size) : EL w' B A n c S :=
  ⟨h.lies.keep fun p hp => hc p hp, Nat.le_trans h.B hs, h.nc, h.cc, h.sz⟩
/-- all else than two blocks stays -/
structure But (w w' : World) (g q : Nat) : Prop where
  os : w'.os = w.os
  tape : w'.tape = w.tape
  output : w'.output = w.output
  size : w.heap.size ≤ w'.heap.size
  block : ∀ k, k < w.heap.size → k ≠ g → k ≠ q → w'.heap[k]? = w.heap[k]?
theorem But.refl (w : World) (g q : Nat) : But w w g q := ⟨rfl, rfl, rfl, Nat.le_refl _, fun _ _ _ _ => rfl⟩
theorem But.trans {a b c : World} {g q : Nat} (h : But a b g q) (k : But b c g q) : But a c g q :=
  ⟨k.os.trans h.os, k.tape.trans h.tape, k.output.trans h.output, Nat.le_trans h.size k.size, fun i hi h1 h2 => (k.block i (Nat.lt_of_lt_of_le hi h.size) h1 h2).trans (h.block i hi h1 h2)⟩
theorem But.of_below {a b : World} (g q : Nat) (h : Below a.heap.size a b) : But a b g q := ⟨h.os, h.tape, h.output, h.size, fun i hi _ _ => h.block i hi⟩
theorem But.set0 (w : World) (g q i : Nat) (v : Value) : But w (w.setCell ⟨g, i, none⟩ v) g q := ⟨rfl, rfl, rfl, by simp, fun k _ h1 _ => Below.heap_setCell _ _ _ _ h1⟩
theorem But.set1 (w : World) (g q i : Nat) (v : Value) : But w (w.setCell ⟨q, i, none⟩ v) g q := ⟨rfl, rfl, rfl, by simp, fun k _ _ h2 => Below.heap_setCell _ _ _ _ h2⟩
theorem But.below {a b : World} {g q B : Nat} (h : But a b g q) (hB : B ≤ a.heap.size) (hg : B ≤ g) (hq : B ≤ q) : Below B a b :=
  ⟨h.os, h.tape, h.output, h.size, fun k hk => h.block k (by omega) (by omega) (by omega)⟩

/-- the function that tells which entry comes first -/
def cmpV : Value := .func (.func 18) #[] #[]
/-- lists that wait: their block g, that of their row q -/
structure Wt (w : World) (B g q : Nat) (A : Option Addr) (n c : Nat) (H : List Ls) : Prop where
  at_ : w.heap[g]? = some (.cells #[.slice A n c, cmpV] 66 (0, 0))
  len : H.length = n
  nc : n ≤ c
  cc : c ≤ maxLen
  nm : n ≤ 1000000
  ne : g ≠ q
  B0 : B ≤ g
  B1 : B ≤ q
  BB : B ≤ w.heap.size
  adr : A = some ⟨q, 0, none⟩ ∨ n = 0
  row : n ≠ 0 → ∃ cur, w.heap[q]? = some (.cells cur 22 (0, 0)) ∧ ∀ (i : Nat) (r : Ls), H[i]? = some r → cur[i]? = some r.v
  ls : ∀ r ∈ H, EL w B r.A r.n r.c r.l ∧ r.l ≠ []
section
variable {w w2 : World} {B g q n c : Nat} {A : Option Addr} {H : List Ls}
theorem Wt.NE (h : Wt w B g q A n c H) : NE H := fun r hr => (h.ls r hr).2
theorem Wt.keep (h : Wt w B g q A n c H) (hb : Below w.heap.size w w2) (hq : q < w.heap.size ∨ n = 0) : Wt w2 B g q A n c H := by
  have hg := (Array.getElem?_eq_some_iff.1 h.at_).1
  refine ⟨(hb.block g hg).trans h.at_, h.len, h.nc, h.cc, h.nm, h.ne, h.B0, h.B1, Nat.le_trans h.BB hb.size, h.adr, fun hn => ?_, fun r hr => ⟨el_keepM (h.ls r hr).1 (fun p hp => hb.cell (Nat.lt_of_lt_of_le hp h.BB)) hb.size, (h.ls r hr).2⟩⟩
  obtain ⟨cur, hc, hh⟩ := h.row hn
  exact ⟨cur, (hb.block q (Array.getElem?_eq_some_iff.1 hc).1).trans hc, hh⟩
theorem Wt.below (h : Wt w B g q A n c H) (hb : Below w.heap.size w w2) : Wt w2 B g q A n c H := by
  refine h.keep hb ?_
  by_cases hn : n = 0
  · exact .inr hn
  · obtain ⟨cur, hc, _⟩ := h.row hn
    exact .inl (Array.getElem?_eq_some_iff.1 hc).1
theorem Wt.cells (h : Wt w B g q A n c H) : w.cell? ⟨g, 0, none⟩ = some (.slice A n c) ∧ w.cell? ⟨g, 1, none⟩ = some cmpV :=
  ⟨cell_of_row _ _ 0 _ _ (0, 0) h.at_, cell_of_row _ _ 1 _ _ (0, 0) h.at_⟩
/-- the list at a place -/
theorem Wt.lst (h : Wt w B g q A n c H) {i : Nat} (hi : i < n) : ∃ r, H[i]? = some r ∧ A = some ⟨q, 0, none⟩ ∧ w.cell? ⟨q, i, none⟩ = some (.slice r.A r.n r.c) ∧ w.frozen? ⟨q, i, none⟩ = false ∧ EL w B r.A r.n r.c r.l ∧ 0 < r.n ∧ r.l.length = r.n := by
  obtain ⟨cur, hc, hh⟩ := h.row (by omega)
  have hl : i < H.length := by rw [h.len]; exact hi
  have hr := List.getElem?_eq_getElem hl
  obtain ⟨e1, e2⟩ := h.ls _ (List.getElem_mem hl)
  have e3 := e1.lies.elen
  refine ⟨_, hr, h.adr.resolve_right (by omega), ?_, by simp [World.frozen?, hc], e1, ?_, e3⟩
  · have := hh i _ hr
    simp [World.cell?, hc, this, Ls.v]
  · rw [← e3]
    exact List.length_pos_iff.2 e2
/-- its first entry -/
theorem Wt.first (h : Wt w B g q A n c H) {i : Nat} {r : Ls} (hr : H[i]? = some r) : ∃ b o x, r.A = some ⟨b, o, none⟩ ∧ b < B ∧ hd H i = some x ∧ w.cell? ⟨b, o, none⟩ = some (.string x.m.k) ∧ w.cell? ⟨b, o + 1, none⟩ = some (.int .u64 (x.m.s : Int)) ∧ w.cell? ⟨b, o + 2, none⟩ = some (.bool x.m.g) ∧ w.cell? ⟨b, o + 3, none⟩ = some (.string x.x) := by
  obtain ⟨e1, e2⟩ := h.ls r (List.mem_of_getElem? hr)
  have hn : 0 < r.n := by rw [← e1.lies.elen]; exact List.length_pos_iff.2 e2
  obtain ⟨b, o, x, e, hb, hx, h0, h1, h2, h3⟩ := e1.lies.entry hn
  refine ⟨b, o, x, e, hb, ?_, ?_, ?_, ?_, ?_⟩
  · unfold hd; rw [hr, Option.bind_some, List.head?_eq_getElem?]; exact hx
  · simpa using h0
  · simpa using h1
  · simpa using h2
  · simpa using h3
/-- a list is put at a place -/
theorem Wt.put (h : Wt w B g q A n c H) {i : Nat} {r : Ls} (hi : i < n) (hr : EL w B r.A r.n r.c r.l) (hr2 : r.l ≠ []) : Wt (w.setCell ⟨q, i, none⟩ r.v) B g q A n c (H.set i r) := by
  obtain ⟨cur, hc, hh⟩ := h.row (by omega)
  have up : ∀ {A n c l}, EL w B A n c l → EL (w.setCell ⟨q, i, none⟩ r.v) B A n c l := fun e => el_keepM e (fun p hp => World.cell?_of_block (Below.heap_setCell _ _ _ _ (by have := h.B1; show p.block ≠ q; omega))) (by simp)
  refine ⟨(Below.heap_setCell _ _ _ _ h.ne).trans h.at_, by rw [List.length_set]; exact h.len, h.nc, h.cc, h.nm, h.ne, h.B0, h.B1, by simpa using h.BB, h.adr, fun _ => ⟨cur.setIfInBounds i r.v, by simp [World.setCell, Array.getElem?_modify, hc], fun j s hs => ?_⟩, fun s hs => ?_⟩
  · rw [List.getElem?_set] at hs
    rw [Array.getElem?_setIfInBounds]
    by_cases e : i = j
    · subst e
      have hl : i < H.length := by rw [h.len]; exact hi
      have hcs : i < cur.size := (Array.getElem?_eq_some_iff.1 (hh i _ (List.getElem?_eq_getElem hl))).1
      simp [hl] at hs
      subst hs
      simp [hcs]
    · rw [if_neg e] at hs ⊢
      exact hh j s hs
  · rcases List.mem_or_eq_of_mem_set hs with hs | rfl
    · exact ⟨up (h.ls s hs).1, (h.ls s hs).2⟩
    · exact ⟨up hr, hr2⟩
end
end Go.Proofs.Ytoljldokehfokaa

namespace Go.Proofs.Ytoljldokehfokaa
open Go.RowKit
set_option linter.unusedVariables false
set_option maxRecDepth 100000

set_option maxHeartbeats 1000000 in
theorem cmpE_any (x y : En) (w : World) :
    Calls Try.prog 18 #[x.v, y.v] w fun e w' => e = .returned (.int .i64 (cmpM x.m y.m)) ∧ Below w.heap.size w w' := by
  obtain ⟨a0, a1, a2, a3, hA, hzA⟩ := enW_facts w x
  obtain ⟨W1, hW1⟩ : ∃ W1, enW w x = W1 := ⟨_, rfl⟩
  rw [hW1] at a0 a1 a2 a3 hA hzA
  obtain ⟨b0, b1, b2, b3, hB, hzB⟩ := enW_facts W1 y
  obtain ⟨W2, hW2⟩ : ∃ W2, enW W1 y = W2 := ⟨_, rfl⟩
  rw [hW2] at b0 b1 b2 b3 hB hzB
  have hlt : w.heap.size < W1.heap.size := by omega
  have e0 : W2.cell? ⟨w.heap.size, 0, none⟩ = _ := (hB.cell (p := ⟨w.heap.size, 0, none⟩) hlt).trans a0
  have e1 : W2.cell? ⟨w.heap.size, 1, none⟩ = _ := (hB.cell (p := ⟨w.heap.size, 1, none⟩) hlt).trans a1
  have e2 : W2.cell? ⟨w.heap.size, 2, none⟩ = _ := (hB.cell (p := ⟨w.heap.size, 2, none⟩) hlt).trans a2
  have h1 : w.alloc (.cells #[.string x.m.k, .int .u64 (x.m.s : Int), .bool x.m.g, .string x.x] 31) = W1 := hW1
  have h2 : W1.alloc (.cells #[.string y.m.k, .int .u64 (y.m.s : Int), .bool y.m.g, .string y.x] 31) = W2 := hW2
  have HC := Lib.hid (fun W => cmp_any x.m y.m W)
  have HB := Lib.hid (hA.trans (hB.mono (by omega)))
  unfold Mk.v at HC
  unfold En.v
  clear hW1 hW2 hA hB a0 a1 a2 a3 hzA hzB b3
  go_enter Try.func18, Try.ntmps18
  go_wp2_with fail
  refine (HC.out _).mono ?_
  rintro e w' ⟨rfl, hb⟩
  have HF := Lib.hid (HB.out.trans (hb.mono HB.out.size))
  clear hb
  go_wp2
  go_ret
  exact ⟨rfl, HF.out⟩

/-- which of two comes sooner; the first one, if there is no other -/
def soon (H : List Ls) (a o : Nat) : Nat := match hd H o, hd H a with
  | some y, some x => if cmpM y.m x.m < 0 then o else a
  | _, _ => a
theorem soon_none {H : List Ls} {a o : Nat} (h : H.length ≤ o) : soon H a o = a := by unfold soon; rw [hd_none h]
theorem soon_some {H : List Ls} {a o : Nat} {x y : En} (hy : hd H o = some y) (hx : hd H a = some x) : soon H a o = if cmpM y.m x.m < 0 then o else a := by unfold soon; rw [hy, hx]
theorem soon_or (H : List Ls) (a o : Nat) : soon H a o = a ∨ soon H a o = o ∧ o < H.length := by
  unfold soon
  cases hy : hd H o with
  | none => exact .inl rfl
  | some y =>
    cases hx : hd H a with
    | none => exact .inl rfl
    | some x =>
      show (if cmpM y.m x.m < 0 then o else a) = a ∨ (if cmpM y.m x.m < 0 then o else a) = o ∧ _
      by_cases h : cmpM y.m x.m < 0
      · rw [if_pos h]; exact .inr ⟨rfl, hd_lt hy⟩
      · rw [if_neg h]; exact .inl rfl
/-- it comes no later than either -/
theorem soon_le {H : List Ls} {a o : Nat} {z : En} (hz : hd H (soon H a o) = some z) : (∀ x, hd H a = some x → LeE z x) ∧ ∀ y, hd H o = some y → hd H a ≠ none → LeE z y := by
  unfold soon at hz
  cases hy : hd H o with
  | none =>
    rw [hy] at hz
    exact ⟨fun x hx => by rw [hx] at hz; injection hz with hz; subst hz; exact leE_refl _, fun y e => by cases e⟩
  | some y =>
    cases hx : hd H a with
    | none => rw [hy, hx] at hz; exact ⟨fun x e => by (cases e), fun _ _ q => absurd rfl q⟩
    | some x =>
      rw [hy, hx] at hz
      change hd H (if cmpM y.m x.m < 0 then o else a) = some z at hz
      by_cases h : cmpM y.m x.m < 0
      · rw [if_pos h, hy] at hz
        injection hz with hz; subst hz
        exact ⟨fun q e => by injection e with e; subst e; exact leE_of_lt h, fun q e _ => by injection e with e; subst e; exact leE_refl _⟩
      · rw [if_neg h, hx] at hz
        injection hz with hz; subst hz
        exact ⟨fun q e => by injection e with e; subst e; exact leE_refl _, fun q e _ => by injection e with e; subst e; exact leE_of_not h⟩

/-- what the region of sooner reads -/
abbrev SF (g q o a : Nat) (A : Option Addr) (n c b1 o1 n1 c1 b2 o2 n2 c2 : Nat) (y x : En) (W : World) : Prop :=
  W.cell? ⟨g, 0, none⟩ = some (.slice A n c) ∧ W.cell? ⟨g, 1, none⟩ = some (.func (.func 18) #[] #[]) ∧ W.cell? ⟨q, o, none⟩ = some (.slice (some ⟨b1, o1, none⟩) n1 c1) ∧ W.cell? ⟨q, a, none⟩ = some (.slice (some ⟨b2, o2, none⟩) n2 c2) ∧
  (W.cell? ⟨b1, o1, none⟩ = some (.string y.m.k) ∧ W.cell? ⟨b1, o1 + 1, none⟩ = some (.int .u64 (y.m.s : Int)) ∧ W.cell? ⟨b1, o1 + 2, none⟩ = some (.bool y.m.g) ∧ W.cell? ⟨b1, o1 + 3, none⟩ = some (.string y.x)) ∧
  (W.cell? ⟨b2, o2, none⟩ = some (.string x.m.k) ∧ W.cell? ⟨b2, o2 + 1, none⟩ = some (.int .u64 (x.m.s : Int)) ∧ W.cell? ⟨b2, o2 + 2, none⟩ = some (.bool x.m.g) ∧ W.cell? ⟨b2, o2 + 3, none⟩ = some (.string x.x))
theorem SF.below {g q o a : Nat} {A : Option Addr} {n c b1 o1 n1 c1 b2 o2 n2 c2 : Nat} {y x : En} {w w' : World} (H : SF g q o a A n c b1 o1 n1 c1 b2 o2 n2 c2 y x w) (hb : Below w.heap.size w w') : SF g q o a A n c b1 o1 n1 c1 b2 o2 n2 c2 y x w' := by
  have up : ∀ {p v}, w.cell? p = some v → w'.cell? p = some v := fun {p v} h => (hb.cell (World.block_lt_of_cell? w _ h)).trans h
  obtain ⟨h1, h2, h3, h4, ⟨h5, h6, h7, h8⟩, h9, h10, h11, h12⟩ := H
  exact ⟨up h1, up h2, up h3, up h4, ⟨up h5, up h6, up h7, up h8⟩, up h9, up h10, up h11, up h12⟩

end Go.Proofs.Ytoljldokehfokaa

namespace Go.Proofs.Ytoljldokehfokaa
open Go.RowKit
set_option linter.unusedVariables false
set_option maxRecDepth 100000

theorem riseM_snoc {S : List En} {x y : En} (h : Rise (S ++ [x])) (hxy : cmpM x.m y.m < 0) : Rise ((S ++ [x]) ++ [y]) := by
  unfold Rise at h ⊢
  rw [List.pairwise_append] at h ⊢
  refine ⟨List.pairwise_append.2 h, List.pairwise_singleton _ _, fun a ha b hb => ?_⟩
  obtain rfl := List.mem_singleton.1 hb
  rcases List.mem_append.1 ha with ha | ha
  · exact cmp_trans (h.2.2 a ha x (List.mem_singleton.2 rfl)) hxy
  · obtain rfl := List.mem_singleton.1 ha
    exact hxy
theorem riseM_take {S : List En} {k : Nat} {x y : En} (h : Rise (S.take (k + 1))) (hx : S[k]? = some x) (hy : S[k + 1]? = some y) (hxy : cmpM x.m y.m < 0) : Rise (S.take (k + 1 + 1)) := by
  rw [List.take_add_one, hx] at h
  rw [List.take_add_one (i := k + 1), hy, List.take_add_one (i := k), hx]
  exact riseM_snoc h hxy
def AscR (w : World) (n : Nat) (S : List En) (i : Value) (wr : World) : Prop := ∃ j k : Nat, k = j + 1 ∧ i = .int .i64 (k : Int) ∧ Rise (S.take (j + 1)) ∧ Below w.heap.size w wr
abbrev AF (b o1 o2 : Nat) (x y : En) (W : World) : Prop :=
  (W.cell? ⟨b, o1, none⟩ = some (.string x.m.k) ∧ W.cell? ⟨b, o1 + 1, none⟩ = some (.int .u64 (x.m.s : Int)) ∧ W.cell? ⟨b, o1 + 2, none⟩ = some (.bool x.m.g) ∧ W.cell? ⟨b, o1 + 3, none⟩ = some (.string x.x)) ∧
  (W.cell? ⟨b, o2, none⟩ = some (.string y.m.k) ∧ W.cell? ⟨b, o2 + 1, none⟩ = some (.int .u64 (y.m.s : Int)) ∧ W.cell? ⟨b, o2 + 2, none⟩ = some (.bool y.m.g) ∧ W.cell? ⟨b, o2 + 3, none⟩ = some (.string y.x))
theorem AF.below {b o1 o2 : Nat} {x y : En} {w w' : World} (H : AF b o1 o2 x y w) (hb : Below w.heap.size w w') : AF b o1 o2 x y w' := by
  have up : ∀ {p v}, w.cell? p = some v → w'.cell? p = some v := fun {p v} h => (hb.cell (World.block_lt_of_cell? w _ h)).trans h
  obtain ⟨⟨h5, h6, h7, h8⟩, h9, h10, h11, h12⟩ := H
  exact ⟨⟨up h5, up h6, up h7, up h8⟩, up h9, up h10, up h11, up h12⟩

set_option maxHeartbeats 4000000 in
theorem asc_any {w : World} {B n c : Nat} {A : Option Addr} {S : List En} (hE : EL w B A n c S) (hn : n ≤ 1000000) :
    Calls Try.prog 20 #[.slice A n c] w fun e w' => e = .returned (.bool (decide (Rise S))) ∧ Below w.heap.size w w' := by
  have hln := hE.lies.elen
  have HE := Lib.hid hE; have HLn := Lib.hid hln
  have HS : Hid (AscR w n S (.int .i64 1) w) := ⟨0, 1, rfl, rfl, by
    cases S with
    | nil => exact List.Pairwise.nil
    | cons x t => exact List.pairwise_singleton _ _, Below.refl _ _⟩
  clear hE hln
  go_enter Try.func20, Try.ntmps20
  go_wp2
  go_loopw [3] (fun i wr => AscR w n S i wr) (fun i _ => n - (intOf i).toNat)
  case atStart => exact HS.out
  case round =>
    clear HS
    obtain ⟨j, k, hjk, rfl, hr, hb⟩ := hrel
    by_cases hlt : k < n
    · have hEr : EL wr B A n c S := HE.out.below (hb.mono (Nat.le_refl _))
      obtain ⟨b, o, x, rfl, hbB, hx, x0, x1, x2, x3⟩ := hEr.lies.entry (i := j) (by omega)
      obtain ⟨b', o', y, e', _, hy, y0, y1, y2, y3⟩ := hEr.lies.entry (i := j + 1) (by omega)
      rw [← hjk] at y0 y1 y2 y3
      injection e' with e'
      injection e' with e1 e2
      subst e1 e2
      have HA : Hid (∀ W, Below wr.heap.size wr W → AF b (o + j * 4) (o + k * 4) x y W) := fun W hb => AF.below ⟨⟨x0, x1, x2, x3⟩, y0, y1, y2, y3⟩ hb
      have HC := Lib.hid (fun W => cmpE_any x y W)
      unfold En.v at HC
      obtain ⟨z, hz⟩ : ∃ z, cmpM x.m y.m = z := ⟨_, rfl⟩
      rw [hz] at HC
      have HB := Lib.hid hb
      have hb0 : Below wr.heap.size wr wr.drew := (Below.refl _ _).drew
      have i0 : (0 : Int) ≤ (j : Int) := by omega
      have i1 : (j : Int) < (n : Int) := by omega
      have i2 : (k : Int) < (n : Int) := by omega
      have i3 : (k : Int) - 1 = (j : Int) := by omega
      have i4 : (0 : Int) ≤ (k : Int) := by omega
      have iw : IntKind.i64.wrap ((k : Int) - 1) = (j : Int) := by rw [IntWalk.i64_in] <;> omega
      have iw2 : IntKind.i64.wrap (j : Int) = (j : Int) := by rw [IntWalk.i64_in]; omega
      have i5 : j < n := by omega
      have HM : Hid (n - (k + 1) < n - k) := by unfold Hid; omega
      have HNx : Hid (z < 0 → ∀ w3, Below w.heap.size w w3 → AscR w n S (.int .i64 ((k : Int) + 1)) w3) := fun q w3 hb3 => ⟨j + 1, k + 1, by omega, by simp, riseM_take hr hx hy (by rw [hz]; exact q), hb3⟩
      have HNo : Hid (¬ z < 0 → decide (Rise S) = false) := fun q => by
        rw [decide_eq_false_iff_not]
        intro h
        exact q (by rw [← hz]; exact h.ne (Nat.lt_succ_self j) hx hy)
      clear hz hx hy hr hb hjk hEr x0 x1 x2 x3 y0 y1 y2 y3 HE
      by_cases h : z < 0
      · have dz : decide (0 ≤ z) = false := decide_eq_false (by omega)
        go_wp2
        go_region_held3 (fun W => AF b (o + j * 4) (o + k * 4) x y W)
          (first | exact HA.out _ hb0 | exact HA.out _ hb3 | fail)
          (first
          | (go_at_call 18; refine (HC.out _).mono ?_; rintro e w3 ⟨rfl, hb⟩; have hb3 := hb0.trans (hb.mono hb0.size); clear hb)
          | fail)
        have HR := Lib.hid (HNx.out h w3 (HB.out.trans (hb3.mono HB.out.size)))
        clear hb3 hb0 HA HB HNx HNo
        go_wp2
        go_roundw
        case rel => exact HR.out
        case measure => simp [intOf]; have := HM.out; omega
      · have dz : decide (0 ≤ z) = true := decide_eq_true (by omega)
        go_wp2
        go_region_held3 (fun W => AF b (o + j * 4) (o + k * 4) x y W)
          (first | exact HA.out _ hb0 | exact HA.out _ hb3 | fail)
          (first
          | (go_at_call 18; refine (HC.out _).mono ?_; rintro e w3 ⟨rfl, hb⟩; have hb3 := hb0.trans (hb.mono hb0.size); clear hb)
          | fail)
        have HR := Lib.hid (HB.out.trans (hb3.mono HB.out.size))
        clear hb3 hb0 HA HB HNx
        go_wp2
        go_ret
        exact ⟨congrArg (fun b => Ending.returned (.bool b)) (HNo.out h).symm, HR.out⟩
    · have hR : Rise S := by
        rw [List.take_of_length_le (by rw [HLn.out]; omega)] at hr
        exact hr
      have HRR := Lib.hid (decide_eq_true hR)
      have HB := Lib.hid hb
      have i2 : ¬ (k : Int) < (n : Int) := by omega
      clear hr hb hR HE
      go_wp2
      go_ret
      exact ⟨congrArg (fun b => Ending.returned (.bool b)) HRR.out.symm, HB.out⟩
end Go.Proofs.Ytoljldokehfokaa

