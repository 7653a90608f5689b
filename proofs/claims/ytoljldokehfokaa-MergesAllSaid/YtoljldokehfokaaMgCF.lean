/-
  Package merges: sooner, where there is no other one.
  Package merges: sooner, where there is another one.
  Package merges: sink.
  Package merges: removeFirst, next.
-/
import Derived.Test.YtoljldokehfokaaMgAB
import Derived.Deep.QuietTactic
import Derived.BigQuiet
namespace Go.Proofs.Ytoljldokehfokaa
open Go.RowKit
set_option linter.unusedVariables false
set_option maxRecDepth 100000

set_option maxHeartbeats 4000000 in
theorem sooner_no {w : World} {B g q n c : Nat} {A : Option Addr} {H : List Ls} (hW : Wt w B g q A n c H) (a o : Nat) (hno : n ≤ o) :
    Calls Try.prog 42 #[.pointer (some ⟨g, 0, none⟩), .int .i64 (a : Int), .int .i64 (o : Int)] w fun e w' => e = .returned (.int .i64 (soon H a o : Int)) ∧ Below w.heap.size w w' := by
  obtain ⟨g0, g1⟩ := hW.cells
  have hb0 : Below w.heap.size w w.drew := (Below.refl _ _).drew
  rw [soon_none (by rw [hW.len]; omega)]
  have i1 : ¬ (o : Int) < (n : Int) := by omega
  have i2 : ¬ o < n := by omega
  have i3 : decide ((o : Int) < (n : Int)) = false := decide_eq_false i1
  clear hW g1 hb0
  go_enter Try.func42, Try.ntmps42
  go_wp2
  go_quiet (fail)
  have HF : Hid (Below w.heap.size w (w.drewN nq)) := below_drewN (Below.refl _ _) nq
  go_wp2
  go_ret
  exact ⟨rfl, HF.out⟩
end Go.Proofs.Ytoljldokehfokaa

namespace Go.Proofs.Ytoljldokehfokaa
open Go.RowKit
set_option linter.unusedVariables false
set_option maxRecDepth 100000

set_option maxHeartbeats 4000000 in
theorem sooner_lt {w : World} {B g q n c : Nat} {A : Option Addr} {H : List Ls} (hW : Wt w B g q A n c H) (a o : Nat) (hao : a < o) (hlt : o < n) :
    Calls Try.prog 42 #[.pointer (some ⟨g, 0, none⟩), .int .i64 (a : Int), .int .i64 (o : Int)] w fun e w' => e = .returned (.int .i64 (soon H a o : Int)) ∧ Below w.heap.size w w' := by
  obtain ⟨g0, g1⟩ := hW.cells
  have hb0 : Below w.heap.size w w.drew := (Below.refl _ _).drew
  obtain ⟨r, hr, hA, hrc, _, _, hrn, _⟩ := hW.lst hlt
  obtain ⟨s, hs, _, hsc, _, _, hsn, _⟩ := hW.lst (i := a) (by omega)
  obtain ⟨b1, o1, y, hrA, hb1, hy, y0, y1, y2, y3⟩ := hW.first hr
  obtain ⟨b2, o2, x, hsA, hb2, hx, x0, x1, x2, x3⟩ := hW.first hs
  rw [hrA] at hrc; rw [hsA] at hsc
  obtain ⟨n1, hn1⟩ : ∃ n1, r.n = n1 := ⟨_, rfl⟩
  obtain ⟨c1, hc1⟩ : ∃ c1, r.c = c1 := ⟨_, rfl⟩
  obtain ⟨n2, hn2⟩ : ∃ n2, s.n = n2 := ⟨_, rfl⟩
  obtain ⟨c2, hc2⟩ : ∃ c2, s.c = c2 := ⟨_, rfl⟩
  rw [hn1, hc1] at hrc; rw [hn2, hc2] at hsc; rw [hn1] at hrn; rw [hn2] at hsn
  have HS : Hid (∀ W, Below w.heap.size w W → SF g q o a (some ⟨q, 0, none⟩) n c b1 o1 n1 c1 b2 o2 n2 c2 y x W) := fun W hb => SF.below ⟨by rw [← hA]; exact g0, g1, hrc, hsc, ⟨y0, y1, y2, y3⟩, x0, x1, x2, x3⟩ hb
  have HC := Lib.hid (fun W => cmpE_any y x W)
  unfold En.v at HC
  rw [soon_some hy hx]
  obtain ⟨z, hz⟩ : ∃ z, cmpM y.m x.m = z := ⟨_, rfl⟩
  rw [hz] at HC ⊢
  have i0 : (0 : Int) ≤ (o : Int) := by omega
  have i1 : (o : Int) < (n : Int) := by omega
  have i2 : (0 : Int) ≤ (a : Int) := by omega
  have i3 : (a : Int) < (n : Int) := by omega
  have i4 : (0 : Int) < (n1 : Int) := by omega
  have i5 : (0 : Int) < (n2 : Int) := by omega
  have i6 : a < n := by omega
  clear hz hn1 hc1 hn2 hc2 hr hs hrc hsc hrA hsA hb1 hb2 hy hx y0 y1 y2 y3 x0 x1 x2 x3 g0 g1 hA hW
  by_cases h : z < 0
  · have dz : decide (z < 0) = true := decide_eq_true h
    rw [if_pos h]
    go_enter Try.func42, Try.ntmps42
    go_wp2
    go_region_held3 (fun W => SF g q o a (some ⟨q, 0, none⟩) n c b1 o1 n1 c1 b2 o2 n2 c2 y x W)
      (first | exact HS.out _ hb0 | exact HS.out _ hb3 | fail)
      (first
      | (go_at_call 18; refine (HC.out _).mono ?_; rintro e w3 ⟨rfl, hb⟩; have hb3 := hb0.trans (hb.mono hb0.size); clear hb)
      | fail)
    clear HS
    have HF := Lib.hid hb3
    clear hb3 hb0
    go_wp2
    go_ret
    exact ⟨rfl, HF.out⟩
  · have dz : decide (z < 0) = false := decide_eq_false h
    rw [if_neg h]
    go_enter Try.func42, Try.ntmps42
    go_wp2
    go_region_held3 (fun W => SF g q o a (some ⟨q, 0, none⟩) n c b1 o1 n1 c1 b2 o2 n2 c2 y x W)
      (first | exact HS.out _ hb0 | exact HS.out _ hb3 | fail)
      (first
      | (go_at_call 18; refine (HC.out _).mono ?_; rintro e w3 ⟨rfl, hb⟩; have hb3 := hb0.trans (hb.mono hb0.size); clear hb)
      | fail)
    clear HS
    have HF := Lib.hid hb3
    clear hb3 hb0
    go_wp2
    go_ret
    exact ⟨rfl, HF.out⟩
end Go.Proofs.Ytoljldokehfokaa

namespace Go.Proofs.Ytoljldokehfokaa
open Go.RowKit
set_option linter.unusedVariables false
set_option maxRecDepth 100000

theorem sooner_any {w : World} {B g q n c : Nat} {A : Option Addr} {H : List Ls} (hW : Wt w B g q A n c H) (a o : Nat) (hao : a < o) :
    Calls Try.prog 42 #[.pointer (some ⟨g, 0, none⟩), .int .i64 (a : Int), .int .i64 (o : Int)] w fun e w' => e = .returned (.int .i64 (soon H a o : Int)) ∧ Below w.heap.size w w' := by
  rcases Nat.lt_or_ge o n with h | h
  · exact sooner_lt hW a o hao h
  · exact sooner_no hW a o h
/-- who comes first of one and the two below it -/
def fst3 (H : List Ls) (a : Nat) : Nat := soon H (soon H a (2 * a + 1)) (2 * a + 2)
theorem fst3_or (H : List Ls) (a : Nat) : fst3 H a = a ∨ (fst3 H a = 2 * a + 1 ∨ fst3 H a = 2 * a + 2) ∧ fst3 H a < H.length := by
  unfold fst3
  rcases soon_or H (soon H a (2 * a + 1)) (2 * a + 2) with e | ⟨e, h⟩
  · rcases soon_or H a (2 * a + 1) with e2 | ⟨e2, h2⟩
    · exact .inl (by rw [e, e2])
    · exact .inr ⟨.inl (by rw [e, e2]), by rw [e, e2]; exact h2⟩
  · exact .inr ⟨.inr e, by rw [e]; exact h⟩
theorem fst3_le {H : List Ls} {a : Nat} {z : En} (hn : NE H) (hz : hd H (fst3 H a) = some z) : (∀ x, hd H a = some x → LeE z x) ∧ ∀ c y, (c = 2 * a + 1 ∨ c = 2 * a + 2) → hd H c = some y → LeE z y := by
  have ha : ∀ {c y}, a ≤ c → hd H c = some y → hd H a ≠ none := fun {c y} hc hy => by
    obtain ⟨x, hx⟩ := hn.hd (i := a) (by have := hd_lt hy; omega)
    rw [hx]; exact fun q => by cases q
  have h2 := soon_le (H := H) (a := soon H a (2 * a + 1)) (o := 2 * a + 2) hz
  have hs : ∀ {x}, hd H a = some x → ∃ u, hd H (soon H a (2 * a + 1)) = some u := fun {x} hx => by
    rcases soon_or H a (2 * a + 1) with e | ⟨e, h⟩
    · rw [e]; exact ⟨_, hx⟩
    · rw [e]; exact hn.hd h
  refine ⟨fun x hx => ?_, fun c y hc hy => ?_⟩
  · obtain ⟨u, hu⟩ := hs hx
    exact leE_trans (h2.1 u hu) ((soon_le hu).1 x hx)
  · obtain ⟨x, hx⟩ := Option.ne_none_iff_exists'.1 (ha (c := c) (by omega) hy)
    obtain ⟨u, hu⟩ := hs hx
    rcases hc with rfl | rfl
    · exact leE_trans (h2.1 u hu) ((soon_le hu).2 y hy (by rw [hx]; exact fun q => by cases q))
    · exact h2.2 y hy (by rw [hu]; exact fun q => by cases q)

/-- where sinking stands -/
def SnkR (w : World) (B g q n c : Nat) (A : Option Addr) (a0 : Nat) (H0 : List Ls) (v : Value) (wr : World) : Prop :=
  ∃ (a : Nat) (H : List Ls), v = .int .i64 (a : Int) ∧ a ≤ n ∧ Wt wr B g q A n c H ∧ Snk H0 a0 a H ∧ But w wr g q

set_option maxHeartbeats 4000000 in
theorem sink_any {w : World} {B g q n c : Nat} {A : Option Addr} {H0 : List Ls} (hW : Wt w B g q A n c H0) (a0 : Nat) (ha : a0 ≤ n) (hh : ∀ i, a0 < i → HAt H0 i) :
    Calls Try.prog 30 #[.pointer (some ⟨g, 0, none⟩), .int .i64 (a0 : Int)] w fun e w' => e = .returned (.tuple #[]) ∧ ∃ H, Wt w' B g q A n c H ∧ H.Perm H0 ∧ (∀ i, a0 ≤ i → HAt H i) ∧ But w w' g q := by
  have hmx : n ≤ 140737488355328 := by have h1 := hW.nm; omega
  have HS0 : Hid (SnkR w B g q n c A a0 H0 (.int .i64 (a0 : Int)) w) := ⟨a0, H0, rfl, ha, hW, Snk.start hh, But.refl _ _ _⟩
  clear hW hh ha
  go_enter Try.func30, Try.ntmps30
  go_wp2
  go_loopw [1] (fun v wr => SnkR w B g q n c A a0 H0 v wr) (fun v _ => n - (intOf v).toNat)
  case atStart => exact HS0.out
  case round =>
    clear HS0
    obtain ⟨a, H, rfl, han, hW, hS, hB⟩ := hrel
    have hai : (a : Int) ≤ 140737488355328 := by omega
    have hf := fst3_or H a
    obtain ⟨s, hs⟩ : ∃ s, soon H a (2 * a + 1) = s := ⟨_, rfl⟩
    obtain ⟨f, hff⟩ : ∃ f, fst3 H a = f := ⟨_, rfl⟩
    have h1 := sooner_any hW a (2 * a + 1) (by omega)
    rw [show ((2 * a + 1 : Nat) : Int) = 2 * (a : Int) + 1 from by omega, hs] at h1
    have H1 := Lib.hid h1
    have hs2 : s = a ∨ s = 2 * a + 1 := by rw [← hs]; exact (soon_or H a (2 * a + 1)).imp id (fun q => q.1)
    have H2 : Hid (∀ w2, Below wr.heap.size wr w2 → Calls Try.prog 42 #[.pointer (some ⟨g, 0, none⟩), .int .i64 (s : Int), .int .i64 (2 * (a : Int) + 2)] w2 fun e w' => e = .returned (.int .i64 (f : Int)) ∧ Below w2.heap.size w2 w') := fun w2 hb => by
      have h2 := sooner_any (hW.below hb) s (2 * a + 2) (by omega)
      have e : soon H s (2 * a + 2) = f := by rw [← hff, ← hs]; rfl
      rw [show ((2 * a + 2 : Nat) : Int) = 2 * (a : Int) + 2 from by omega, e] at h2
      exact h2
    rw [hff] at hf
    have HW := Lib.hid hW; have HS := Lib.hid hS; have HB := Lib.hid hB; have HFF := Lib.hid hff
    clear hs hs2 h1 hW hS hB hff
    by_cases he : f = a
    · subst he
      have HF : Hid (∀ w', Below wr.heap.size wr w' → ∃ H, Wt w' B g q A n c H ∧ H.Perm H0 ∧ (∀ i, a0 ≤ i → HAt H i) ∧ But w w' g q) := fun w' hb => by
        refine ⟨H, HW.out.below hb, HS.out.perm, HS.out.done fun cc x y hc hx hy => ?_, HB.out.trans (But.of_below g q hb)⟩
        have hz : hd H (fst3 H f) = some x := by rw [HFF.out]; exact hx
        exact (fst3_le HW.out.NE hz).2 cc y hc hy
      clear hf HW HS HB HFF
      go_wp2_with fail
      refine H1.out.mono ?_
      rintro e w2 ⟨rfl, hb2⟩
      have HB2 := Lib.hid hb2
      clear hb2 H1
      go_wp2_with fail
      refine (H2.out w2 HB2.out).mono ?_
      rintro e w3 ⟨rfl, hb3⟩
      have HB3 := Lib.hid (HB2.out.trans (hb3.mono HB2.out.size))
      clear hb3 HB2 H2
      go_wp2
      refine bodyPost_ret (results_none rfl _ _ _) rfl ?_
      exact ⟨rfl, HF.out _ HB3.out⟩
    · obtain ⟨hfc, hfn⟩ := hf.resolve_left he
      rw [HW.out.len] at hfn
      have hne : ((f : Int) == (a : Int)) = false := by rw [beq_eq_false_iff_ne]; omega
      have hne2 : ¬ (f : Int) = (a : Int) := by omega
      have HST : Hid (∀ w3, Below wr.heap.size wr w3 → ∃ ra rb, A = some ⟨q, 0, none⟩ ∧ w3.cell? ⟨g, 0, none⟩ = some (.slice A n c) ∧ w3.cell? ⟨q, a, none⟩ = some (Ls.v ra) ∧ w3.cell? ⟨q, f, none⟩ = some (Ls.v rb) ∧ w3.frozen? ⟨q, a, none⟩ = false ∧ w3.frozen? ⟨q, f, none⟩ = false ∧ SnkR w B g q n c A a0 H0 (.int .i64 (f : Int)) ((w3.setCell ⟨q, a, none⟩ (Ls.v rb)).setCell ⟨q, f, none⟩ (Ls.v ra)).drew) := fun w3 hb => by
        have hW3 := HW.out.below hb
        obtain ⟨ra, hra, hA, c1, f1, l1, _, _⟩ := hW3.lst (i := a) (by omega)
        obtain ⟨rb, hrb, _, c2, f2, l2, _, _⟩ := hW3.lst hfn
        obtain ⟨x, hx⟩ := hW3.NE.hd (i := f) (by rw [hW3.len]; exact hfn)
        have hle := fst3_le (H := H) (a := a) hW3.NE (by rw [HFF.out]; exact hx)
        have hp1 := hW3.put (i := a) (r := rb) (by omega) l2 (hW3.ls rb (List.mem_of_getElem? hrb)).2
        have hl1 : EL (w3.setCell ⟨q, a, none⟩ rb.v) B ra.A ra.n ra.c ra.l := el_keepM l1 (fun p hp => World.cell?_of_block (Below.heap_setCell _ _ _ _ (by have := hW3.B1; show p.block ≠ q; omega))) (by simp)
        have hp2 := hp1.put (i := f) (r := ra) hfn hl1 (hW3.ls ra (List.mem_of_getElem? hra)).2
        refine ⟨ra, rb, hA, hW3.cells.1, c1, c2, f1, f2, f, swp H a f ra rb, rfl, by omega, hp2.below (Below.refl _ _).drew, HS.out.step hfc hra hrb (fun u v hu hv => ?_) (fun cc u v hc hu hv => ?_), ?_⟩
        · rw [hx] at hu; injection hu with hu; subst hu; exact hle.1 v hv
        · rw [hx] at hu; injection hu with hu; subst hu; exact hle.2 cc v hc hv
        · exact ((HB.out.trans (But.of_below g q hb)).trans (But.set1 w3 g q a _)).trans ((But.set1 _ g q f _).trans (But.of_below g q (Below.refl _ _).drew))
      have j0 : (0 : Int) ≤ (a : Int) := by omega
      have j1 : (a : Int) < (n : Int) := by omega
      have j2 : (0 : Int) ≤ (f : Int) := by omega
      have j3 : (f : Int) < (n : Int) := by omega
      have j4 : a < n := by omega
      have HM : Hid (n - f < n - a) := by unfold Hid; omega
      clear hf HW HS HB HFF hfc
      go_wp2_with fail
      refine H1.out.mono ?_
      rintro e w2 ⟨rfl, hb2⟩
      have HB2 := Lib.hid hb2
      clear hb2 H1
      go_wp2_with fail
      refine (H2.out w2 HB2.out).mono ?_
      rintro e w3 ⟨rfl, hb3⟩
      obtain ⟨ra, rb, rfl, c0, c1, c2, f1, f2, hrel⟩ := HST.out w3 (HB2.out.trans (hb3.mono HB2.out.size))
      have HR := Lib.hid hrel
      clear hb3 HB2 H2 HST hrel
      unfold Ls.v at c1 c2 HR
      generalize ra.A = A1 at *
      generalize ra.n = n1 at *
      generalize ra.c = k1 at *
      generalize rb.A = A2 at *
      generalize rb.n = n2 at *
      generalize rb.c = k2 at *
      go_wp2
      go_region
      go_wp2
      go_roundw
      case rel => exact HR.out
      case measure => simp [intOf]; exact HM.out
end Go.Proofs.Ytoljldokehfokaa

namespace Go.Proofs.Ytoljldokehfokaa
open Go.RowKit
set_option linter.unusedVariables false
set_option maxRecDepth 100000

theorem list_info : (Try.prog.info? 22).map (fun i => (i.zero, i.size, i.bytes)) = some (some (.slice none 0 0), 1, 24) := by kernel_rfl
theorem run_headLs (w : World) (A : Option Addr) (n c h : Nat) (h3 : h ≤ c) :
    (Instr.slice 26 (.slice A n c) none (some (.int .i64 (h : Int))) none).run Try.prog w = .ok (.slice A h c) w := by
  obtain ⟨i0, hi, hz0, hz1, hz2⟩ := info_parts list_info
  unfold Instr.slice
  simp [run_underlying Try.underlying26, Instr.sliceBounds, Instr.sliceBound, asIntOf, sizeOf, typeInfo, hi, h3]
  cases A <;> simp [Addr.add]
/-- the last one takes the first one's place -/
def rmF (H : List Ls) (r : Ls) : List Ls := (H.set 0 r).take (H.length - 1)
theorem rmF_len (H : List Ls) (r : Ls) : (rmF H r).length = H.length - 1 := by unfold rmF; rw [List.length_take, List.length_set]; omega
theorem rmF_perm {H : List Ls} {x r : Ls} {R : List Ls} (he : H = x :: R) (hr : H[H.length - 1]? = some r) : (rmF H r).Perm R := by
  subst he
  unfold rmF
  rw [List.length_cons, Nat.add_sub_cancel] at hr ⊢
  rw [List.set_cons_zero]
  cases R with
  | nil => exact List.Perm.refl _
  | cons y S =>
    rw [List.length_cons, List.take_succ_cons]
    rw [List.length_cons, List.getElem?_cons_succ] at hr
    have h2 : y :: S = (y :: S).take S.length ++ [r] := by
      have := List.take_append_drop S.length (y :: S)
      rw [← this]
      congr 1
      · rw [this]
      · rw [List.drop_eq_getElem_cons (by simp), List.drop_eq_nil_of_le (by simp)]
        obtain ⟨hh, e⟩ := List.getElem?_eq_some_iff.1 hr
        rw [e]
    rw [h2, List.take_append_of_le_length (by simp), List.take_take, Nat.min_self]
    exact List.perm_append_comm (l₁ := [r])
theorem rmF_hd {H : List Ls} {r : Ls} {i : Nat} (hi : 0 < i) {y : En} (h : hd (rmF H r) i = some y) : hd H i = some y := by
  have hl := hd_lt h
  rw [rmF_len] at hl
  unfold hd rmF at h
  rw [List.getElem?_take_of_lt hl, List.getElem?_set, if_neg (by omega)] at h
  exact h
theorem Wt.cut {w : World} {B g q n c : Nat} {A : Option Addr} {H : List Ls} (h : Wt w B g q A n c H) {m : Nat} (hm : m ≤ n) : Wt (w.setCell ⟨g, 0, none⟩ (.slice A m c)) B g q A m c (H.take m) := by
  have hc := h.at_
  refine ⟨by simp [World.setCell, Array.getElem?_modify, hc], by rw [List.length_take, h.len]; omega, Nat.le_trans hm h.nc, h.cc, Nat.le_trans hm h.nm, h.ne, h.B0, h.B1, by simpa using h.BB, h.adr.imp id (fun e => by omega), fun hn => ?_, fun r hr => ?_⟩
  · obtain ⟨cur, h1, h2⟩ := h.row (by omega)
    refine ⟨cur, (Below.heap_setCell _ _ _ _ h.ne.symm).trans h1, fun i r hr => h2 i r ?_⟩
    by_cases e : i < m
    · rw [List.getElem?_take_of_lt e] at hr; exact hr
    · rw [List.getElem?_eq_none (by rw [List.length_take]; omega)] at hr; cases hr
  · have h2 := h.ls r (List.mem_of_mem_take hr)
    exact ⟨el_keepM h2.1 (fun p hp => World.cell?_of_block (Below.heap_setCell _ _ _ _ (by have := h.B0; show p.block ≠ g; omega))) (by simp), h2.2⟩

set_option maxHeartbeats 4000000 in
theorem removeFirst_any {w : World} {B g q n c : Nat} {A : Option Addr} {H : List Ls} {y : Ls} {R : List Ls} (hn : H.length = n) (he : H = y :: R) (hat : w.heap[g]? = some (.cells #[.slice A n c, cmpV] 66 (0, 0)))
    (hA : A = some ⟨q, 0, none⟩) (hne : g ≠ q) (hm : n ≤ 1000000) (hnc : n ≤ c) (r : Ls) (hr : w.cell? ⟨q, n - 1, none⟩ = some r.v) (hr0 : ∃ v, w.cell? ⟨q, 0, none⟩ = some v) (hf : w.frozen? ⟨q, 0, none⟩ = false) :
    Calls Try.prog 31 #[.pointer (some ⟨g, 0, none⟩)] w fun e w' => e = .returned (.tuple #[]) ∧ w' = ((w.setCell ⟨q, 0, none⟩ r.v).drew.setCell ⟨g, 0, none⟩ (.slice A (n - 1) c)) := by
  have hnp : 0 < n := by rw [← hn, he]; simp
  subst hA
  obtain ⟨m, rfl⟩ : ∃ m, n = m + 1 := ⟨n - 1, by omega⟩
  rw [Nat.add_sub_cancel] at hr ⊢
  obtain ⟨v0, hv0⟩ := hr0
  have hat2 : (w.setCell ⟨q, 0, none⟩ r.v).drew.heap[g]? = some (.cells #[.slice (some ⟨q, 0, none⟩) (m + 1) c, cmpV] 66 (0, 0)) := (Below.heap_setCell _ _ _ _ hne).trans hat
  have g0 := cell_of_row _ _ 0 _ _ (0, 0) hat
  have g2 := cell_of_row _ _ 0 _ _ (0, 0) hat2
  have f2 : (w.setCell ⟨q, 0, none⟩ r.v).drew.frozen? ⟨g, 0, none⟩ = false := by simp [World.frozen?, hat2]
  change w.cell? ⟨g, 0, none⟩ = some (.slice (some ⟨q, 0, none⟩) (m + 1) c) at g0
  change (w.setCell ⟨q, 0, none⟩ r.v).drew.cell? ⟨g, 0, none⟩ = some (.slice (some ⟨q, 0, none⟩) (m + 1) c) at g2
  have hs := fun W => run_headLs W (some ⟨q, 0, none⟩) (m + 1) c m (by omega)
  have i1 : ((m + 1 : Nat) : Int) - 1 = (m : Int) := by omega
  have i2 : (m : Int) < ((m + 1 : Nat) : Int) := by omega
  have i3 : (0 : Int) ≤ (m : Int) := by omega
  have i4 : (0 : Int) < ((m + 1 : Nat) : Int) := by omega
  unfold Ls.v at hr g2 f2 ⊢
  clear hat hat2 hn he hnp
  generalize r.A = A1 at *
  generalize r.n = n1 at *
  generalize r.c = c1 at *
  go_enter Try.func31, Try.ntmps31
  go_wp2
  go_region
  all_goals (
    go_wp2
    go_end0
    exact ⟨rfl, rfl⟩)
end Go.Proofs.Ytoljldokehfokaa

