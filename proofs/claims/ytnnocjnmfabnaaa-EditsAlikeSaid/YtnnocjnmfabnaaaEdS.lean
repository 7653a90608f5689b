/-
  Package edits: the reader's file.
-/
import Derived.Test.YtnnocjnmfabnaaaEdR
namespace Go.Proofs.Ytnnocjnmfabnaaa
open Go.RowKit
set_option linter.unusedVariables false
set_option maxRecDepth 100000

theorem rdN_len (s : RS) : (rdN s).2.1.length ≤ s.1.length := by unfold rdN; simp only [List.length_drop]; omega
theorem rdT_len (s : RS) : (rdT s).2.1.length ≤ s.1.length ∧ (rdT s).1.size ≤ s.1.length := by
  unfold rdT
  refine ⟨by simp only [List.length_drop]; omega, ?_⟩
  have := (txt_took s.1).2.1
  have e : (⟨(getText s.1).1.toArray⟩ : ByteArray).size = (getText s.1).1.length := by rw [← slen]
  rw [e]; exact this
theorem rdU_len (m : Nat) (s : RS) : (rdU m s).2.1.length ≤ s.1.length := rdN_len s
theorem rdS_len (s : RS) : (rdS s).2.1.length ≤ s.1.length := rdN_len s
theorem rdF_len (s : RS) : (rdF1 s).1.length ≤ s.1.length ∧ (rdF2 s).1.length ≤ s.1.length ∧ (rdF3 s).1.length ≤ s.1.length ∧ (rdF4 s).1.length ≤ s.1.length := by
  have h1 : (rdF1 s).1.length ≤ s.1.length := rdS_len s
  have h2 : (rdF2 s).1.length ≤ (rdF1 s).1.length := rdU_len 3 _
  have h3 : (rdF3 s).1.length ≤ (rdF2 s).1.length := (rdT_len _).1
  have h4 : (rdF4 s).1.length ≤ (rdF3 s).1.length := (rdT_len _).1
  omega
/-- four cells of a block are written -/
theorem four_setE {w : World} {E g : Nat} {a0 a1 a2 a3 : Value} {t : TypeId} (h : w.heap[E]? = some (.cells #[a0, a1, a2, a3] t (0, 0))) (hg : g ≤ E) (u0 u1 u2 u3 : Value) :
    ((((w.setCell ⟨E, 0, none⟩ u0).setCell ⟨E, 1, none⟩ u1).setCell ⟨E, 2, none⟩ u2).setCell ⟨E, 3, none⟩ u3).heap[E]? = some (.cells #[u0, u1, u2, u3] t (0, 0)) ∧
    w.grownBy ((((w.setCell ⟨E, 0, none⟩ u0).setCell ⟨E, 1, none⟩ u1).setCell ⟨E, 2, none⟩ u2).setCell ⟨E, 3, none⟩ u3) (some E) := by
  have st : ∀ {W : World} {k : Nat} {l : List Value} (v : Value), W.heap[E]? = some (.cells l.toArray t (0, 0)) → (W.setCell ⟨E, k, none⟩ v).heap[E]? = some (.cells (l.set k v).toArray t (0, 0)) := fun v h => by
    have := h
    simp [World.setCell, Array.getElem?_modify, h]
  exact ⟨st u3 (st u2 (st u1 (st (l := [a0, a1, a2, a3]) u0 h))), gro_trans (gro_trans (gro_trans (grE_set w ⟨E, 0, none⟩ _) (grE_set _ ⟨E, 1, none⟩ _)) (grE_set _ ⟨E, 2, none⟩ _)) (grE_set _ ⟨E, 3, none⟩ _)⟩
/-- a file that is being read: the reader, the answer's block, the file's -/
structure FS (w W : World) (B g B2 : Nat) (s : RS) (v0 v1 v2 v3 : Value) : Prop where
  rd : ∃ A n c, ER W B g s A n c
  b2 : W.heap[B2]? = some (.cells #[.int .u32 0, .int .i64 0, .string ⟨#[]⟩, .string ⟨#[]⟩] 37 (0, 0))
  b3 : W.heap[B2 + 1]? = some (.cells #[v0, v1, v2, v3] 37 (0, 0))
  os : W.os = w.os
  tape : W.tape = w.tape
  output : W.output = w.output
  size : w.heap.size ≤ W.heap.size
  block : ∀ k, k < w.heap.size → k ≠ g → W.heap[k]? = w.heap[k]?
  lt : g < w.heap.size
  sz : w.heap.size = B2
section
variable {w W W' : World} {B g B2 : Nat} {s s' : RS} {v0 v1 v2 v3 : Value}
theorem FS.ba (h : FS w W B g B2 s v0 v1 v2 v3) : B2 + 1 < W.heap.size := (Array.getElem?_eq_some_iff.1 h.b3).1
theorem FS.call (h : FS w W B g B2 s v0 v1 v2 v3) (hp : EP W B g s' W') : FS w W' B g B2 s' v0 v1 v2 v3 := by
  have hl := h.lt; have hz := h.sz; have hb := h.ba
  obtain ⟨hr, hg⟩ := hp
  exact ⟨hr, (hg.block _ (by omega) (by simp; omega)).trans h.b2, (hg.block _ hb (by simp; omega)).trans h.b3, hg.os.trans h.os, hg.tape.trans h.tape, hg.output.trans h.output, Nat.le_trans h.size hg.size,
    (fun k hk hne => (hg.block k (by omega) (by simpa using hne)).trans (h.block k hk hne)), h.lt, h.sz⟩
theorem ER.far {A : Option Addr} {n c : Nat} (h : ER w B g s A n c) {p : Addr} (hp : g < p.block) (u : Value) : ER (w.setCell p u) B g s A n c :=
  ⟨(Below.heap_setCell w p u g (by omega)).trans h.box, h.lies.setCell (by have := h.Bg; omega) _, h.nc, h.cm, h.Bg⟩
theorem FS.set (h : FS w W B g B2 s v0 v1 v2 v3) (k : Nat) (u : Value) {u0 u1 u2 u3 : Value} (e : [v0, v1, v2, v3].set k u = [u0, u1, u2, u3]) : FS w (W.setCell ⟨B2 + 1, k, none⟩ u) B g B2 s u0 u1 u2 u3 := by
  have hl := h.lt; have hz := h.sz
  obtain ⟨A, n, c, hr⟩ := h.rd
  refine ⟨⟨A, n, c, hr.far (by show g < B2 + 1; omega) u⟩, (Below.heap_setCell W ⟨B2 + 1, k, none⟩ u B2 (by show B2 ≠ B2 + 1; omega)).trans h.b2, ?_, h.os, h.tape, h.output, ?_, fun i hi hne => (Below.heap_setCell W ⟨B2 + 1, k, none⟩ u i (by show i ≠ B2 + 1; omega)).trans (h.block i hi hne), h.lt, h.sz⟩
  · have hb := h.b3
    simp [World.setCell, Array.getElem?_modify, hb]
    exact e
  · have : (W.setCell ⟨B2 + 1, k, none⟩ u).heap.size = W.heap.size := by simp [World.setCell]
    rw [this]; exact h.size
theorem FS.cs (h : FS w W B g B2 s v0 v1 v2 v3) : W.cell? ⟨B2 + 1, 0, none⟩ = some v0 ∧ W.cell? ⟨B2 + 1, 1, none⟩ = some v1 ∧ W.cell? ⟨B2 + 1, 2, none⟩ = some v2 ∧ W.cell? ⟨B2 + 1, 3, none⟩ = some v3 ∧ ∀ o, W.frozen? ⟨B2 + 1, o, none⟩ = false :=
  ⟨cell_of_row _ _ 0 _ _ (0, 0) h.b3, cell_of_row _ _ 1 _ _ (0, 0) h.b3, cell_of_row _ _ 2 _ _ (0, 0) h.b3, cell_of_row _ _ 3 _ _ (0, 0) h.b3, fun o => by have := h.b3; simp [World.frozen?, this]⟩
theorem FS.gr (h : FS w W B g B2 s v0 v1 v2 v3) : w.grownBy W (some g) := ⟨h.os, h.tape, h.output, h.size, fun k hk hne => h.block k hk (fun e => hne (by rw [e]))⟩
end
theorem fs_start {w : World} {B g n c : Nat} {s : RS} {A : Option Addr} (h : ER w B g s A n c) :
    FS w ((w.alloc (.cells #[.int .u32 0, .int .i64 0, .string ⟨#[]⟩, .string ⟨#[]⟩] 37)).alloc (.cells #[.int .u32 0, .int .i64 0, .string ⟨#[]⟩, .string ⟨#[]⟩] 37)) B g w.heap.size s (.int .u32 0) (.int .i64 0) (.string ⟨#[]⟩) (.string ⟨#[]⟩) := by
  have hb1 : Below w.heap.size w (w.alloc (.cells #[.int .u32 0, .int .i64 0, .string ⟨#[]⟩, .string ⟨#[]⟩] 37)) := (Below.refl _ _).alloc (Nat.le_refl _) _
  have hb := hb1.alloc hb1.size (.cells #[.int .u32 0, .int .i64 0, .string ⟨#[]⟩, .string ⟨#[]⟩] 37)
  have e1 := heap_alloc_new w (.cells #[.int .u32 0, .int .i64 0, .string ⟨#[]⟩, .string ⟨#[]⟩] 37)
  have e2 := heap_alloc_new (w.alloc (.cells #[.int .u32 0, .int .i64 0, .string ⟨#[]⟩, .string ⟨#[]⟩] 37)) (.cells #[.int .u32 0, .int .i64 0, .string ⟨#[]⟩, .string ⟨#[]⟩] 37)
  have hs : (w.alloc (.cells #[.int .u32 0, .int .i64 0, .string ⟨#[]⟩, .string ⟨#[]⟩] 37)).heap.size = w.heap.size + 1 := by simp
  rw [hs] at e2
  exact ⟨⟨A, n, c, h.below hb⟩, (Below.heap_alloc _ _ _ (by omega)).trans e1, e2, hb.os, hb.tape, hb.output, hb.size, fun k hk _ => hb.block k hk, h.lt, rfl⟩

set_option maxHeartbeats 8000000 in
theorem efile_any (B g n c : Nat) (s : RS) (A : Option Addr) (w : World) (h : ER w B g s A n c) (hn : n ≤ 1099511627776) :
    Calls Try.prog 31 #[.pointer (some ⟨g, 0, none⟩)] w fun e w' => e = .returned (rdF s).1.v ∧ EP w B g (rdF s).2 w' := by
  have hlen := rdF_len s
  have htx1 := (rdT_len (rdF2 s)).2; have htx2 := (rdT_len (rdF3 s)).2
  rw [h.len] at hlen
  have h0 := fs_start h
  have hs2 : (w.alloc (.cells #[.int .u32 0, .int .i64 0, .string ⟨#[]⟩, .string ⟨#[]⟩] 37)).heap.size = w.heap.size + 1 := by simp
  obtain ⟨B2, hB2⟩ : ∃ B2, w.heap.size = B2 := ⟨_, rfl⟩
  rw [hB2] at h0 hs2
  obtain ⟨W1, hW1⟩ : ∃ W, (w.alloc (.cells #[.int .u32 0, .int .i64 0, .string ⟨#[]⟩, .string ⟨#[]⟩] 37)).alloc (.cells #[.int .u32 0, .int .i64 0, .string ⟨#[]⟩, .string ⟨#[]⟩] 37) = W := ⟨_, rfl⟩
  rw [hW1] at h0
  have hR : Hid (rdF s = (rdFi s, ((rdF4 s).1, (rdF4 s).2 || !okFi (rdFi s)))) := rfl
  rw [hR.out]
  obtain ⟨nm, hnm⟩ : ∃ x, (rdS s).1 = x := ⟨_, rfl⟩
  obtain ⟨lv0, hlv⟩ : ∃ x, (rdU 3 (rdF1 s)).1 = x := ⟨_, rfl⟩
  obtain ⟨lv, hlv2⟩ : ∃ x, IntKind.i64.wrap (lv0 : Int) = x := ⟨_, rfl⟩
  obtain ⟨ka, hka⟩ : ∃ x, (rdT (rdF2 s)).1 = x := ⟨_, rfl⟩
  obtain ⟨kz, hkz⟩ : ∃ x, (rdT (rdF3 s)).1 = x := ⟨_, rfl⟩
  have hFi : rdFi s = ⟨nm, lv, ka, kz⟩ := by unfold rdFi; rw [hnm, hlv, hlv2, hka, hkz]
  rw [hFi]
  rw [hka] at htx1; rw [hkz] at htx2
  have C1 : Hid (∀ (W : World) A n c, ER W B g s A n c → Calls Try.prog 33 #[.pointer (some ⟨g, 0, none⟩)] W fun e w' => e = .returned (.int .u32 (nm : Int)) ∧ EP W B g (rdF1 s) w') := fun W A n c hr => by rw [← hnm]; exact eshort_any B g n c s A W hr
  have C2 : Hid (∀ (W : World) A n c, ER W B g (rdF1 s) A n c → Calls Try.prog 43 #[.pointer (some ⟨g, 0, none⟩), .int .u64 3] W fun e w' => e = .returned (.int .u64 (lv0 : Int)) ∧ EP W B g (rdF2 s) w') := fun W A n c hr => by rw [← hlv]; exact eupTo_any B g n c 3 (rdF1 s) A W hr
  have C3 : Hid (∀ (W : World) A n c, ER W B g (rdF2 s) A n c → Calls Try.prog 44 #[.pointer (some ⟨g, 0, none⟩)] W fun e w' => e = .returned (.string ka) ∧ EP W B g (rdF3 s) w') := fun W A n c hr => by rw [← hka]; exact etext_any B g n c (rdF2 s) A W hr
  have C4 : Hid (∀ (W : World) A n c, ER W B g (rdF3 s) A n c → Calls Try.prog 44 #[.pointer (some ⟨g, 0, none⟩)] W fun e w' => e = .returned (.string kz) ∧ EP W B g (rdF4 s) w') := fun W A n c hr => by rw [← hkz]; exact etext_any B g n c (rdF3 s) A W hr
  have CV : Hid (∀ W, Calls Try.prog 17 #[.agg #[.int .u32 (nm : Int), .int .i64 lv, .string ka, .string kz]] W fun e w' => e = .returned (.bool (okFi ⟨nm, lv, ka, kz⟩)) ∧ w' = fiW W ⟨nm, lv, ka, kz⟩) := fun W => isValid_sz ⟨nm, lv, ka, kz⟩ W (by show ka.size ≤ _; omega) (by show kz.size ≤ _; omega)
  obtain ⟨ok, hok⟩ : ∃ b, okFi ⟨nm, lv, ka, kz⟩ = b := ⟨_, rfl⟩
  rw [hok] at CV ⊢
  obtain ⟨⟨l4, bad⟩, h4⟩ : ∃ r, rdF4 s = r := ⟨_, rfl⟩
  rw [h4] at C4 ⊢
  dsimp only
  clear h4
  have H0 := Lib.hid h0
  have HWr := Lib.hid hlv2
  clear h hlen htx1 htx2 h0 hR hnm hlv hka hkz hFi hok
  go_enter Try.func31, Try.ntmps31
  go_wp2_with fail
  clear hW1
  obtain ⟨A1, n1, c1, r1⟩ := H0.out.rd
  with_reducible refine Calls.mono (C1.out _ _ _ _ r1) ?_
  rintro e w2 ⟨rfl, hp⟩
  have S1 := H0.out.call hp
  obtain ⟨z0, z1, z2, z3, fz⟩ := S1.cs
  have f0 := fz 0
  have T1 := S1.set 0 (.int .u32 (nm : Int)) rfl
  obtain ⟨W11, hW11⟩ : ∃ W, w2.setCell ⟨B2 + 1, 0, none⟩ (.int .u32 (nm : Int)) = W := ⟨_, rfl⟩
  rw [hW11] at T1
  have H1 := Lib.hid T1
  clear hp S1 T1 fz
  go_wp2_with fail
  clear hW11 z0 z1 z2 z3 f0
  obtain ⟨A2, n2, c2, r2⟩ := H1.out.rd
  with_reducible refine Calls.mono (C2.out _ _ _ _ r2) ?_
  rintro e w3 ⟨rfl, hp⟩
  have S2 := H1.out.call hp
  obtain ⟨z0, z1, z2, z3, fz⟩ := S2.cs
  have f0 := fz 1
  have T2 := S2.set 1 (.int .i64 lv) rfl
  obtain ⟨W12, hW12⟩ : ∃ W, w3.setCell ⟨B2 + 1, 1, none⟩ (.int .i64 lv) = W := ⟨_, rfl⟩
  rw [hW12] at T2
  have H2 := Lib.hid T2
  clear hp S2 T2 fz
  have hlv3 := HWr.out
  go_wp2_with fail
  clear hlv3
  clear hW12 z0 z1 z2 z3 f0
  obtain ⟨A3, n3, c3, r3⟩ := H2.out.rd
  with_reducible refine Calls.mono (C3.out _ _ _ _ r3) ?_
  rintro e w4 ⟨rfl, hp⟩
  have S3 := H2.out.call hp
  obtain ⟨z0, z1, z2, z3, fz⟩ := S3.cs
  have f0 := fz 2
  have T3 := S3.set 2 (.string ka) rfl
  obtain ⟨W13, hW13⟩ : ∃ W, w4.setCell ⟨B2 + 1, 2, none⟩ (.string ka) = W := ⟨_, rfl⟩
  rw [hW13] at T3
  have H3 := Lib.hid T3
  clear hp S3 T3 fz
  go_wp2_with fail
  clear hW13 z0 z1 z2 z3 f0
  obtain ⟨A4, n4, c4, r4⟩ := H3.out.rd
  with_reducible refine Calls.mono (C4.out _ _ _ _ r4) ?_
  rintro e w5 ⟨rfl, hp⟩
  have S4 := H3.out.call hp
  obtain ⟨z0, z1, z2, z3, fz⟩ := S4.cs
  have f3 := fz 3
  have T4 := S4.set 3 (.string kz) rfl
  obtain ⟨W6, hW6⟩ : ∃ W, w5.setCell ⟨B2 + 1, 3, none⟩ (.string kz) = W := ⟨_, rfl⟩
  rw [hW6] at T4
  have H4 := Lib.hid T4
  obtain ⟨y0, y1, y2, y3, _⟩ := T4.cs
  obtain ⟨A5, n5, c5, r5⟩ := T4.rd
  have hbad := r5.c1
  have hfr := r5.f 1
  have R5 := Lib.hid r5
  clear hp S4 T4 fz r5 r1 r2 r3 r4
  dsimp only at hbad
  cases bad with
  | true =>
    have T5 : FS w (W6.setCell ⟨g, 1, none⟩ (.bool true)) B g B2 (l4, true) (.int .u32 (nm : Int)) (.int .i64 lv) (.string ka) (.string kz) := H4.out.call ⟨⟨_, _, _, R5.out.set1 true⟩, grE_set W6 ⟨g, 1, none⟩ _⟩
    obtain ⟨W7, hW7⟩ : ∃ W, W6.setCell ⟨g, 1, none⟩ (.bool true) = W := ⟨_, rfl⟩
    rw [hW7] at T5
    obtain ⟨y0, y1, y2, y3, _⟩ := T5.cs
    have hb2 := T5.b2
    have x0 := cell_of_row W7 _ 0 _ _ (0, 0) hb2
    have x1 := cell_of_row W7 _ 1 _ _ (0, 0) hb2
    have x2 := cell_of_row W7 _ 2 _ _ (0, 0) hb2
    have x3 := cell_of_row W7 _ 3 _ _ (0, 0) hb2
    have x0 : W7.cell? ⟨B2, 0, none⟩ = some (.int .u32 0) := x0
    have x1 : W7.cell? ⟨B2, 1, none⟩ = some (.int .i64 0) := x1
    have x2 : W7.cell? ⟨B2, 2, none⟩ = some (.string ⟨#[]⟩) := x2
    have x3 : W7.cell? ⟨B2, 3, none⟩ = some (.string ⟨#[]⟩) := x3
    have g0 : W7.frozen? ⟨B2, 0, none⟩ = false := by simp [World.frozen?, hb2]
    have g1 : W7.frozen? ⟨B2, 1, none⟩ = false := by simp [World.frozen?, hb2]
    have g2 : W7.frozen? ⟨B2, 2, none⟩ = false := by simp [World.frozen?, hb2]
    have g3 : W7.frozen? ⟨B2, 3, none⟩ = false := by simp [World.frozen?, hb2]
    have HS := Lib.hid (four_setE (g := B2) hb2 (Nat.le_refl _) (.int .u32 (nm : Int)) (.int .i64 lv) (.string ka) (.string kz))
    have H5 := Lib.hid T5
    clear T5 hb2
    obtain ⟨W8, hW8⟩ : ∃ W, (((W7.setCell ⟨B2, 0, none⟩ (.int .u32 (nm : Int))).setCell ⟨B2, 1, none⟩ (.int .i64 lv)).setCell ⟨B2, 2, none⟩ (.string ka)).setCell ⟨B2, 3, none⟩ (.string kz) = W := ⟨_, rfl⟩
    rw [hW8] at HS
    obtain ⟨hf8, hg8⟩ := HS.out
    have u0 : W8.cell? ⟨B2, 0, none⟩ = some (.int .u32 (nm : Int)) := cell_of_row W8 _ 0 _ _ (0, 0) hf8
    have u1 : W8.cell? ⟨B2, 1, none⟩ = some (.int .i64 lv) := cell_of_row W8 _ 1 _ _ (0, 0) hf8
    have u2 : W8.cell? ⟨B2, 2, none⟩ = some (.string ka) := cell_of_row W8 _ 2 _ _ (0, 0) hf8
    have u3 : W8.cell? ⟨B2, 3, none⟩ = some (.string kz) := cell_of_row W8 _ 3 _ _ (0, 0) hf8
    have HF : Hid (EP w B g (l4, true) W8) := by
      have hl := H5.out.lt; have hz := H5.out.sz
      obtain ⟨A, n, c, hr⟩ := H5.out.rd
      refine ⟨⟨A, n, c, ⟨(hg8.block g hr.lt (by simp; omega)).trans hr.box, hr.lies.keep (fun p hp => ?_), hr.nc, hr.cm, hr.Bg⟩⟩, ?_⟩
      · have hB := hr.Bg
        have hlt := hr.lt
        unfold World.cell?
        rw [hg8.block p.block (by omega) (by simp; omega)]
      · have q := H5.out
        exact ⟨hg8.os.trans q.os, hg8.tape.trans q.tape, hg8.output.trans q.output, Nat.le_trans q.size hg8.size, fun k hk hne => (hg8.block k (Nat.lt_of_lt_of_le hk q.size) (by simp; omega)).trans (q.block k hk (fun e => hne (by rw [e])))⟩
    clear hf8 hg8 HS
    go_wp2
    clear x0 x1 x2 x3 g0 g1 g2 g3 y0 y1 y2 y3
    exact bodyPost_ret (v := .agg #[.int .u32 (nm : Int), .int .i64 lv, .string ka, .string kz]) (by simp [results, Try.results31, go_sem, u0, u1, u2, u3]) rfl ⟨rfl, HF.out⟩
  | false =>
    go_wp2_with fail
    clear hW6 z0 z1 z2 z3 f3
    with_reducible refine Calls.mono (CV.out _) ?_
    rintro e w6 ⟨rfl, hw6⟩
    have T6 : FS w w6 B g B2 (l4, false) (.int .u32 (nm : Int)) (.int .i64 lv) (.string ka) (.string kz) := by
      have hb := fiW_below W6 ⟨nm, lv, ka, kz⟩
      rw [hw6]
      exact H4.out.call ⟨⟨_, _, _, R5.out.below hb⟩, grE_below hb _⟩
    have R6 : ER w6 B g (l4, false) A5 n5 c5 := by rw [hw6]; exact R5.out.below (fiW_below W6 _)
    have hbad6 := R6.c1
    have hfr6 := R6.f 1
    have T5 : FS w (w6.setCell ⟨g, 1, none⟩ (.bool (!ok))) B g B2 (l4, !ok) (.int .u32 (nm : Int)) (.int .i64 lv) (.string ka) (.string kz) := T6.call ⟨⟨_, _, _, R6.set1 (!ok)⟩, grE_set w6 ⟨g, 1, none⟩ _⟩
    obtain ⟨W7, hW7⟩ : ∃ W, w6.setCell ⟨g, 1, none⟩ (.bool (!ok)) = W := ⟨_, rfl⟩
    rw [hW7] at T5
    clear hw6 T6 R6 y0 y1 y2 y3 hbad hfr
    obtain ⟨y0, y1, y2, y3, _⟩ := T5.cs
    have hb2 := T5.b2
    have x0 := cell_of_row W7 _ 0 _ _ (0, 0) hb2
    have x1 := cell_of_row W7 _ 1 _ _ (0, 0) hb2
    have x2 := cell_of_row W7 _ 2 _ _ (0, 0) hb2
    have x3 := cell_of_row W7 _ 3 _ _ (0, 0) hb2
    have x0 : W7.cell? ⟨B2, 0, none⟩ = some (.int .u32 0) := x0
    have x1 : W7.cell? ⟨B2, 1, none⟩ = some (.int .i64 0) := x1
    have x2 : W7.cell? ⟨B2, 2, none⟩ = some (.string ⟨#[]⟩) := x2
    have x3 : W7.cell? ⟨B2, 3, none⟩ = some (.string ⟨#[]⟩) := x3
    have g0 : W7.frozen? ⟨B2, 0, none⟩ = false := by simp [World.frozen?, hb2]
    have g1 : W7.frozen? ⟨B2, 1, none⟩ = false := by simp [World.frozen?, hb2]
    have g2 : W7.frozen? ⟨B2, 2, none⟩ = false := by simp [World.frozen?, hb2]
    have g3 : W7.frozen? ⟨B2, 3, none⟩ = false := by simp [World.frozen?, hb2]
    have HS := Lib.hid (four_setE (g := B2) hb2 (Nat.le_refl _) (.int .u32 (nm : Int)) (.int .i64 lv) (.string ka) (.string kz))
    have H5 := Lib.hid T5
    clear T5 hb2
    obtain ⟨W8, hW8⟩ : ∃ W, (((W7.setCell ⟨B2, 0, none⟩ (.int .u32 (nm : Int))).setCell ⟨B2, 1, none⟩ (.int .i64 lv)).setCell ⟨B2, 2, none⟩ (.string ka)).setCell ⟨B2, 3, none⟩ (.string kz) = W := ⟨_, rfl⟩
    rw [hW8] at HS
    obtain ⟨hf8, hg8⟩ := HS.out
    have u0 : W8.cell? ⟨B2, 0, none⟩ = some (.int .u32 (nm : Int)) := cell_of_row W8 _ 0 _ _ (0, 0) hf8
    have u1 : W8.cell? ⟨B2, 1, none⟩ = some (.int .i64 lv) := cell_of_row W8 _ 1 _ _ (0, 0) hf8
    have u2 : W8.cell? ⟨B2, 2, none⟩ = some (.string ka) := cell_of_row W8 _ 2 _ _ (0, 0) hf8
    have u3 : W8.cell? ⟨B2, 3, none⟩ = some (.string kz) := cell_of_row W8 _ 3 _ _ (0, 0) hf8
    have HF : Hid (EP w B g (l4, !ok) W8) := by
      have hl := H5.out.lt; have hz := H5.out.sz
      obtain ⟨A, n, c, hr⟩ := H5.out.rd
      refine ⟨⟨A, n, c, ⟨(hg8.block g hr.lt (by simp; omega)).trans hr.box, hr.lies.keep (fun p hp => ?_), hr.nc, hr.cm, hr.Bg⟩⟩, ?_⟩
      · have hB := hr.Bg
        have hlt := hr.lt
        unfold World.cell?
        rw [hg8.block p.block (by omega) (by simp; omega)]
      · have q := H5.out
        exact ⟨hg8.os.trans q.os, hg8.tape.trans q.tape, hg8.output.trans q.output, Nat.le_trans q.size hg8.size, fun k hk hne => (hg8.block k (Nat.lt_of_lt_of_le hk q.size) (by simp; omega)).trans (q.block k hk (fun e => hne (by rw [e])))⟩
    clear hf8 hg8 HS
    go_wp2
    clear x0 x1 x2 x3 g0 g1 g2 g3 y0 y1 y2 y3
    exact bodyPost_ret (v := .agg #[.int .u32 (nm : Int), .int .i64 lv, .string ka, .string kz]) (by simp [results, Try.results31, go_sem, u0, u1, u2, u3]) rfl ⟨rfl, HF.out⟩
end Go.Proofs.Ytnnocjnmfabnaaa
