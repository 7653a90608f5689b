/-
  Package edits: the reader's parts.
-/
import Derived.Test.YtnnocjnmfabnaaaEdC
import Derived.Test.YtnnocjnmfabnaaaEdN
import Derived.Test.YtnnocjnmfabnaaaInC
namespace Go.Proofs.Ytnnocjnmfabnaaa
open Go.RowKit
set_option linter.unusedVariables false
set_option maxRecDepth 100000

theorem vi_took (l : List UInt8) : (Vi.get l).2.1 ≤ l.length := by
  rcases hg : Vi.get l with ⟨k, t, e⟩
  by_cases he : e = 0
  · subst he
    exact (Vi.get_back l k t hg).2.2.2.1
  · have := (Vi.get_bad l k t e hg he).2.1
    show t ≤ _
    omega
theorem txt_took (l : List UInt8) : (getText l).2.1 ≤ l.length ∧ (getText l).1.length ≤ l.length ∧ (getText l).2.2 ≤ 5 := by
  have h1 := vi_took l
  have h2 := (Vi.get_lt l).2.2
  unfold getText
  split
  · exact ⟨Nat.zero_le _, Nat.zero_le _, h2⟩
  · split
    · exact ⟨Nat.zero_le _, Nat.zero_le _, by decide⟩
    · refine ⟨?_, ?_, Nat.zero_le _⟩
      · show (Vi.get l).2.1 + (Vi.get l).1 ≤ l.length
        omega
      · simp; omega
/-- a reader: the bytes that are not read yet, and whether it is bad -/
structure ER (w : World) (B g : Nat) (s : RS) (A : Option Addr) (n c : Nat) : Prop where
  box : w.heap[g]? = some (.cells #[.slice A n c, .bool s.2] 54 (0, 0))
  lies : Lies w B 1 A n (s.1.map bv)
  nc : n ≤ c
  cm : c ≤ maxLen
  Bg : B ≤ g
section
variable {w w' : World} {B g n c : Nat} {s : RS} {A : Option Addr}
theorem ER.lt (h : ER w B g s A n c) : g < w.heap.size := (Array.getElem?_eq_some_iff.1 h.box).1
theorem ER.c0 (h : ER w B g s A n c) : w.cell? ⟨g, 0, none⟩ = some (.slice A n c) := cell_of_row w g 0 _ _ (0, 0) h.box
theorem ER.c1 (h : ER w B g s A n c) : w.cell? ⟨g, 1, none⟩ = some (.bool s.2) := cell_of_row w g 1 _ _ (0, 0) h.box
theorem ER.f (h : ER w B g s A n c) (o : Nat) : w.frozen? ⟨g, o, none⟩ = false := by simp [World.frozen?, h.box]
theorem ER.mem (h : ER w B g s A n c) : Lies w w.heap.size 1 A n (s.1.map bv) := h.lies.more (by have := h.lt; have := h.Bg; omega)
theorem ER.below (h : ER w B g s A n c) (hb : Below w.heap.size w w') : ER w' B g s A n c :=
  ⟨(hb.block _ h.lt).trans h.box, h.lies.keep fun p hp => hb.cell (Nat.lt_of_lt_of_le hp (by have := h.lt; have := h.Bg; omega)), h.nc, h.cm, h.Bg⟩
theorem ER.set0 (h : ER w B g s A n c) {A' : Option Addr} {n' c' : Nat} {l' : List UInt8} (hl : Lies w B 1 A' n' (l'.map bv)) (h1 : n' ≤ c') (h2 : c' ≤ maxLen) : ER (w.setCell ⟨g, 0, none⟩ (.slice A' n' c')) B g (l', s.2) A' n' c' :=
  ⟨by have hb := h.box; simp [World.setCell, Array.getElem?_modify, hb], hl.setCell (by simpa using h.Bg) _, h1, h2, h.Bg⟩
theorem ER.set1 (h : ER w B g s A n c) (b : Bool) : ER (w.setCell ⟨g, 1, none⟩ (.bool b)) B g (s.1, b) A n c :=
  ⟨by have hb := h.box; simp [World.setCell, Array.getElem?_modify, hb], h.lies.setCell (by simpa using h.Bg) _, h.nc, h.cm, h.Bg⟩
theorem ER.len (h : ER w B g s A n c) : s.1.length = n := h.lies.blen
end
theorem grE_below {w w' : World} (h : Below w.heap.size w w') (row : Option Nat) : w.grownBy w' row := ⟨h.os, h.tape, h.output, h.size, fun k hk _ => h.block k hk⟩
theorem grE_set (w : World) (p : Addr) (u : Value) : w.grownBy (w.setCell p u) (some p.block) :=
  ⟨rfl, rfl, rfl, by simp [World.setCell], fun k _ hne => Below.heap_setCell w p u k (fun e => hne (by rw [e]))⟩
/-- what a part of the reader leaves -/
def EP (w : World) (B g : Nat) (s : RS) (w' : World) : Prop := (∃ A n c, ER w' B g s A n c) ∧ w.grownBy w' (some g)

set_option maxHeartbeats 2000000 in
theorem eskip_any (B g n c t e0 : Nat) (s : RS) (A : Option Addr) (w : World) (h : ER w B g s A n c) (ht : t ≤ n) :
    Calls Try.prog 46 #[.pointer (some ⟨g, 0, none⟩), .int .i64 (t : Int), .int .i64 (e0 : Int)] w fun e w' => e = .returned (.tuple #[]) ∧ EP w B g (s.1.drop t, s.2 || decide (e0 ≠ 0)) w' := by
  have c0 := h.c0; have f0 := h.f 0
  have hcut := run_cut w A n c t ht
  have h1 := h.set0 (h.lies.cutA ht h.nc) (show n - t ≤ c - t by have := h.nc; omega) (show c - t ≤ maxLen by have := h.cm; omega)
  have HR1 := Lib.hid h1
  have he0 : ((e0 : Int) != 0) = decide (e0 ≠ 0) := by
    rw [Bool.eq_iff_iff, bne_iff_ne, decide_eq_true_eq]; omega
  obtain ⟨bo, hbo⟩ : ∃ b, decide (e0 ≠ 0) = b := ⟨_, rfl⟩
  rw [hbo] at he0 ⊢
  obtain ⟨W1, hW1⟩ : ∃ W, w.setCell ⟨g, 0, none⟩ (.slice (cutA A c t) (n - t) (c - t)) = W := ⟨_, rfl⟩
  have hg1 : w.grownBy W1 (some g) := by rw [← hW1]; exact grE_set w ⟨g, 0, none⟩ _
  rw [hW1] at HR1
  have c1 := HR1.out.c1; have f1 := HR1.out.f 1
  have HF : Hid (∀ b, EP w B g (s.1.drop t, b) (W1.setCell ⟨g, 1, none⟩ (.bool b))) := fun b => ⟨⟨_, _, _, HR1.out.set1 b⟩, gro_trans hg1 (grE_set W1 ⟨g, 1, none⟩ _)⟩
  obtain ⟨l, bad⟩ := s
  dsimp only at c1 HF ⊢
  clear h h1 hg1 HR1 hbo
  cases bad
  · go_enter Try.func46, Try.ntmps46
    go_wp2
    go_end0
    exact ⟨rfl, HF.out _⟩
  · go_enter Try.func46, Try.ntmps46
    go_wp2
    go_end0
    exact ⟨rfl, HF.out _⟩
set_option maxHeartbeats 1000000 in
theorem enum_any (B g n c : Nat) (s : RS) (A : Option Addr) (w : World) (h : ER w B g s A n c) :
    Calls Try.prog 34 #[.pointer (some ⟨g, 0, none⟩)] w fun e w' => e = .returned (.int .u64 ((rdN s).1 : Int)) ∧ EP w B g (rdN s).2 w' := by
  have G := get_any A n c s.1 w h.mem h.nc h.cm
  have htk := vi_took s.1
  rw [h.len] at htk
  have c0 := h.c0
  have HR := Lib.hid h
  unfold rdN
  obtain ⟨z, hz⟩ : ∃ z, (Vi.get s.1).1 = z := ⟨_, rfl⟩
  obtain ⟨t, ht⟩ : ∃ t, (Vi.get s.1).2.1 = t := ⟨_, rfl⟩
  obtain ⟨e0, he⟩ : ∃ e0, (Vi.get s.1).2.2 = e0 := ⟨_, rfl⟩
  rw [hz, ht, he] at G
  rw [hz, ht, he]
  rw [ht] at htk
  have HG := Lib.hid G
  clear hz ht he G h
  go_enter Try.func34, Try.ntmps34
  go_wp2_with fail
  with_reducible refine Calls.mono HG.out ?_
  rintro e w1 ⟨rfl, hb1⟩
  have HS := Lib.hid (eskip_any B g n c t e0 s A w1 (HR.out.below hb1) htk)
  have HB1 := Lib.hid hb1
  clear HG HR c0 hb1
  go_wp2_with fail
  with_reducible refine Calls.mono HS.out ?_
  rintro e w2 ⟨rfl, hr2, hg2⟩
  have HF : Hid (EP w B g (s.1.drop t, s.2 || decide (e0 ≠ 0)) w2) := ⟨hr2, gro_trans (grE_below HB1.out _) hg2⟩
  clear hr2 hg2 HS
  go_wp2
  go_ret
  exact ⟨rfl, HF.out⟩
set_option maxHeartbeats 1000000 in
theorem etext_any (B g n c : Nat) (s : RS) (A : Option Addr) (w : World) (h : ER w B g s A n c) :
    Calls Try.prog 44 #[.pointer (some ⟨g, 0, none⟩)] w fun e w' => e = .returned (.string (rdT s).1) ∧ EP w B g (rdT s).2 w' := by
  have G := getText_any A n c s.1 w h.mem h.nc h.cm
  have htk := (txt_took s.1).1
  rw [h.len] at htk
  have c0 := h.c0
  have HR := Lib.hid h
  unfold rdT
  obtain ⟨z, hz⟩ : ∃ z, (getText s.1).1 = z := ⟨_, rfl⟩
  obtain ⟨t, ht⟩ : ∃ t, (getText s.1).2.1 = t := ⟨_, rfl⟩
  obtain ⟨e0, he⟩ : ∃ e0, (getText s.1).2.2 = e0 := ⟨_, rfl⟩
  rw [hz, ht, he] at G
  rw [hz, ht, he]
  rw [ht] at htk
  have HG := Lib.hid G
  clear hz ht he G h
  go_enter Try.func44, Try.ntmps44
  go_wp2_with fail
  with_reducible refine Calls.mono HG.out ?_
  rintro e w1 ⟨rfl, hb1⟩
  have HS := Lib.hid (eskip_any B g n c t e0 s A w1 (HR.out.below hb1) htk)
  have HB1 := Lib.hid hb1
  clear HG HR c0 hb1
  go_wp2_with fail
  with_reducible refine Calls.mono HS.out ?_
  rintro e w2 ⟨rfl, hr2, hg2⟩
  have HF : Hid (EP w B g (s.1.drop t, s.2 || decide (e0 ≠ 0)) w2) := ⟨hr2, gro_trans (grE_below HB1.out _) hg2⟩
  clear hr2 hg2 HS
  go_wp2
  go_ret
  exact ⟨rfl, HF.out⟩
set_option maxHeartbeats 1000000 in
theorem eupTo_any (B g n c m : Nat) (s : RS) (A : Option Addr) (w : World) (h : ER w B g s A n c) :
    Calls Try.prog 43 #[.pointer (some ⟨g, 0, none⟩), .int .u64 (m : Int)] w fun e w' => e = .returned (.int .u64 ((rdU m s).1 : Int)) ∧ EP w B g (rdU m s).2 w' := by
  have HN := Lib.hid (enum_any B g n c s A w h)
  unfold rdU
  obtain ⟨⟨z, l, bad⟩, hz⟩ : ∃ r, rdN s = r := ⟨_, rfl⟩
  rw [hz] at HN ⊢
  dsimp only at HN ⊢
  have hgt : decide ((m : Int) < (z : Int)) = decide (m < z) := by rw [decide_eq_decide]; omega
  obtain ⟨bo, hbo⟩ : ∃ b, decide (m < z) = b := ⟨_, rfl⟩
  rw [hbo] at hgt ⊢
  have HBo := Lib.hid hbo
  clear h hz hbo hgt
  go_enter Try.func43, Try.ntmps43
  go_wp2_with fail
  with_reducible refine Calls.mono HN.out ?_
  rintro e w1 ⟨rfl, ⟨A1, n1, c1', hr1⟩, hg1⟩
  have c1 := hr1.c1; have f1 := hr1.f 1
  have HF : Hid (∀ b, EP w B g (l, b) (w1.setCell ⟨g, 1, none⟩ (.bool b))) := fun b => ⟨⟨_, _, _, hr1.set1 b⟩, gro_trans hg1 (grE_set w1 ⟨g, 1, none⟩ _)⟩
  dsimp only at c1
  clear hr1 hg1 HN
  cases bad
  · go_wp2
    go_ret
    rw [← HBo.out]
    exact ⟨rfl, HF.out _⟩
  · go_wp2
    go_ret
    exact ⟨rfl, HF.out _⟩
set_option maxHeartbeats 1000000 in
theorem eshort_any (B g n c : Nat) (s : RS) (A : Option Addr) (w : World) (h : ER w B g s A n c) :
    Calls Try.prog 33 #[.pointer (some ⟨g, 0, none⟩)] w fun e w' => e = .returned (.int .u32 ((rdS s).1 : Int)) ∧ EP w B g (rdS s).2 w' := by
  have HN := Lib.hid (eupTo_any B g n c 4294967295 s A w h)
  unfold rdS
  obtain ⟨⟨z, r⟩, hz⟩ : ∃ r, rdU 4294967295 s = r := ⟨_, rfl⟩
  rw [hz] at HN ⊢
  dsimp only at HN ⊢
  have hw : IntKind.u32.wrap (z : Int) = ((z % 4294967296 : Nat) : Int) := by
    unfold IntKind.wrap
    simp [IntKind.bits, IntKind.signed]
  have HN2 : Hid (Calls Try.prog 43 #[.pointer (some ⟨g, 0, none⟩), .int .u64 4294967295] w fun e w' => e = .returned (.int .u64 (z : Int)) ∧ EP w B g r w') := HN.out
  clear h hz HN
  go_enter Try.func33, Try.ntmps33
  go_wp2_with fail
  with_reducible refine Calls.mono HN2.out ?_
  rintro e w1 ⟨rfl, h1⟩
  have HF := Lib.hid h1
  clear h1 HN2
  go_wp2
  go_ret
  exact ⟨rfl, HF.out⟩
end Go.Proofs.Ytnnocjnmfabnaaa
