/-
  Contracts of package blocks: the reader's skip, number, text, state.
  Contracts of package blocks: the reader's key, entry.
  Contracts of package blocks: the reader's entry.
-/
import Derived.Test.YtghfhojpnbpjoaaBkNR
import Derived.Test.YtghfhojpnbpjoaaSuX
import Derived.Test.YtghfhojpnbpjoaaInC
import Derived.Deep.Cut
import Derived.Test.YtghfhojpnbpjoaaPlTx
import Derived.Laws.IdiomStrings
import Derived.Test.YtghfhojpnbpjoaaOrX
namespace Go.Proofs.Ytghfhojpnbpjoaa
open Go.RowKit
set_option linter.unusedVariables false
set_option maxRecDepth 100000

/-- a reader of package blocks: the bytes that are not read yet, and whether it is bad -/
structure BR (w : World) (B g : Nat) (l : List UInt8) (bad : Bool) (A : Option Addr) (n c : Nat) : Prop where
  box : w.heap[g]? = some (.cells #[.slice A n c, .bool bad] 102 (0, 0))
  lies : Lies w B 1 A n (l.map bv)
  nc : n ≤ c
  cm : c ≤ maxLen
  Bg : B ≤ g
section
variable {w w' : World} {B g n c : Nat} {l : List UInt8} {A : Option Addr} {bad : Bool}
theorem BR.lt (h : BR w B g l bad A n c) : g < w.heap.size := (Array.getElem?_eq_some_iff.1 h.box).1
theorem BR.c0 (h : BR w B g l bad A n c) : w.cell? ⟨g, 0, none⟩ = some (.slice A n c) := cell_of_row w g 0 _ _ (0, 0) h.box
theorem BR.c1 (h : BR w B g l bad A n c) : w.cell? ⟨g, 1, none⟩ = some (.bool bad) := cell_of_row w g 1 _ _ (0, 0) h.box
theorem BR.f (h : BR w B g l bad A n c) (o : Nat) : w.frozen? ⟨g, o, none⟩ = false := by simp [World.frozen?, h.box]
theorem BR.mem (h : BR w B g l bad A n c) : Lies w w.heap.size 1 A n (l.map bv) := h.lies.more (by have := h.lt; have := h.Bg; omega)
theorem BR.below (h : BR w B g l bad A n c) (hb : Below w.heap.size w w') : BR w' B g l bad A n c :=
  ⟨(hb.block _ h.lt).trans h.box, h.lies.keep fun p hp => hb.cell (Nat.lt_of_lt_of_le hp (by have := h.lt; have := h.Bg; omega)), h.nc, h.cm, h.Bg⟩
theorem BR.set0 (h : BR w B g l bad A n c) {A' : Option Addr} {n' c' : Nat} {l' : List UInt8} (hl : Lies w B 1 A' n' (l'.map bv)) (h1 : n' ≤ c') (h2 : c' ≤ maxLen) : BR (w.setCell ⟨g, 0, none⟩ (.slice A' n' c')) B g l' bad A' n' c' :=
  ⟨by have hb := h.box; simp [World.setCell, Array.getElem?_modify, hb], hl.setCell (by simpa using h.Bg) _, h1, h2, h.Bg⟩
theorem BR.set1 (h : BR w B g l bad A n c) (b : Bool) : BR (w.setCell ⟨g, 1, none⟩ (.bool b)) B g l b A n c :=
  ⟨by have hb := h.box; simp [World.setCell, Array.getElem?_modify, hb], h.lies.setCell (by simpa using h.Bg) _, h.nc, h.cm, h.Bg⟩
end
theorem gr_below {w w' : World} (h : Below w.heap.size w w') (row : Option Nat) : w.grownBy w' row := ⟨h.os, h.tape, h.output, h.size, fun k hk _ => h.block k hk⟩
theorem gr_set (w : World) (p : Addr) (u : Value) : w.grownBy (w.setCell p u) (some p.block) := grown_set w p u
theorem gr_trans {a b c : World} {row : Option Nat} (h : a.grownBy b row) (k : b.grownBy c row) : a.grownBy c row := grown_trans h k

/-- what a part of the reader leaves -/
def BP (w : World) (B g : Nat) (s : List UInt8 × Bool) (w' : World) : Prop := (∃ A n c, BR w' B g s.1 s.2 A n c) ∧ w.grownBy w' (some g)

set_option maxHeartbeats 1000000 in
theorem skip_any (B g n c t : Nat) (l : List UInt8) (bad : Bool) (A : Option Addr) (w : World) (h : BR w B g l bad A n c) (ht : t ≤ n) :
    Calls Try.prog 91 #[.pointer (some ⟨g, 0, none⟩), .int .i64 (t : Int)] w fun e w' => e = .returned (.tuple #[]) ∧ w' = w.setCell ⟨g, 0, none⟩ (.slice (cutA A n t) (n - t) (n - t)) := by
  have c0 := h.c0; have f0 := h.f 0
  have hcut : ∀ W, (Instr.slice 25 (.slice A n c) (some (.int .i64 (t : Int))) (some (.int .i64 (n : Int))) (some (.int .i64 (n : Int)))).run Try.prog W = .ok (.slice (cutA A n t) (n - t) (n - t)) W := fun W => run_cut3 W A n c t n n ht (Nat.le_refl _) h.nc
  clear h
  go_enter Try.func91, Try.ntmps91
  go_wp2
  go_end0
  exact ⟨rfl, rfl⟩
set_option maxHeartbeats 1000000 in
theorem bnum_any (B g n c : Nat) (l : List UInt8) (bad : Bool) (A : Option Addr) (w : World) (h : BR w B g l bad A n c) :
    Calls Try.prog 80 #[.pointer (some ⟨g, 0, none⟩)] w fun e w' => e = .returned (.int .u64 ((Vi.get l).1 : Int)) ∧ BP w B g (numF l bad) w' := by
  have G := get_any A n c l w h.mem h.nc h.cm
  have htk := get_took l
  rw [h.lies.blen] at htk
  have c0 := h.c0
  have HR := Lib.hid h
  unfold numF
  obtain ⟨s, hs⟩ : ∃ s, (Vi.get l).1 = s := ⟨_, rfl⟩
  obtain ⟨t, ht⟩ : ∃ t, (Vi.get l).2.1 = t := ⟨_, rfl⟩
  obtain ⟨e0, he⟩ : ∃ e0, (Vi.get l).2.2 = e0 := ⟨_, rfl⟩
  rw [hs, ht, he] at G
  rw [hs, ht, he]
  rw [ht] at htk
  have HG := Lib.hid G
  have he0 : ((e0 : Int) != 0) = decide (e0 ≠ 0) := by
    rw [Bool.eq_iff_iff, bne_iff_ne, decide_eq_true_eq]; omega
  obtain ⟨bo, hbo⟩ : ∃ b, decide (e0 ≠ 0) = b := ⟨_, rfl⟩
  rw [hbo] at he0 ⊢
  clear hs ht he G h hbo
  go_enter Try.func80, Try.ntmps80
  go_wp2_with fail
  refine HG.out.mono ?_
  rintro e w1 ⟨rfl, hb1⟩
  have hr1 := HR.out.below hb1
  have HS := Lib.hid (skip_any B g n c t l bad A w1 hr1 htk)
  have hr2 := hr1.set0 (hr1.lies.part htk) (Nat.le_refl (n - t)) (by have := hr1.cm; have := hr1.nc; omega)
  have HR2 := Lib.hid hr2
  have HG2 : Hid (w.grownBy (w1.setCell ⟨g, 0, none⟩ (.slice (cutA A n t) (n - t) (n - t))) (some g)) := gr_trans (gr_below hb1 _) (gr_set w1 ⟨g, 0, none⟩ _)
  clear HG HR c0 hb1 hr1 hr2
  go_wp2_with fail
  refine HS.out.mono ?_
  rintro e w2 ⟨rfl, hw2⟩
  rw [← hw2] at HR2 HG2
  have c1 := HR2.out.c1; have f1 := HR2.out.f 1
  have HF : Hid (∀ b, BP w B g (l.drop t, b) (w2.setCell ⟨g, 1, none⟩ (.bool b))) := fun b => ⟨⟨_, _, _, HR2.out.set1 b⟩, gr_trans HG2.out (gr_set w2 ⟨g, 1, none⟩ _)⟩
  clear HS HR2 HG2 hw2
  cases bad
  · go_wp2
    go_ret
    exact ⟨rfl, HF.out _⟩
  · go_wp2
    go_ret
    exact ⟨rfl, HF.out _⟩

set_option maxHeartbeats 1000000 in
theorem btext_any (B g n c : Nat) (l : List UInt8) (bad : Bool) (A : Option Addr) (w : World) (h : BR w B g l bad A n c) :
    Calls Try.prog 82 #[.pointer (some ⟨g, 0, none⟩)] w fun e w' => e = .returned (.string ⟨(getText l).1.toArray⟩) ∧ BP w B g (textF l bad) w' := by
  have G := getText_any A n c l w h.mem h.nc h.cm
  have htk := (getText_took l).1
  rw [h.lies.blen] at htk
  have c0 := h.c0
  have HR := Lib.hid h
  unfold textF
  obtain ⟨s, hs⟩ : ∃ s, (getText l).1 = s := ⟨_, rfl⟩
  obtain ⟨t, ht⟩ : ∃ t, (getText l).2.1 = t := ⟨_, rfl⟩
  obtain ⟨e0, he⟩ : ∃ e0, (getText l).2.2 = e0 := ⟨_, rfl⟩
  rw [hs, ht, he] at G
  rw [hs, ht, he]
  rw [ht] at htk
  have HG := Lib.hid G
  have he0 : ((e0 : Int) != 0) = decide (e0 ≠ 0) := by
    rw [Bool.eq_iff_iff, bne_iff_ne, decide_eq_true_eq]; omega
  obtain ⟨bo, hbo⟩ : ∃ b, decide (e0 ≠ 0) = b := ⟨_, rfl⟩
  rw [hbo] at he0 ⊢
  clear hs ht he G h hbo
  go_enter Try.func82, Try.ntmps82
  go_wp2_with fail
  refine HG.out.mono ?_
  rintro e w1 ⟨rfl, hb1⟩
  have hr1 := HR.out.below hb1
  have HS := Lib.hid (skip_any B g n c t l bad A w1 hr1 htk)
  have hr2 := hr1.set0 (hr1.lies.part htk) (Nat.le_refl (n - t)) (by have := hr1.cm; have := hr1.nc; omega)
  have HR2 := Lib.hid hr2
  have HG2 : Hid (w.grownBy (w1.setCell ⟨g, 0, none⟩ (.slice (cutA A n t) (n - t) (n - t))) (some g)) := gr_trans (gr_below hb1 _) (gr_set w1 ⟨g, 0, none⟩ _)
  clear HG HR c0 hb1 hr1 hr2
  go_wp2_with fail
  refine HS.out.mono ?_
  rintro e w2 ⟨rfl, hw2⟩
  rw [← hw2] at HR2 HG2
  have c1 := HR2.out.c1; have f1 := HR2.out.f 1
  have HF : Hid (∀ b, BP w B g (l.drop t, b) (w2.setCell ⟨g, 1, none⟩ (.bool b))) := fun b => ⟨⟨_, _, _, HR2.out.set1 b⟩, gr_trans HG2.out (gr_set w2 ⟨g, 1, none⟩ _)⟩
  clear HS HR2 HG2 hw2
  cases bad
  · go_wp2
    go_ret
    exact ⟨rfl, HF.out _⟩
  · go_wp2
    go_ret
    exact ⟨rfl, HF.out _⟩

set_option maxHeartbeats 1000000 in
theorem bstate_any (B g n c : Nat) (l : List UInt8) (bad : Bool) (A : Option Addr) (w : World) (h : BR w B g l bad A n c) :
    Calls Try.prog 81 #[.pointer (some ⟨g, 0, none⟩)] w fun e w' => e = .returned (.int .u8 ((stateF l bad).1 : Int)) ∧ BP w B g (stateF l bad).2 w' := by
  have c0 := h.c0; have f1 := h.f 1; have c1 := h.c1
  have HR := Lib.hid h
  have hn := h.lies.blen
  have HBad : Hid (BP w B g (l, true) (w.setCell ⟨g, 1, none⟩ (.bool true))) := ⟨⟨_, _, _, h.set1 true⟩, gr_set w ⟨g, 1, none⟩ _⟩
  cases l with
  | nil =>
    obtain rfl : n = 0 := by simpa using hn.symm
    clear h hn
    go_enter Try.func81, Try.ntmps81
    go_wp2
    go_ret
    exact ⟨rfl, HBad.out⟩
  | cons x r =>
    have hn1 : 1 ≤ n := by rw [← hn]; simp
    obtain ⟨b, o, u, rfl, hbB, hu, hc⟩ := h.lies.at_ (j := 0) (by omega)
    have hu2 : u = .int .u8 (x.toNat : Int) := by simpa using hu.symm
    subst hu2
    rw [Nat.add_zero] at hc
    clear hu
    have hx0 : ((n : Int) == 0) = false := by rw [beq_eq_false_iff_ne]; omega
    have hx1 : 0 < n := by omega
    by_cases hx : 1 < x.toNat
    · have HF : Hid (stateF (x :: r) bad = (0, x :: r, true)) := by unfold Hid; rw [stateF_cons, if_pos hx]
      have hxi : (1 : Int) < (x.toNat : Int) := by omega
      rw [HF.out]
      clear h hn HR
      go_enter Try.func81, Try.ntmps81
      go_wp2
      go_ret
      exact ⟨rfl, HBad.out⟩
    · have HF : Hid (stateF (x :: r) bad = (x.toNat, r, bad)) := by unfold Hid; rw [stateF_cons, if_neg hx]
      have hxi : ¬ (1 : Int) < (x.toNat : Int) := by omega
      rw [HF.out]
      have HS := Lib.hid (skip_any B g n c 1 (x :: r) bad _ w h hn1)
      have hr2 := h.set0 (h.lies.part hn1) (Nat.le_refl (n - 1)) (by have := h.cm; have := h.nc; omega)
      have HP : Hid (BP w B g (r, bad) (w.setCell ⟨g, 0, none⟩ (.slice (cutA (some ⟨b, o, none⟩) n 1) (n - 1) (n - 1)))) := ⟨⟨_, _, _, hr2⟩, gr_set w ⟨g, 0, none⟩ _⟩
      clear h hn HR hr2 HBad
      go_enter Try.func81, Try.ntmps81
      go_wp2_with fail
      refine HS.out.mono ?_
      rintro e w2 ⟨rfl, hw2⟩
      rw [← hw2] at HP
      clear HS hw2
      go_wp2
      go_ret
      exact ⟨rfl, HP.out⟩
end Go.Proofs.Ytghfhojpnbpjoaa

namespace Go.Proofs.Ytghfhojpnbpjoaa
open Go.RowKit
set_option linter.unusedVariables false
set_option maxRecDepth 100000

/-- the first bytes of a key, as the model has it -/
theorem run_headK (k : ByteArray) (n : Nat) (hn : n ≤ k.size) (w : World) : (Instr.slice 9 (.string k) none (some (.int .u64 (n : Int))) none).run Try.prog w = .ok (.string (k.extract 0 n)) w := by
  unfold Instr.slice
  simp [run_underlying Try.underlying9, Instr.sliceBounds, Instr.sliceBound, asIntOf, hn]

set_option maxHeartbeats 2000000 in
theorem bkey_any (B g n c : Nat) (l : List UInt8) (bad : Bool) (A : Option Addr) (p : ByteArray) (w : World) (h : BR w B g l bad A n c) (hp : p.size ≤ 1000000) (hl : n ≤ 1000000) :
    Calls Try.prog 79 #[.pointer (some ⟨g, 0, none⟩), .string p] w fun e w' => e = .returned (.string (keyF p l bad).1) ∧ BP w B g (keyF p l bad).2 w' := by
  have H1 := Lib.hid (bnum_any B g n c l bad A w h)
  have hln := h.lies.blen
  obtain ⟨s, hs⟩ : ∃ s, (Vi.get l).1 = s := ⟨_, rfl⟩
  have hs64 := (Vi.get_lt l).1
  obtain ⟨l1, hl1⟩ : ∃ l1, (numF l bad).1 = l1 := ⟨_, rfl⟩
  obtain ⟨b1, hb1⟩ : ∃ b1, (numF l bad).2 = b1 := ⟨_, rfl⟩
  have hn1 : numF l bad = (l1, b1) := by rw [← hl1, ← hb1]
  have hll1 : l1.length ≤ 1000000 := by rw [← hl1]; unfold numF; simp only [List.length_drop]; omega
  have htk := (getText_took l1).2.1
  obtain ⟨y, hy⟩ : ∃ y : ByteArray, (⟨(getText l1).1.toArray⟩ : ByteArray) = y := ⟨_, rfl⟩
  have hysz : y.size ≤ 1000000 := by rw [← hy, txt_size]; omega
  obtain ⟨l2, hl2⟩ : ∃ l2, (textF l1 b1).1 = l2 := ⟨_, rfl⟩
  obtain ⟨b2, hb2⟩ : ∃ b2, (textF l1 b1).2 = b2 := ⟨_, rfl⟩
  have hn2 : textF l1 b1 = (l2, b2) := by rw [← hl2, ← hb2]
  have H2 : Hid (∀ W A n c, BR W B g l1 b1 A n c → Calls Try.prog 82 #[.pointer (some ⟨g, 0, none⟩)] W fun e w' => e = .returned (.string y) ∧ BP W B g (l2, b2) w') := by
    intro W A n c hW
    have := btext_any B g n c l1 b1 A W hW
    rw [hn2, hy] at this
    exact this
  rw [hs, hn1] at H1
  rw [hs] at hs64
  have hpu : IntKind.u64.wrap (p.size : Int) = (p.size : Int) := by rw [IntKind.wrap_u64]; omega
  by_cases hlt : p.size < s
  · have HK : Hid (keyF p l bad = (ByteArray.empty, l2, true)) := by
      unfold Hid keyF; rw [hs, if_pos hlt, hl1, hb1, hl2]
    have hlti : (p.size : Int) < (s : Int) := by omega
    rw [HK.out]
    clear HK hs hl1 hb1 hn1 hll1 htk hy hl2 hb2 hn2 hln h hs64 hysz
    go_enter Try.func79, Try.ntmps79
    go_wp2_with fail
    refine H1.out.mono ?_
    rintro e w1 ⟨rfl, ⟨A1, n1, c1, hr1⟩, hg1⟩
    have HC2 := Lib.hid (H2.out w1 A1 n1 c1 hr1)
    have HG1 := Lib.hid hg1
    clear hr1 hg1 H1 H2
    go_wp2_with fail
    refine HC2.out.mono ?_
    rintro e w2 ⟨rfl, ⟨A2, n2, c2, hr2⟩, hg2⟩
    have k1 := hr2.c1; have f1 := hr2.f 1
    have HF : Hid (BP w B g (l2, true) (w2.setCell ⟨g, 1, none⟩ (.bool true))) := ⟨⟨_, _, _, hr2.set1 true⟩, gr_trans (gr_trans HG1.out hg2) (gr_set w2 ⟨g, 1, none⟩ _)⟩
    clear hr2 hg2 HC2 HG1
    go_wp2
    go_ret
    exact ⟨rfl, HF.out⟩
  · have hlti : ¬ (p.size : Int) < (s : Int) := by omega
    obtain ⟨z, hz⟩ : ∃ z, p.extract 0 s ++ y = z := ⟨_, rfl⟩
    have hasz : (p.extract 0 s).size ≤ 1000000 := by rw [ByteArray.size_extract]; omega
    have hzsz : z.size ≤ 2000000 := by rw [← hz, ByteArray.size_append]; omega
    have HK : Hid (keyF p l bad = (z, l2, b2 || !chk z)) := by
      unfold Hid keyF; rw [hs, if_neg hlt, hl1, hb1, hl2, hb2, hy, hz]
    have hsl := run_headK p s (by omega)
    have hadd : ∀ W, (Op.stringOp .add (p.extract 0 s) y).run Try.prog W = .ok (.string z) W := fun W => by rw [← hz]; exact run_string_add_sum W _ y (by omega)
    have HCk : Hid (∀ W, Calls Try.prog 65 #[.string z] W fun e w' => e = .returned (.bool (chk z)) ∧ W = w') := fun W => chk_any z W (by omega)
    rw [HK.out]
    obtain ⟨ck, hck⟩ : ∃ b, chk z = b := ⟨_, rfl⟩
    rw [hck] at HCk ⊢
    clear HK hs hl1 hb1 hn1 hll1 htk hy hl2 hb2 hn2 hln h hs64 hysz hz hasz hzsz hck
    go_enter Try.func79, Try.ntmps79
    go_wp2_with fail
    refine H1.out.mono ?_
    rintro e w1 ⟨rfl, ⟨A1, n1, c1, hr1⟩, hg1⟩
    have HC2 := Lib.hid (H2.out w1 A1 n1 c1 hr1)
    have HG1 := Lib.hid hg1
    clear hr1 hg1 H1 H2
    go_wp2_with fail
    refine HC2.out.mono ?_
    rintro e w2 ⟨rfl, ⟨A2, n2, c2, hr2⟩, hg2⟩
    have k1 := hr2.c1; have f1 := hr2.f 1
    have HF : Hid (∀ b, BP w B g (l2, b) (w2.setCell ⟨g, 1, none⟩ (.bool b))) := fun b => ⟨⟨_, _, _, hr2.set1 b⟩, gr_trans (gr_trans HG1.out hg2) (gr_set w2 ⟨g, 1, none⟩ _)⟩
    clear hr2 hg2 HC2 HG1
    cases b2
    · go_wp2_with (go_at_call 65; refine (HCk.out _).mono ?_; rintro e w' ⟨rfl, rfl⟩)
      go_ret
      exact ⟨rfl, HF.out _⟩
    · go_wp2
      go_ret
      exact ⟨rfl, HF.out _⟩
end Go.Proofs.Ytghfhojpnbpjoaa

namespace Go.Proofs.Ytghfhojpnbpjoaa
open Go.RowKit
set_option linter.unusedVariables false
set_option maxRecDepth 100000

def enZ : En := ⟨⟨⟨#[]⟩, 0, false⟩, ⟨#[]⟩⟩
section
variable {w w' : World} {i g B n c : Nat} {x : En} {l : List UInt8} {bad : Bool} {A : Option Addr}
theorem EnAt.gr (h : EnAt w i x) (hg : w.grownBy w' (some g)) (hne : i ≠ g) : EnAt w' i x :=
  (hg.block i (Array.getElem?_eq_some_iff.1 h).1 (fun e => by injection e with e; exact hne e)).trans h
theorem EnAt.f (h : EnAt w i x) (o : Nat) : w.frozen? ⟨i, o, none⟩ = false := by unfold EnAt at h; simp [World.frozen?, h]
theorem EnAt.far (h : EnAt w i x) {p : Addr} (hp : i ≠ p.block) (u : Value) : EnAt (w.setCell p u) i x := (Below.heap_setCell w p u i hp).trans h
theorem EnAt.s0 (h : EnAt w i x) (k : ByteArray) : EnAt (w.setCell ⟨i, 0, none⟩ (.string k)) i ⟨⟨k, x.m.s, x.m.g⟩, x.x⟩ := by unfold EnAt at h ⊢; simp [World.setCell, Array.getElem?_modify, h]
theorem EnAt.s1 (h : EnAt w i x) (s : Nat) : EnAt (w.setCell ⟨i, 1, none⟩ (.int .u64 (s : Int))) i ⟨⟨x.m.k, s, x.m.g⟩, x.x⟩ := by unfold EnAt at h ⊢; simp [World.setCell, Array.getElem?_modify, h]
theorem EnAt.s2 (h : EnAt w i x) (b : Bool) : EnAt (w.setCell ⟨i, 2, none⟩ (.bool b)) i ⟨⟨x.m.k, x.m.s, b⟩, x.x⟩ := by unfold EnAt at h ⊢; simp [World.setCell, Array.getElem?_modify, h]
theorem EnAt.s3 (h : EnAt w i x) (v : ByteArray) : EnAt (w.setCell ⟨i, 3, none⟩ (.string v)) i ⟨x.m, v⟩ := by unfold EnAt at h ⊢; simp [World.setCell, Array.getElem?_modify, h]
theorem BR.far (h : BR w B g l bad A n c) {p : Addr} (hp : g ≠ p.block) (hB : B ≤ p.block) (u : Value) : BR (w.setCell p u) B g l bad A n c :=
  ⟨(Below.heap_setCell w p u g hp).trans h.box, h.lies.setCell hB u, h.nc, h.cm, h.Bg⟩
end
/-- all four cells -/
theorem EnAt.four {w : World} {i : Nat} {x : En} (h : EnAt w i x) (y : En) :
    EnAt ((((w.setCell ⟨i, 0, none⟩ (.string y.m.k)).setCell ⟨i, 1, none⟩ (.int .u64 (y.m.s : Int))).setCell ⟨i, 2, none⟩ (.bool y.m.g)).setCell ⟨i, 3, none⟩ (.string y.x)) i y :=
  (((h.s0 y.m.k).s1 y.m.s).s2 y.m.g).s3 y.x

/-- what holds between two parts: both boxes, the reader -/
structure EM (w : World) (B g : Nat) (s : List UInt8 × Bool) (t : Nat) (x : En) (W : World) : Prop where
  r : ∃ A n c, BR W B g s.1 s.2 A n c
  gr : w.grownBy W (some g)
  res : EnAt W t enZ
  x : EnAt W (t + 1) x
theorem EM.on {w W W' : World} {B g t : Nat} {s s' : List UInt8 × Bool} {x : En} (h : EM w B g s t x W) (hp : BP W B g s' W') (ht : g < t) : EM w B g s' t x W' :=
  ⟨hp.1, gr_trans h.gr hp.2, h.res.gr hp.2 (by omega), h.x.gr hp.2 (by omega)⟩
theorem gr_new {w W : World} {g : Nat} {p : Addr} (h : w.grownBy W (some g)) (hp : w.heap.size ≤ p.block) (u : Value) : w.grownBy (W.setCell p u) (some g) :=
  ⟨h.os, h.tape, h.output, by have := h.size; simpa [World.setCell] using this, fun k hk hr => (Below.heap_setCell W p u k (by omega)).trans (h.block k hk hr)⟩
theorem EM.set {w W : World} {B g o : Nat} {s : List UInt8 × Bool} {x y : En} {u : Value} (h : EM w B g s w.heap.size x W) (hg : g < w.heap.size) (hB : B ≤ g) (hy : EnAt (W.setCell ⟨w.heap.size + 1, o, none⟩ u) (w.heap.size + 1) y) :
    EM w B g s w.heap.size y (W.setCell ⟨w.heap.size + 1, o, none⟩ u) := by
  obtain ⟨A, n, c, hr⟩ := h.r
  exact ⟨⟨A, n, c, hr.far (by show g ≠ w.heap.size + 1; omega) (by show B ≤ w.heap.size + 1; omega) u⟩, gr_new h.gr (by show w.heap.size ≤ w.heap.size + 1; omega) u, h.res.far (by show w.heap.size ≠ w.heap.size + 1; omega) u, hy⟩
theorem EM.fin {w W : World} {B g : Nat} {s : List UInt8 × Bool} {x : En} (h : EM w B g s w.heap.size x W) (hg : g < w.heap.size) (hB : B ≤ g) (y : En) :
    BP w B g s ((((W.setCell ⟨w.heap.size, 0, none⟩ (.string y.m.k)).setCell ⟨w.heap.size, 1, none⟩ (.int .u64 (y.m.s : Int))).setCell ⟨w.heap.size, 2, none⟩ (.bool y.m.g)).setCell ⟨w.heap.size, 3, none⟩ (.string y.x)) := by
  obtain ⟨A, n, c, hr⟩ := h.r
  have hB2 : B ≤ w.heap.size := by omega
  have hg2 : g ≠ w.heap.size := by omega
  exact ⟨⟨A, n, c, (((hr.far hg2 hB2 _).far hg2 hB2 _).far hg2 hB2 _).far hg2 hB2 _⟩, gr_new (gr_new (gr_new (gr_new h.gr (Nat.le_refl _) _) (Nat.le_refl _) _) (Nat.le_refl _) _) (Nat.le_refl _) _⟩

set_option maxHeartbeats 4000000 in
theorem bentry_any (B g n c : Nat) (l : List UInt8) (bad : Bool) (A : Option Addr) (p : ByteArray) (w : World) (h : BR w B g l bad A n c) (hp : p.size ≤ 1000000) (hl : n ≤ 1000000) :
    Calls Try.prog 54 #[.pointer (some ⟨g, 0, none⟩), .string p] w fun e w' => e = .returned (entF p l bad).1.v ∧ BP w B g (entF p l bad).2 w' := by
  have hB : B ≤ g := h.Bg
  have hg : g < w.heap.size := h.lt
  obtain ⟨W1, hW1⟩ : ∃ W, w.alloc (.cells #[.string ⟨#[]⟩, .int .u64 0, .bool false, .string ⟨#[]⟩] 40) = W := ⟨_, rfl⟩
  obtain ⟨W2, hW2⟩ : ∃ W, W1.alloc (.cells #[.string ⟨#[]⟩, .int .u64 0, .bool false, .string ⟨#[]⟩] 40) = W := ⟨_, rfl⟩
  have z1 : W1.heap.size = w.heap.size + 1 := by rw [← hW1]; simp
  have b1 : Below w.heap.size w W1 := by rw [← hW1]; exact (Below.refl _ _).alloc (Nat.le_refl _) _
  have b2 : Below W1.heap.size W1 W2 := by rw [← hW2]; exact (Below.refl _ _).alloc (Nat.le_refl _) _
  have x1 : EnAt W1 w.heap.size enZ := by rw [← hW1]; exact EnAt.new w enZ
  have x2 : EnAt W2 (w.heap.size + 1) enZ := by rw [← hW2, ← z1]; exact EnAt.new W1 enZ
  have b12 : Below w.heap.size w W2 := b1.trans (b2.mono b1.size)
  have hr2 := h.below b12
  have hM0 : EM w B g (l, bad) w.heap.size enZ W2 := ⟨⟨_, _, _, hr2⟩, gr_below b12 _, x1.below b2 x1.lt, x2⟩
  have HK := Lib.hid (bkey_any B g n c l bad A p W2 hr2 hp hl)
  have H1 := Lib.hid hW1; have H2 := Lib.hid hW2
  unfold entF seqF
  obtain ⟨k, hk⟩ : ∃ k, (keyF p l bad).1 = k := ⟨_, rfl⟩
  obtain ⟨s1, hs1⟩ : ∃ s, (keyF p l bad).2 = s := ⟨_, rfl⟩
  rw [hk, hs1] at HK
  rw [hk, hs1]
  have HN : Hid (∀ W A n c, BR W B g s1.1 s1.2 A n c → Calls Try.prog 80 #[.pointer (some ⟨g, 0, none⟩)] W fun e w' => e = .returned (.int .u64 ((Vi.get s1.1).1 : Int)) ∧ BP W B g (numF s1.1 s1.2) w') := fun W A n c hW => bnum_any B g n c s1.1 s1.2 A W hW
  obtain ⟨sq, hsq⟩ : ∃ s, (Vi.get s1.1).1 = s := ⟨_, rfl⟩
  obtain ⟨s2, hs2⟩ : ∃ s, numF s1.1 s1.2 = s := ⟨_, rfl⟩
  rw [hsq, hs2] at HN
  rw [hsq, hs2]
  have HS : Hid (∀ W A n c, BR W B g s2.1 s2.2 A n c → Calls Try.prog 81 #[.pointer (some ⟨g, 0, none⟩)] W fun e w' => e = .returned (.int .u8 ((stateF s2.1 s2.2).1 : Int)) ∧ BP W B g (stateF s2.1 s2.2).2 w') := fun W A n c hW => bstate_any B g n c s2.1 s2.2 A W hW
  obtain ⟨st, hst⟩ : ∃ s, stateF s2.1 s2.2 = s := ⟨_, rfl⟩
  rw [hst] at HS
  show Calls _ _ _ _ fun e w' => e = .returned (restF k sq (stateF s2.1 s2.2)).1.v ∧ BP w B g (restF k sq (stateF s2.1 s2.2)).2 w'
  rw [hst]
  obtain ⟨q, s3⟩ := st
  have HT : Hid (∀ W A n c, BR W B g s3.1 s3.2 A n c → Calls Try.prog 82 #[.pointer (some ⟨g, 0, none⟩)] W fun e w' => e = .returned (.string ⟨(getText s3.1).1.toArray⟩) ∧ BP W B g (textF s3.1 s3.2) w') := fun W A n c hW => btext_any B g n c s3.1 s3.2 A W hW
  obtain ⟨y, hy⟩ : ∃ y : ByteArray, (⟨(getText s3.1).1.toArray⟩ : ByteArray) = y := ⟨_, rfl⟩
  obtain ⟨s4, hs4⟩ : ∃ s, textF s3.1 s3.2 = s := ⟨_, rfl⟩
  rw [hy, hs4] at HT
  have HR1 : Hid (q = 1 → restF k sq (q, s3) = (⟨⟨k, sq, true⟩, ⟨#[]⟩⟩, s3)) := fun e => by unfold restF; rw [if_pos e]; rfl
  have HR0 : Hid (¬ q = 1 → restF k sq (q, s3) = (⟨⟨k, sq, false⟩, y⟩, s4)) := fun e => by unfold restF; rw [if_neg e, ← hy, ← hs4]
  have HM := Lib.hid hM0
  clear hW1 hW2 z1 b1 b2 x1 x2 b12 hr2 hM0 hk hs1 hsq hs2 hst hy hs4 h hp hl
  by_cases hq : q = 1
  · have hqi : ((q : Int) == 1) = true := by rw [beq_iff_eq]; omega
    rw [HR1.out hq]
    clear HR0 HR1 HT hq
    unfold En.v
    go_enter Try.func54, Try.ntmps54
    go_wp2_with fail
    rw [H1.out, H2.out]
    refine HK.out.mono ?_
    rintro e w3 ⟨rfl, hp3⟩
    have hm3 := HM.out.on hp3 hg
    have c3 := hm3.x.cell.1; have f3 := hm3.x.f 0
    have hm4 := hm3.set (o := 0) (u := .string k) hg hB (hm3.x.s0 k)
    obtain ⟨W4, hW4⟩ : ∃ W, w3.setCell ⟨w.heap.size + 1, 0, none⟩ (.string k) = W := ⟨_, rfl⟩
    rw [hW4] at hm4
    have HM4 := Lib.hid hm4; have HW4 := Lib.hid hW4
    clear hm3 hp3 HK H1 H2 HM hm4 hW4
    go_wp2_with fail
    rw [HW4.out]
    clear HW4 c3 f3
    obtain ⟨A4, n4, c4, hr4⟩ := HM4.out.r
    have HC := Lib.hid (HN.out W4 A4 n4 c4 hr4)
    clear hr4 HN
    refine HC.out.mono ?_
    rintro e w5 ⟨rfl, hp5⟩
    have hm5 := HM4.out.on hp5 hg
    have c5 := hm5.x.cell.2.1; have f5 := hm5.x.f 1
    have hm6 := hm5.set (o := 1) (u := .int .u64 (sq : Int)) hg hB (hm5.x.s1 sq)
    obtain ⟨W6, hW6⟩ : ∃ W, w5.setCell ⟨w.heap.size + 1, 1, none⟩ (.int .u64 (sq : Int)) = W := ⟨_, rfl⟩
    rw [hW6] at hm6
    have HM6 := Lib.hid hm6; have HW6 := Lib.hid hW6
    clear hm5 hp5 HC HM4 hm6 hW6
    go_wp2_with fail
    rw [HW6.out]
    clear HW6 c5 f5
    obtain ⟨A6, n6, c6, hr6⟩ := HM6.out.r
    have HC := Lib.hid (HS.out W6 A6 n6 c6 hr6)
    clear hr6 HS
    refine HC.out.mono ?_
    rintro e w7 ⟨rfl, hp7⟩
    have hm7 := HM6.out.on hp7 hg
    have c7 := hm7.x.cell.2.2.1; have f7 := hm7.x.f 2
    have hm8 := hm7.set (o := 2) (u := .bool true) hg hB (hm7.x.s2 true)
    have hx8 := hm8.x.cell; have hf8 := hm8.x.f 3
    have hr8 := hm8.res.cell
    have hg0 := hm8.res.f 0; have hg1 := hm8.res.f 1; have hg2 := hm8.res.f 2; have hg3 := hm8.res.f 3
    have HM8 := Lib.hid hm8
    have HFin := Lib.hid (hm8.fin hg hB ⟨⟨k, sq, true⟩, ⟨#[]⟩⟩)
    have HEn := Lib.hid (hm8.res.four ⟨⟨k, sq, true⟩, ⟨#[]⟩⟩)
    obtain ⟨W8, hW8⟩ : ∃ W, w7.setCell ⟨w.heap.size + 1, 2, none⟩ (.bool true) = W := ⟨_, rfl⟩
    rw [hW8] at hx8 hf8 hr8 hg0 hg1 hg2 hg3 HFin HEn
    have HW8 := Lib.hid hW8
    clear hm7 hp7 HC HM6 hm8 HM8 hW8
    go_upto_region 5 with fail
    rw [HW8.out]
    clear HW8 c7 f7
    obtain ⟨x0, x1, x2, x3⟩ := hx8
    replace x3 : W8.cell? ⟨w.heap.size + 1, 3, none⟩ = some (.string ⟨#[]⟩) := x3
    obtain ⟨y0, y1, y2, y3⟩ := hr8
    go_wp2_with fail
    obtain ⟨W9, hW9⟩ : ∃ W, (((W8.setCell ⟨w.heap.size, 0, none⟩ (.string k)).setCell ⟨w.heap.size, 1, none⟩ (.int .u64 (sq : Int))).setCell ⟨w.heap.size, 2, none⟩ (.bool true)).setCell ⟨w.heap.size, 3, none⟩ (.string ⟨#[]⟩) = W := ⟨_, rfl⟩
    have HF9 : Hid (BP w B g s3 W9) := by unfold Hid; rw [← hW9]; exact HFin.out
    have HE9 : EnAt W9 w.heap.size ⟨⟨k, sq, true⟩, ⟨#[]⟩⟩ := by rw [← hW9]; exact HEn.out
    have HW9 : Hid ((((W8.setCell ⟨w.heap.size, 0, none⟩ (.string k)).setCell ⟨w.heap.size, 1, none⟩ (.int .u64 (sq : Int))).setCell ⟨w.heap.size, 2, none⟩ (.bool true)).setCell ⟨w.heap.size, 3, none⟩ (.string ⟨#[]⟩) = W9) := hW9
    rw [HW9.out]
    obtain ⟨z0, z1, z2, z3⟩ := HE9.cell
    clear HW9 hW9 HFin HEn HE9
    exact bodyPost_ret (v := .agg #[.string k, .int .u64 (sq : Int), .bool true, .string ⟨#[]⟩]) (by simp [results, Try.results54, go_sem, z0, z1, z2, z3]) rfl ⟨rfl, HF9.out⟩
  · have hqi : ((q : Int) == 1) = false := by rw [beq_eq_false_iff_ne]; omega
    rw [HR0.out hq]
    clear HR0 HR1 hq
    unfold En.v
    go_enter Try.func54, Try.ntmps54
    go_wp2_with fail
    rw [H1.out, H2.out]
    refine HK.out.mono ?_
    rintro e w3 ⟨rfl, hp3⟩
    have hm3 := HM.out.on hp3 hg
    have c3 := hm3.x.cell.1; have f3 := hm3.x.f 0
    have hm4 := hm3.set (o := 0) (u := .string k) hg hB (hm3.x.s0 k)
    obtain ⟨W4, hW4⟩ : ∃ W, w3.setCell ⟨w.heap.size + 1, 0, none⟩ (.string k) = W := ⟨_, rfl⟩
    rw [hW4] at hm4
    have HM4 := Lib.hid hm4; have HW4 := Lib.hid hW4
    clear hm3 hp3 HK H1 H2 HM hm4 hW4
    go_wp2_with fail
    rw [HW4.out]
    clear HW4 c3 f3
    obtain ⟨A4, n4, c4, hr4⟩ := HM4.out.r
    have HC := Lib.hid (HN.out W4 A4 n4 c4 hr4)
    clear hr4 HN
    refine HC.out.mono ?_
    rintro e w5 ⟨rfl, hp5⟩
    have hm5 := HM4.out.on hp5 hg
    have c5 := hm5.x.cell.2.1; have f5 := hm5.x.f 1
    have hm6 := hm5.set (o := 1) (u := .int .u64 (sq : Int)) hg hB (hm5.x.s1 sq)
    obtain ⟨W6, hW6⟩ : ∃ W, w5.setCell ⟨w.heap.size + 1, 1, none⟩ (.int .u64 (sq : Int)) = W := ⟨_, rfl⟩
    rw [hW6] at hm6
    have HM6 := Lib.hid hm6; have HW6 := Lib.hid hW6
    clear hm5 hp5 HC HM4 hm6 hW6
    go_wp2_with fail
    rw [HW6.out]
    clear HW6 c5 f5
    obtain ⟨A6, n6, c6, hr6⟩ := HM6.out.r
    have HC := Lib.hid (HS.out W6 A6 n6 c6 hr6)
    clear hr6 HS
    refine HC.out.mono ?_
    rintro e w7 ⟨rfl, hp7⟩
    have hm7 := HM6.out.on hp7 hg
    have c7 := hm7.x.cell.2.2.1; have f7 := hm7.x.f 2
    have hm8 := hm7.set (o := 2) (u := .bool false) hg hB (hm7.x.s2 false)
    have hx8 := hm8.x.cell; have hf8 := hm8.x.f 3
    have hr8 := hm8.res.cell
    have hg0 := hm8.res.f 0; have hg1 := hm8.res.f 1; have hg2 := hm8.res.f 2; have hg3 := hm8.res.f 3
    have HM8 := Lib.hid hm8
    obtain ⟨W8, hW8⟩ : ∃ W, w7.setCell ⟨w.heap.size + 1, 2, none⟩ (.bool false) = W := ⟨_, rfl⟩
    rw [hW8] at hx8 hf8 hr8 hg0 hg1 hg2 hg3 HM8
    have HW8 := Lib.hid hW8
    obtain ⟨A8, n8, c8, hr8'⟩ := HM8.out.r
    have HC := Lib.hid (HT.out W8 A8 n8 c8 hr8')
    clear hm7 hp7 HM6 hm8 hW8 hr8' HT hg0 hg1 hg2 hg3 hr8
    go_upto_region 5 with fail
    rw [HW8.out]
    clear HW8 c7 f7
    have x2 := hx8.2.2.1
    clear hx8 hf8
    go_wp2_with fail
    refine HC.out.mono ?_
    rintro e w9 ⟨rfl, hp9⟩
    have hm9 := HM8.out.on hp9 hg
    have c9 := hm9.x.cell.2.2.2; have f9 := hm9.x.f 3
    have hm10 := hm9.set (o := 3) (u := .string y) hg hB (hm9.x.s3 y)
    have hx10 := hm10.x.cell
    have hr10 := hm10.res.cell
    have hg0 := hm10.res.f 0; have hg1 := hm10.res.f 1; have hg2 := hm10.res.f 2; have hg3 := hm10.res.f 3
    have HFin := Lib.hid (hm10.fin hg hB ⟨⟨k, sq, false⟩, y⟩)
    have HEn := Lib.hid (hm10.res.four ⟨⟨k, sq, false⟩, y⟩)
    obtain ⟨W10, hW10⟩ : ∃ W, w9.setCell ⟨w.heap.size + 1, 3, none⟩ (.string y) = W := ⟨_, rfl⟩
    rw [hW10] at hx10 hr10 hg0 hg1 hg2 hg3 HFin HEn
    have HW10 := Lib.hid hW10
    clear hm9 hp9 HC HM8 hm10 hW10 x2
    go_upto_region 7 with fail
    rw [HW10.out]
    clear HW10 c9 f9
    obtain ⟨x0, x1, x2, x3⟩ := hx10
    obtain ⟨y0, y1, y2, y3⟩ := hr10
    go_wp2_with fail
    obtain ⟨W9, hW9⟩ : ∃ W, (((W10.setCell ⟨w.heap.size, 0, none⟩ (.string k)).setCell ⟨w.heap.size, 1, none⟩ (.int .u64 (sq : Int))).setCell ⟨w.heap.size, 2, none⟩ (.bool false)).setCell ⟨w.heap.size, 3, none⟩ (.string y) = W := ⟨_, rfl⟩
    have HF9 : Hid (BP w B g s4 W9) := by unfold Hid; rw [← hW9]; exact HFin.out
    have HE9 : EnAt W9 w.heap.size ⟨⟨k, sq, false⟩, y⟩ := by rw [← hW9]; exact HEn.out
    have HW9 : Hid ((((W10.setCell ⟨w.heap.size, 0, none⟩ (.string k)).setCell ⟨w.heap.size, 1, none⟩ (.int .u64 (sq : Int))).setCell ⟨w.heap.size, 2, none⟩ (.bool false)).setCell ⟨w.heap.size, 3, none⟩ (.string y) = W9) := hW9
    rw [HW9.out]
    obtain ⟨z0, z1, z2, z3⟩ := HE9.cell
    clear HW9 hW9 HFin HEn HE9
    exact bodyPost_ret (v := .agg #[.string k, .int .u64 (sq : Int), .bool false, .string y]) (by simp [results, Try.results54, go_sem, z0, z1, z2, z3]) rfl ⟨rfl, HF9.out⟩
end Go.Proofs.Ytghfhojpnbpjoaa

