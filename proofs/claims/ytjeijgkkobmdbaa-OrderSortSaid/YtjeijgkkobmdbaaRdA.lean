/-
  Contracts of package order: the reader's parts.
-/
import Derived.Test.YtjeijgkkobmdbaaOrdA
import Derived.Test.YtjeijgkkobmdbaaIntsE
namespace Go.Proofs.Ytjeijgkkobmdbaa
open Go.RowKit
set_option linter.unusedVariables false

theorem grown_below {w w' : World} (h : Below w.heap.size w w') (row : Option Nat) : w.grownBy w' row := ⟨h.os, h.tape, h.output, h.size, fun k hk _ => h.block k hk⟩
theorem grown_set (w : World) (p : Addr) (u : Value) : w.grownBy (w.setCell p u) (some p.block) :=
  ⟨rfl, rfl, rfl, by simp [World.setCell], fun k _ hne => Below.heap_setCell w p u k (fun e => hne (by rw [e]))⟩
theorem grown_trans {a b c : World} {row : Option Nat} (h : a.grownBy b row) (k : b.grownBy c row) : a.grownBy c row :=
  ⟨k.os.trans h.os, k.tape.trans h.tape, k.output.trans h.output, Nat.le_trans h.size k.size, fun i hi hne => (k.block i (Nat.lt_of_lt_of_le hi h.size) hne).trans (h.block i hi hne)⟩
theorem below_grown {B g : Nat} {w w' : World} (h : w.grownBy w' (some g)) (hB : B ≤ g) (hs : B ≤ w.heap.size) : Below B w w' :=
  ⟨h.os, h.tape, h.output, h.size, fun k hk => h.block k (by omega) (fun e => by injection e; omega)⟩

/-- a reader: the bytes that are not read yet -/
structure Rd (w : World) (B g n : Nat) (l : List UInt8) (A : Option Addr) (c : Nat) : Prop where
  box : Box w g 65 (.slice A n c)
  lies : Lies w B 1 A n (l.map bv)
  nc : n ≤ c
  cm : c ≤ maxLen
  Bg : B ≤ g
theorem Rd.lt {w : World} {B g n c : Nat} {l : List UInt8} {A : Option Addr} (h : Rd w B g n l A c) : g < w.heap.size := h.box.lt
theorem Rd.mem {w : World} {B g n c : Nat} {l : List UInt8} {A : Option Addr} (h : Rd w B g n l A c) : Lies w w.heap.size 1 A n (l.map bv) := h.lies.more (by have := h.lt; have := h.Bg; omega)
/-- other blocks may be new, or change -/
theorem Rd.kept {w w' : World} {B g n c : Nat} {l : List UInt8} {A : Option Addr} {row : Option Nat} (h : Rd w B g n l A c) (hg : w.grownBy w' row) (hr : ∀ k, row = some k → g < k) : Rd w' B g n l A c :=
  ⟨h.box.grown hg (fun e => by have := hr g e.symm; omega), h.lies.below ((Below.refl B w).grown hg (by have := h.lt; have := h.Bg; omega) (fun k hk => by have := hr k hk; have := h.Bg; omega)), h.nc, h.cm, h.Bg⟩
/-- t bytes are taken -/
theorem Rd.cut {w w1 : World} {B g n c t : Nat} {l : List UInt8} {A : Option Addr} (h : Rd w B g n l A c) (hb : Below w.heap.size w w1) (ht : t ≤ n) :
    Rd (w1.setCell ⟨g, 0, none⟩ (.slice (cutA A c t) (n - t) (c - t))) B g (n - t) (l.drop t) (cutA A c t) (c - t) ∧ w.grownBy (w1.setCell ⟨g, 0, none⟩ (.slice (cutA A c t) (n - t) (c - t))) (some g) := by
  have hbg := h.Bg
  refine ⟨⟨(h.box.below hb h.lt).set _, ?_, by have := h.nc; omega, by have := h.cm; omega, h.Bg⟩, grown_trans (grown_below hb _) (grown_set w1 ⟨g, 0, none⟩ _)⟩
  exact ((h.lies.cutA ht h.nc).below (hb.mono (by have := h.lt; omega))).setCell (by simpa using hbg) _

theorem get_took (l : List UInt8) : (Vi.get l).2.1 ≤ l.length := by
  rcases hg : Vi.get l with ⟨k, t, e⟩
  by_cases he : e = 0
  · subst he
    exact (Vi.get_back l k t hg).2.2.2.1
  · have := (Vi.get_bad l k t e hg he).2.1
    show t ≤ _
    omega
theorem getText_took (l : List UInt8) : (getText l).2.1 ≤ l.length ∧ (getText l).1.length ≤ l.length ∧ (getText l).2.2 ≤ 5 := by
  have h1 := get_took l
  have h2 := (Vi.get_lt l).2.2
  unfold getText
  split
  · exact ⟨Nat.zero_le _, Nat.zero_le _, h2⟩
  · split
    · exact ⟨Nat.zero_le _, Nat.zero_le _, by decide⟩
    · refine ⟨?_, ?_, Nat.zero_le _⟩
      · show (Vi.get l).2.1 + (Vi.get l).1 ≤ l.length
        omega
      · simp; omega

/-- what a part of the reader answered -/
def Part (w : World) (B g n : Nat) (l : List UInt8) (A : Option Addr) (c t : Nat) (w' : World) : Prop := Rd w' B g (n - t) (l.drop t) (cutA A c t) (c - t) ∧ w.grownBy w' (some g)

set_option maxHeartbeats 1000000 in
theorem text_any (B g n c : Nat) (l : List UInt8) (A : Option Addr) (w : World) (h : Rd w B g n l A c) :
    Calls Try.prog 53 #[.pointer (some ⟨g, 0, none⟩)] w fun e w' => e = .returned (.tuple #[.string ⟨(getText l).1.toArray⟩, .int .i64 ((getText l).2.2 : Int)]) ∧ Part w B g n l A c (getText l).2.1 w' := by
  have G := getText_any A n c l w h.mem h.nc h.cm
  have htk := (getText_took l).1
  rw [h.lies.blen] at htk
  have hcell := h.box.cell
  have HR := Lib.hid h
  obtain ⟨s, hs⟩ : ∃ s, (getText l).1 = s := ⟨_, rfl⟩
  obtain ⟨t, ht⟩ : ∃ t, (getText l).2.1 = t := ⟨_, rfl⟩
  obtain ⟨e0, he⟩ : ∃ e0, (getText l).2.2 = e0 := ⟨_, rfl⟩
  rw [hs, ht, he] at G ⊢
  rw [ht] at htk
  have HG := Lib.hid G
  have hcut : ∀ W, (Instr.slice 28 (.slice A n c) (some (.int .i64 (t : Int))) none none).run Try.prog W = .ok (.slice (cutA A c t) (n - t) (c - t)) W := fun W => run_cut W A n c t htk
  have HCut := Lib.hid hcut
  clear hs ht he G h hcut
  go_enter Try.func53, Try.ntmps53
  go_wp2_with fail
  refine HG.out.mono ?_
  rintro e w1 ⟨rfl, hb1⟩
  have hcell1 := (HR.out.box.below hb1 HR.out.lt).cell
  have hfz1 := (HR.out.box.below hb1 HR.out.lt).frozen
  have HP := Lib.hid (HR.out.cut hb1 htk)
  have hcut := HCut.out
  clear HG hcell hb1 HR HCut
  go_wp2
  go_ret2
  exact ⟨rfl, HP.out⟩

set_option maxHeartbeats 1000000 in
theorem number_any (B g n c : Nat) (l : List UInt8) (A : Option Addr) (w : World) (h : Rd w B g n l A c) :
    Calls Try.prog 48 #[.pointer (some ⟨g, 0, none⟩)] w fun e w' => e = .returned (.tuple #[.int .u64 ((Vi.get l).1 : Int), .int .i64 ((Vi.get l).2.2 : Int)]) ∧ Part w B g n l A c (Vi.get l).2.1 w' := by
  have G := get_any A n c l w h.mem h.nc h.cm
  have htk := get_took l
  rw [h.lies.blen] at htk
  have hcell := h.box.cell
  have HR := Lib.hid h
  obtain ⟨s, hs⟩ : ∃ s, (Vi.get l).1 = s := ⟨_, rfl⟩
  obtain ⟨t, ht⟩ : ∃ t, (Vi.get l).2.1 = t := ⟨_, rfl⟩
  obtain ⟨e0, he⟩ : ∃ e0, (Vi.get l).2.2 = e0 := ⟨_, rfl⟩
  rw [hs, ht, he] at G ⊢
  rw [ht] at htk
  have HG := Lib.hid G
  have hcut : ∀ W, (Instr.slice 28 (.slice A n c) (some (.int .i64 (t : Int))) none none).run Try.prog W = .ok (.slice (cutA A c t) (n - t) (c - t)) W := fun W => run_cut W A n c t htk
  have HCut := Lib.hid hcut
  clear hs ht he G h hcut
  go_enter Try.func48, Try.ntmps48
  go_wp2_with fail
  refine HG.out.mono ?_
  rintro e w1 ⟨rfl, hb1⟩
  have hcell1 := (HR.out.box.below hb1 HR.out.lt).cell
  have hfz1 := (HR.out.box.below hb1 HR.out.lt).frozen
  have HP := Lib.hid (HR.out.cut hb1 htk)
  have hcut := HCut.out
  clear HG hcell hb1 HR HCut
  go_wp2
  go_ret2
  exact ⟨rfl, HP.out⟩

theorem left_any (B g n c : Nat) (l : List UInt8) (A : Option Addr) (w : World) (h : Rd w B g n l A c) :
    Calls Try.prog 36 #[.pointer (some ⟨g, 0, none⟩)] w fun e w' => e = .returned (.int .i64 (n : Int)) ∧ w = w' := by
  have hcell := h.box.cell
  clear h
  go_enter Try.func36, Try.ntmps36
  go_wp2
  go_ret
  exact ⟨rfl, rfl⟩
end Go.Proofs.Ytjeijgkkobmdbaa
