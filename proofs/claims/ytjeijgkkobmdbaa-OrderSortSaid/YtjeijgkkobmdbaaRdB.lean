/-
  Contracts of package order: the reader's key, value, gone.
-/
import Derived.Test.YtjeijgkkobmdbaaRdA
namespace Go.Proofs.Ytjeijgkkobmdbaa
open Go.RowKit
set_option linter.unusedVariables false

/-- the key that bytes begin with, and the error -/
def keyT (l : List UInt8) : List UInt8 × Nat := if (getText l).2.2 = 0 ∧ chk ⟨(getText l).1.toArray⟩ = false then ([], 4) else ((getText l).1, (getText l).2.2)
/-- the value -/
def valT (l : List UInt8) : List UInt8 × Nat := if (getText l).2.2 = 0 ∧ 256 < (getText l).1.length then ([], 4) else ((getText l).1, (getText l).2.2)

set_option maxHeartbeats 1000000 in
theorem key_any (B g n c : Nat) (l : List UInt8) (A : Option Addr) (w : World) (h : Rd w B g n l A c) :
    Calls Try.prog 47 #[.pointer (some ⟨g, 0, none⟩)] w fun e w' => e = .returned (.tuple #[.string ⟨(keyT l).1.toArray⟩, .int .i64 ((keyT l).2 : Int)]) ∧ Part w B g n l A c (getText l).2.1 w' := by
  have T := text_any B g n c l A w h
  have htk := (getText_took l).2.1
  have hn := h.lies.blen
  have hnc := h.nc
  have hcm := h.cm
  unfold maxLen at hcm
  unfold keyT
  obtain ⟨s, hs⟩ : ∃ s : ByteArray, (⟨(getText l).1.toArray⟩ : ByteArray) = s := ⟨_, rfl⟩
  obtain ⟨t, ht⟩ : ∃ t, (getText l).2.1 = t := ⟨_, rfl⟩
  obtain ⟨e0, he⟩ : ∃ e0, (getText l).2.2 = e0 := ⟨_, rfl⟩
  have hsl : s.size = (getText l).1.length := by rw [← hs]; rfl
  rw [hs, ht, he] at T
  rw [hs, ht, he]
  have HT := Lib.hid T
  clear T
  by_cases h0 : e0 = 0
  · subst h0
    have hsz : s.size ≤ 9223372036854775807 := by omega
    cases hc : chk s
    · rw [if_pos ⟨rfl, rfl⟩]
      have HC := Lib.hid (fun W => chk_any s W hsz)
      rw [hc] at HC
      clear hs ht he hsl hc
      go_enter Try.func47, Try.ntmps47
      go_wp2_with fail
      refine HT.out.mono ?_
      rintro e w1 ⟨rfl, hp⟩
      have HP := Lib.hid hp; clear hp
      go_wp2_with fail
      refine (HC.out w1).mono ?_
      rintro e w2 ⟨rfl, rfl⟩
      go_wp2
      go_ret2
      exact ⟨rfl, HP.out⟩
    · rw [if_neg (fun q => by cases q.2)]
      show Calls _ _ _ _ fun e w' => e = .returned (.tuple #[.string ⟨(getText l).1.toArray⟩, .int .i64 0]) ∧ Part w B g n l A c t w'
      rw [hs]
      have HC := Lib.hid (fun W => chk_any s W hsz)
      rw [hc] at HC
      clear hs ht he hsl hc
      go_enter Try.func47, Try.ntmps47
      go_wp2_with fail
      refine HT.out.mono ?_
      rintro e w1 ⟨rfl, hp⟩
      have HP := Lib.hid hp; clear hp
      go_wp2_with fail
      refine (HC.out w1).mono ?_
      rintro e w2 ⟨rfl, rfl⟩
      go_wp2
      go_ret2
      exact ⟨rfl, HP.out⟩
  · rw [if_neg (fun q => h0 q.1)]
    show Calls _ _ _ _ fun e w' => e = .returned (.tuple #[.string ⟨(getText l).1.toArray⟩, .int .i64 (e0 : Int)]) ∧ Part w B g n l A c t w'
    rw [hs]
    have hne : ((e0 : Int) == 0) = false := by simp; omega
    clear hs ht he hsl
    go_enter Try.func47, Try.ntmps47
    go_wp2_with fail
    refine HT.out.mono ?_
    rintro e w1 ⟨rfl, hp⟩
    have HP := Lib.hid hp; clear hp
    go_wp2
    go_ret2
    exact ⟨rfl, HP.out⟩

set_option maxHeartbeats 1000000 in
theorem value_any (B g n c : Nat) (l : List UInt8) (A : Option Addr) (w : World) (h : Rd w B g n l A c) :
    Calls Try.prog 50 #[.pointer (some ⟨g, 0, none⟩)] w fun e w' => e = .returned (.tuple #[.string ⟨(valT l).1.toArray⟩, .int .i64 ((valT l).2 : Int)]) ∧ Part w B g n l A c (getText l).2.1 w' := by
  have T := text_any B g n c l A w h
  have htk := (getText_took l).2.1
  have hn := h.lies.blen
  have hnc := h.nc
  have hcm := h.cm
  unfold maxLen at hcm
  unfold valT
  obtain ⟨s, hs⟩ : ∃ s : ByteArray, (⟨(getText l).1.toArray⟩ : ByteArray) = s := ⟨_, rfl⟩
  obtain ⟨t, ht⟩ : ∃ t, (getText l).2.1 = t := ⟨_, rfl⟩
  obtain ⟨e0, he⟩ : ∃ e0, (getText l).2.2 = e0 := ⟨_, rfl⟩
  have hsl : (getText l).1.length = s.size := by rw [← hs]; rfl
  rw [hs, ht, he] at T
  rw [ht, he, hsl]
  have HT := Lib.hid T
  clear T
  have hsz : s.size ≤ 9223372036854775807 := by omega
  by_cases h0 : e0 = 0
  · subst h0
    by_cases hc : 256 < s.size
    · rw [if_pos ⟨rfl, hc⟩]
      have hd : decide ((256 : Int) < (s.size : Int)) = true := by simp; omega
      clear hs ht he hsl htk
      go_enter Try.func50, Try.ntmps50
      go_wp2_with fail
      refine HT.out.mono ?_
      rintro e w1 ⟨rfl, hp⟩
      have HP := Lib.hid hp; clear hp
      go_wp2
      go_ret2
      exact ⟨rfl, HP.out⟩
    · rw [if_neg (fun q => hc q.2)]
      show Calls _ _ _ _ fun e w' => e = .returned (.tuple #[.string ⟨(getText l).1.toArray⟩, .int .i64 0]) ∧ Part w B g n l A c t w'
      rw [hs]
      have hd : decide ((256 : Int) < (s.size : Int)) = false := by simp; omega
      clear hs ht he hsl htk
      go_enter Try.func50, Try.ntmps50
      go_wp2_with fail
      refine HT.out.mono ?_
      rintro e w1 ⟨rfl, hp⟩
      have HP := Lib.hid hp; clear hp
      go_wp2
      go_ret2
      exact ⟨rfl, HP.out⟩
  · rw [if_neg (fun q => h0 q.1)]
    show Calls _ _ _ _ fun e w' => e = .returned (.tuple #[.string ⟨(getText l).1.toArray⟩, .int .i64 (e0 : Int)]) ∧ Part w B g n l A c t w'
    rw [hs]
    have hne : ((e0 : Int) == 0) = false := by simp; omega
    clear hs ht he hsl htk
    go_enter Try.func50, Try.ntmps50
    go_wp2_with fail
    refine HT.out.mono ?_
    rintro e w1 ⟨rfl, hp⟩
    have HP := Lib.hid hp; clear hp
    go_wp2
    go_ret2
    exact ⟨rfl, HP.out⟩

theorem gone_none (B g c : Nat) (l : List UInt8) (A : Option Addr) (w : World) (h : Rd w B g 0 l A c) :
    Calls Try.prog 49 #[.pointer (some ⟨g, 0, none⟩)] w fun e w' => e = .returned (.tuple #[.bool false, .int .i64 5]) ∧ w = w' := by
  go_enter Try.func49, Try.ntmps49
  go_wp2_with fail
  refine (left_any B g 0 c l A _ h).mono ?_
  rintro e w' ⟨rfl, rfl⟩
  go_wp2
  go_ret2
  exact ⟨rfl, rfl⟩

set_option maxHeartbeats 1000000 in
theorem gone_form (B g n c : Nat) (x : UInt8) (l : List UInt8) (A : Option Addr) (w : World) (h : Rd w B g n (x :: l) A c) (hx : 1 < x.toNat) :
    Calls Try.prog 49 #[.pointer (some ⟨g, 0, none⟩)] w fun e w' => e = .returned (.tuple #[.bool false, .int .i64 4]) ∧ w = w' := by
  have hn := h.lies.blen
  have hn0 : 0 < n := by rw [← hn]; simp
  obtain ⟨b, o, y, rfl, _, hy, hc⟩ := h.lies.byte hn0
  have hy2 : x = y := by simpa using hy
  subst hy2
  have hL := left_any B g n c (x :: l) _ w h
  have hcell := h.box.cell
  have hz : ((n : Int) == 0) = false := by simp; omega
  have HL := Lib.hid hL
  have hd : decide ((1 : Int) < (x.toNat : Int)) = true := by simp; omega
  have hi0 : (0 : Int) < (n : Int) := by omega
  have hcb : w.cell? ⟨b, o, none⟩ = some (.int .u8 (x.toNat : Int)) := hc
  clear hy hL hn h hc
  generalize x.toNat = q at *
  go_enter Try.func49, Try.ntmps49
  go_wp2_with fail
  refine HL.out.mono ?_
  rintro e w' ⟨rfl, rfl⟩
  go_wp2
  go_ret2
  exact ⟨rfl, rfl⟩

set_option maxHeartbeats 1000000 in
theorem gone_ok (B g n c : Nat) (x : UInt8) (l : List UInt8) (A : Option Addr) (w : World) (h : Rd w B g n (x :: l) A c) (hx : x.toNat ≤ 1) :
    Calls Try.prog 49 #[.pointer (some ⟨g, 0, none⟩)] w fun e w' => e = .returned (.tuple #[.bool (decide (x.toNat = 1)), .int .i64 0]) ∧ Part w B g n (x :: l) A c 1 w' := by
  have hn := h.lies.blen
  have hn0 : 0 < n := by rw [← hn]; simp
  obtain ⟨b, o, y, rfl, _, hy, hc⟩ := h.lies.byte hn0
  have hy2 : x = y := by simpa using hy
  subst hy2
  have hL := left_any B g n c (x :: l) _ w h
  have hcell := h.box.cell
  have hfz := h.box.frozen
  have hz : ((n : Int) == 0) = false := by simp; omega
  have HL := Lib.hid hL
  have HP := Lib.hid (h.cut (t := 1) (Below.refl _ _) (by omega))
  have hd : decide ((1 : Int) < (x.toNat : Int)) = false := by simp; omega
  have hi0 : (0 : Int) < (n : Int) := by omega
  have hcb : w.cell? ⟨b, o, none⟩ = some (.int .u8 (x.toNat : Int)) := hc
  have hcut : ∀ W, (Instr.slice 28 (.slice (some ⟨b, o, none⟩) n c) (some (.int .i64 1)) none none).run Try.prog W = .ok (.slice (cutA (some ⟨b, o, none⟩) c 1) (n - 1) (c - 1)) W := fun W => run_cut W (some ⟨b, o, none⟩) n c 1 (by omega)
  have hq : ((x.toNat : Int) == 1) = decide (x.toNat = 1) := by
    by_cases e : x.toNat = 1
    · simp [e]
    · have : ¬ ((x.toNat : Int) = 1) := by omega
      simp [e, this]
  clear hy hL hn h hc
  generalize x.toNat = q at *
  go_enter Try.func49, Try.ntmps49
  go_wp2_with fail
  refine HL.out.mono ?_
  rintro e w' ⟨rfl, rfl⟩
  go_wp2
  go_ret2
  exact ⟨rfl, HP.out⟩
end Go.Proofs.Ytjeijgkkobmdbaa
