/-
  A list of byte lists in memory.
  Contracts of slices.Grow (of nothing) and slices.Concat, of byte lists.
-/
import Derived.Test.YtnnocjnmfabnaaaMem
import Derived.Lib.AppendZeros
import Derived.LoopTactic
namespace Go.Proofs.Ytnnocjnmfabnaaa
open Go.RowKit
set_option linter.unusedVariables false

/-- a byte list of a list: where it lies, how long it is, its room, its bytes -/
structure Rcd where
  A : Option Addr
  n : Nat
  c : Nat
  l : List UInt8
def Rcd.v (r : Rcd) : Value := .slice r.A r.n r.c
/-- the byte lists of a list, where they lie -/
def Rcds (w : World) (B : Nat) (rs : List Rcd) : Prop := ∀ r ∈ rs, Lies w B 1 r.A r.n (r.l.map bv) ∧ r.n ≤ r.c ∧ r.c ≤ 140737488351232
theorem Rcds.below {w w' : World} {B : Nat} {rs : List Rcd} (h : Rcds w B rs) (hb : Below B w w') : Rcds w' B rs := fun r hr => ⟨(h r hr).1.below hb, (h r hr).2⟩
theorem Rcds.more {w : World} {B B' : Nat} {rs : List Rcd} (h : Rcds w B rs) (hb : B ≤ B') : Rcds w B' rs := fun r hr => ⟨(h r hr).1.more hb, (h r hr).2⟩
theorem Rcds.len {w : World} {B : Nat} {rs : List Rcd} (h : Rcds w B rs) {r : Rcd} (hr : r ∈ rs) : r.l.length = r.n := (h r hr).1.blen
/-- one of them -/
theorem Lies.rcd {w : World} {B n k : Nat} {A : Option Addr} {rs : List Rcd} (h : Lies w B 1 A n (rs.map Rcd.v)) (hk : k < n) :
    ∃ b o r, A = some ⟨b, o, none⟩ ∧ b < B ∧ rs[k]? = some r ∧ w.cell? ⟨b, o + k, none⟩ = some (.slice r.A r.n r.c) := by
  obtain ⟨b, o, u, e, hb, hu, hc⟩ := h.at_ hk
  rw [List.getElem?_map] at hu
  cases hx : rs[k]? with
  | none => rw [hx] at hu; cases hu
  | some x =>
    rw [hx] at hu
    injection hu with hu
    subst hu
    exact ⟨b, o, x, e, hb, rfl, hc⟩
theorem Lies.rlen {w : World} {B n : Nat} {A : Option Addr} {rs : List Rcd} (h : Lies w B 1 A n (rs.map Rcd.v)) : rs.length = n := by have := h.len; simp at this; exact this
end Go.Proofs.Ytnnocjnmfabnaaa

namespace Go.Proofs.Ytnnocjnmfabnaaa
open Go.RowKit
set_option linter.unusedVariables false
set_option maxRecDepth 100000

/-- a row of bytes that was made, with room, and nothing in it yet -/
theorem own_zeros (w : World) (n c base : Nat) (hb : base ≤ w.heap.size) (hc : c ≤ maxLen) (cs : Array Value) (hs : cs.size = c) :
    (w.drew.alloc (.cells cs 5)).ownsRow base 5 1 (.slice (some ⟨w.heap.size, 0, none⟩) 0 c) 0 (([] : List UInt8).map bv) := by
  refine ⟨rfl, .inr ⟨w.heap.size, c, cs, rfl, hb, ?_, Nat.zero_le _, hc, by omega, by simp⟩⟩
  have := heap_alloc_new w.drew (.cells cs 5)
  exact this

set_option maxHeartbeats 1000000 in
theorem grow_any (n : Nat) (w : World) (hn : n ≤ 1099511627776) :
    Calls Try.prog 52 #[.slice none 0 0, .int .i64 (n : Int)] w fun e w' => ∃ v, e = .returned v ∧ w'.ownsRow w.heap.size 5 1 v 0 (([] : List UInt8).map bv) ∧ Below w.heap.size w w' := by
  obtain ⟨i0, hi, hz0, hz1, hz2⟩ := info_parts byte_info
  by_cases h0 : n = 0
  · subst h0
    go_enter Try.func52, Try.ntmps52
    go_wp2
    go_ret
    exact ⟨_, rfl, ⟨rfl, .inl ⟨rfl, rfl⟩⟩, Below.refl _ _⟩
  · have hr := Lib.run_append_nil_zeros (P := Try.prog) w 39 3 39 5 i0 _ .i64 .i64 Try.underlying39 Try.underlying3 hi hz0 n (by omega) (by omega) (by omega) (by rw [hz2]; omega)
    have hcl : grownCap w n 0 5 ≤ maxLen := grownCap_le_maxLen w n 0 _ (by unfold maxLen; omega)
    have hcg : n ≤ grownCap w n 0 5 := grownCap_ge w n 0 _
    generalize grownCap w n 0 5 = c at *
    generalize hcs : Builtin.zeroCells (Value.int .u8 0).cells n ++ Builtin.zeroCells (Value.int .u8 0).cells (c - n) = cs at *
    have hsz : cs.size = c := by
      rw [← hcs]; simp [Builtin.zeroCells, Value.cells]; omega
    have O := own_zeros w n c w.heap.size (Nat.le_refl _) hcl cs hsz
    have B : Below w.heap.size w (w.drew.alloc (.cells cs 5)) := ((Below.refl _ _).drew).alloc (Nat.le_refl _) _
    have HO := Lib.hid O; have HB := Lib.hid B; have HC := Lib.hid hcs; have HR := Lib.hid hr
    clear O B hcs hsz hr
    unfold maxLen at hcl
    have hpos : (0 : Int) < (n : Int) := by omega
    go_enter Try.func52, Try.ntmps52
    go_wp2_with (at_builtin; refine Lib.wpList_append_run _ rfl _ _ _ _ rfl _ _ rfl rfl _ _ HR.out ?_)
    go_ret
    exact ⟨_, rfl, HO.out, HB.out⟩

/-- the bytes of all -/
def cat (rs : List Rcd) : List UInt8 := (rs.map Rcd.l).flatten
theorem cat_snoc (rs : List Rcd) (k : Nat) (r : Rcd) (h : rs[k]? = some r) : cat (rs.take (k + 1)) = cat (rs.take k) ++ r.l := by
  unfold cat
  rw [List.take_add_one, h]; simp
theorem cat_le (rs : List Rcd) (k : Nat) : (cat (rs.take k)).length ≤ (cat rs).length := by
  have h : cat rs = cat (rs.take k) ++ cat (rs.drop k) := by
    unfold cat
    rw [← List.flatten_append, ← List.map_append, List.take_append_drop]
  rw [h, List.length_append]; omega
/-- each of them lies -/
def LyAll (w : World) (B : Nat) (rs : List Rcd) : Prop := ∀ r ∈ rs, Lies w B 1 r.A r.n (r.l.map bv)

def CRel (w : World) (rs : List Rcd) (n : Nat) (v i : Value) (wr : World) : Prop :=
  ∃ k : Nat, k ≤ n ∧ i = .int .i64 (k : Int) ∧ wr.ownsRow w.heap.size 5 1 v (cat (rs.take k)).length ((cat (rs.take k)).map bv) ∧ Below w.heap.size w wr

set_option maxHeartbeats 2000000 in
theorem concat_any (A : Option Addr) (n c : Nat) (rs : List Rcd) (w : World) (h : Lies w w.heap.size 1 A n (rs.map Rcd.v)) (hr : LyAll w w.heap.size rs) (hs : (cat rs).length ≤ 1099511627776) (hn : n ≤ 1000) :
    Calls Try.prog 41 #[.slice A n c] w fun e w' => ∃ v, e = .returned v ∧ w'.ownsRow w.heap.size 5 1 v (cat rs).length ((cat rs).map bv) ∧ Below w.heap.size w w' := by
  obtain ⟨i0, hi, hz0, hz1, hz2⟩ := info_parts byte_info
  have hrl := h.rlen
  have HFull : Hid (rs.take n = rs) := List.take_of_length_le (by omega)
  have HN := Lib.hid h; have HR := Lib.hid hr
  clear h hr hrl
  go_enter Try.func41, Try.ntmps41
  go_wp2
  go_loop [3, 11] (fun t i => ∃ k : Nat, k ≤ n ∧ i = .int .i64 (k : Int) ∧ t = .int .i64 ((cat (rs.take k)).length : Int)) (fun _ i => n - (intOf i).toNat)
  case atStart => exact ⟨0, Nat.zero_le _, rfl, rfl⟩
  case round =>
    obtain ⟨k, hk, rfl, rfl⟩ := hrel
    have hle := cat_le rs k
    by_cases hlt : k < n
    · obtain ⟨b, o, r, rfl, hbB, hu, hcell⟩ := HN.out.rcd hlt
      have hrn : r.l.length = r.n := (HR.out r (List.mem_of_getElem? hu)).blen
      have hle2 := cat_le rs (k + 1)
      have HS : Hid (cat (rs.take (k + 1)) = cat (rs.take k) ++ r.l) := cat_snoc rs k r hu
      rw [HS.out, List.length_append, hrn] at hle2
      obtain ⟨z, hz⟩ : ∃ z, (cat (rs.take k)).length = z := ⟨_, rfl⟩
      rw [hz] at hle hle2 ⊢
      have HL := Lib.hid hrn; have HZ := Lib.hid hz
      clear hu hrn hz
      go_wp2
      go_round
      case rel => exact ⟨k + 1, hlt, by go_num, by rw [HS.out, List.length_append, HL.out, HZ.out]; simp⟩
      case measure => simp [intOf]; omega
    · obtain rfl : n = k := by omega
      rw [HFull.out]
      clear hle
      obtain ⟨z, hz⟩ : ∃ z, (cat rs).length = z := ⟨_, rfl⟩
      rw [hz] at hs ⊢
      have HZ := Lib.hid hz
      clear hz
      go_wp2_with fail
      refine (grow_any z w hs).mono ?_
      rintro e w1 ⟨v1, rfl, hown1, hb1⟩
      obtain ⟨A1, c1, rfl, hnc1, hcm1, _⟩ := own_shape hown1
      have R0 : Hid (CRel w rs n (.slice A1 0 c1) (.int .i64 0) w1) := ⟨0, Nat.zero_le _, rfl, hown1, hb1⟩
      clear hown1 hb1
      go_wp2
      go_loopw [6, 27] (fun v i wr => CRel w rs n v i wr) (fun _ i _ => n - (intOf i).toNat)
      case atStart => exact R0.out
      case round =>
        clear R0
        obtain ⟨k, hk, rfl, hown, hb⟩ := hrel
        have hle := cat_le rs k
        rw [HZ.out] at hle
        by_cases hlt : k < n
        · obtain ⟨b, o, r, rfl, hbB, hu, hcell0⟩ := HN.out.rcd hlt
          have hmem := List.mem_of_getElem? hu
          have hrn : r.l.length = r.n := (HR.out r hmem).blen
          have hcell : wr.cell? ⟨b, o + k, none⟩ = some (.slice r.A r.n r.c) := (hb.cell hbB).trans hcell0
          have hle2 := cat_le rs (k + 1)
          have HS : Hid (cat (rs.take (k + 1)) = cat (rs.take k) ++ r.l) := cat_snoc rs k r hu
          rw [HS.out, List.length_append, hrn, HZ.out] at hle2
          obtain ⟨L, hL⟩ : ∃ L, cat (rs.take k) = L := ⟨_, rfl⟩
          rw [hL] at hown hle2 hle HS
          obtain ⟨Ln, hLn⟩ : ∃ Ln, L.length = Ln := ⟨_, rfl⟩
          rw [hLn] at hown hle2 hle
          have HL := Lib.hid hrn; have HLn := Lib.hid hLn
          have LR := Lib.hid (((HR.out r hmem).below hb).more hb.size)
          have HB := Lib.hid hb
          obtain ⟨A5, c5, rfl, hnc5, hcm5, _⟩ := own_shape hown
          have HO := Lib.hid hown
          clear hu hrn hL hLn hcell0 hmem hb hown
          go_wp2_with (at_builtin; refine wpList_app _ rfl (.tmp 31) (.tmp 32) 39 rfl w.heap.size 5 i0 _ 1 1 Try.underlying39 hi hz0 hz1 hz2 rfl (by decide) (.slice A5 Ln c5) Ln (L.map bv) rfl HO.out wr.heap.size r.A r.n r.c (r.l.map bv) rfl LR.out (bv_one _) (by unfold maxLen; omega) (by omega) HB.out.size ?_)
          intro v4 w4 hown4 hg4 _
          have hb4 : Below w.heap.size w w4 := HB.out.grown hg4 HB.out.size (fun k hk => (HO.out.lt k hk).1)
          have R : Hid (CRel w rs n v4 (.int .i64 ((k : Int) + 1)) w4) := ⟨k + 1, hlt, by simp, by
            rw [HS.out, List.length_append, List.map_append, HLn.out, HL.out]; exact hown4, hb4⟩
          clear hown4 hg4 hb4 LR HO HB
          go_wp2
          go_roundw
          case rel => exact R.out
          case measure => simp [intOf]; omega
        · obtain rfl : n = k := by omega
          rw [HFull.out] at hown
          have HO := Lib.hid hown; have HB := Lib.hid hb
          clear hown hb
          go_wp2
          go_ret
          exact ⟨_, rfl, HO.out, HB.out⟩
end Go.Proofs.Ytnnocjnmfabnaaa

