/-
  Contracts of the laws' helpers: Beyond, SameBytes, TwinBytes, LeftBytes.
-/
import Derived.Test.YthjhoealkalfgaaDoorBase
import Derived.IntWalk
namespace Go.Proofs.YthjhoealkalfgaaDoor
open Go.RowKit
set_option linter.unusedVariables false

/-- are these sizes together too much? -/
def big (zs : List Nat) : Bool := decide (1048576 < zs.sum)
abbrev iv (n : Nat) : Value := .int .i64 (n : Int)
theorem sum_take_le (zs : List Nat) (k : Nat) : (zs.take k).sum ≤ zs.sum := by
  induction zs generalizing k with
  | nil => simp
  | cons z zs ih => cases k with
    | zero => simp
    | succ k => simp; exact ih k
theorem sum_take_succ (zs : List Nat) (k z : Nat) (h : zs[k]? = some z) : (zs.take (k + 1)).sum = (zs.take k).sum + z := by
  rw [List.take_add_one, h]; simp
theorem big_of (zs : List Nat) (k : Nat) (h : 1048576 < (zs.take k).sum) : big zs = true := by
  unfold big; have := sum_take_le zs k; simp; omega

set_option maxHeartbeats 1000000 in
theorem beyond_any (A : Option Addr) (n c : Nat) (zs : List Nat) (w : World) (h : Lies w w.heap.size 1 A n (zs.map iv)) (hz : ∀ z ∈ zs, z ≤ 4611686018427387904) (hn : n ≤ 4611686018427387904) :
    Calls Tryd.prog 4 #[.slice A n c] w fun e w' => e = .returned (.bool (big zs)) ∧ w = w' := by
  have HN := Lib.hid h; clear h
  have HZ := Lib.hid hz; clear hz
  go_enter Tryd.func4, Tryd.ntmps4
  go_wp2
  go_loop [3, 4] (fun t i => ∃ k : Nat, k ≤ n ∧ i = .int .i64 (k : Int) ∧ t = .int .i64 ((zs.take k).sum : Int) ∧ (zs.take k).sum ≤ 1048576) (fun _ i => n - (intOf i).toNat)
  case atStart => exact ⟨0, Nat.zero_le _, rfl, rfl, by simp⟩
  case round =>
    obtain ⟨k, hk, rfl, rfl, hle⟩ := hrel
    by_cases hlt : k < n
    · obtain ⟨b, o, u, rfl, hbB, hu, hcell0⟩ := HN.out.at_ (j := k) hlt
      have hzs : k < zs.length := by have := HN.out.len; simp at this; omega
      obtain ⟨z, hz⟩ : ∃ z, zs[k]? = some z := ⟨zs[k], List.getElem?_eq_getElem hzs⟩
      have hzle := HZ.out z (List.mem_of_getElem? hz)
      rw [List.getElem?_map, hz] at hu
      injection hu with hu
      subst hu
      have HS := Lib.hid (sum_take_succ zs k z hz)
      clear hz hzs
      generalize hs : (zs.take k).sum = s at *
      clear hs
      by_cases hbig : 1048576 < s + z
      · have HB := Lib.hid (big_of zs (k + 1) (by rw [HS.out]; exact hbig))
        go_wp2
        go_ret
        exact ⟨by rw [HB.out]; rfl, rfl⟩
      · go_wp2
        go_round
        case rel => exact ⟨k + 1, hlt, by go_num, by rw [HS.out]; go_num, by rw [HS.out]; omega⟩
        case measure => simp [intOf]; omega
    · have hkn : k = n := by omega
      have hb : big zs = false := by
        unfold big
        have hl := HN.out.len
        simp at hl
        rw [List.take_of_length_le (by omega)] at hle
        simp; omega
      have HB := Lib.hid hb
      clear hb hkn
      go_wp2
      go_ret
      exact ⟨by rw [HB.out]; rfl, rfl⟩

/-- are two lists of bytes the same? -/
def sameB (a b : List UInt8) : Bool := decide (a = b)
theorem sameB_self (a : List UInt8) : sameB a a = true := by simp [sameB]

/-- a byte of a list that lies in memory -/
theorem Lies.byte {w : World} {B n k : Nat} {A : Option Addr} {l : List UInt8} (h : Lies w B 1 A n (l.map bv)) (hk : k < n) :
    ∃ b o x, A = some ⟨b, o, none⟩ ∧ b < B ∧ l[k]? = some x ∧ w.cell? ⟨b, o + k, none⟩ = some (.int .u8 (x.toNat : Int)) := by
  obtain ⟨b, o, u, e, hb, hu, hc⟩ := h.at_ hk
  rw [List.getElem?_map] at hu
  cases hx : l[k]? with
  | none => rw [hx] at hu; cases hu
  | some x =>
    rw [hx] at hu
    injection hu with hu
    subst hu
    exact ⟨b, o, x, e, hb, rfl, hc⟩
theorem Lies.blen {w : World} {B n : Nat} {A : Option Addr} {l : List UInt8} (h : Lies w B 1 A n (l.map bv)) : l.length = n := by have := h.len; simp at this; exact this

set_option maxHeartbeats 2000000 in
theorem same_any (A A2 : Option Addr) (n m c c2 B : Nat) (l l2 : List UInt8) (w : World) (h1 : Lies w B 1 A n (l.map bv)) (h2 : Lies w B 1 A2 m (l2.map bv)) (hn : n ≤ 4611686018427387904) :
    Calls Tryd.prog 9 #[.slice A n c, .slice A2 m c2] w fun e w' => e = .returned (.bool (sameB l l2)) ∧ ∃ q, w' = w.drewN q := by
  have H1 := Lib.hid h1; clear h1
  have H2 := Lib.hid h2; clear h2
  by_cases hnm : n = m
  · subst hnm
    have hne : ((n : Int) != (n : Int)) = false := by simp
    go_enter Tryd.func9, Tryd.ntmps9
    go_wp2
    go_loopw [5] (fun i wr => ∃ k q : Nat, k ≤ n ∧ i = .int .i64 (k : Int) ∧ l.take k = l2.take k ∧ wr = w.drewN q) (fun i _ => n - (intOf i).toNat)
    case atStart => exact ⟨0, 0, Nat.zero_le _, rfl, by simp, rfl⟩
    case round =>
      obtain ⟨k, q, hk, rfl, heq, rfl⟩ := hrel
      have HE := Lib.hid heq; clear heq
      by_cases hlt : k < n
      · obtain ⟨b, o, x, rfl, _, hx, hc1⟩ := H1.out.byte hlt
        obtain ⟨b2, o2, y, rfl, _, hy, hc2⟩ := H2.out.byte hlt
        have g1 : (w.drewN q).cell? ⟨b, o + k, none⟩ = some (.int .u8 (x.toNat : Int)) := hc1
        have g2 : (w.drewN q).cell? ⟨b2, o2 + k, none⟩ = some (.int .u8 (y.toNat : Int)) := hc2
        have HX := Lib.hid hx; have HY := Lib.hid hy
        clear hx hy
        have hi : (k : Int) < (n : Int) := by omega
        have hi0 : (0 : Int) ≤ (k : Int) := by omega
        by_cases hxy : x = y
        · have hbq : ((x.toNat : Int) != (y.toNat : Int)) = false := by simp [hxy]
          have HT := Lib.hid (show l.take (k + 1) = l2.take (k + 1) from by rw [List.take_add_one, List.take_add_one, HE.out, HX.out, HY.out, hxy])
          have hl1 := x.toNat_lt
          generalize x.toNat = xn at *
          generalize y.toNat = yn at *
          clear hxy HX HY
          go_wp2
          go_quiet (fail)
          go_wp2
          go_roundw
          case rel => exact ⟨k + 1, _, hlt, by go_num, HT.out, by first | rfl | (rw [World.drewN_drewN])⟩
          case measure => simp [intOf]; omega
        · have hbq : ((x.toNat : Int) != (y.toNat : Int)) = true := by
            have : x.toNat ≠ y.toNat := fun h => hxy (UInt8.toNat_inj.1 h)
            simp; omega
          have HT := Lib.hid (show sameB l l2 = false from by
            unfold sameB
            have : l ≠ l2 := by
              rintro rfl
              rw [HX.out] at HY
              have := HY.out
              injection this with this
              exact hxy this
            simp [this])
          generalize x.toNat = xn at *
          generalize y.toNat = yn at *
          clear hxy HX HY
          go_wp2
          go_quiet (fail)
          go_wp2
          go_ret
          exact ⟨by rw [HT.out]; rfl, _, by first | rfl | (rw [World.drewN_drewN])⟩
      · have HT := Lib.hid (show sameB l l2 = true from by
          have e := HE.out
          rw [List.take_of_length_le (by have := H1.out.blen; omega), List.take_of_length_le (by have := H2.out.blen; omega)] at e
          rw [e]; exact sameB_self _)
        go_wp2
        go_ret
        exact ⟨by rw [HT.out]; rfl, _, rfl⟩
  · have hne : ((n : Int) != (m : Int)) = true := by simp; omega
    have HT := Lib.hid (show sameB l l2 = false from by
      unfold sameB
      have : l ≠ l2 := by
        rintro rfl
        have := H1.out.blen
        have := H2.out.blen
        omega
      simp [this])
    go_enter Tryd.func9, Tryd.ntmps9
    go_wp2
    go_ret
    exact ⟨by rw [HT.out]; rfl, 0, rfl⟩
end Go.Proofs.YthjhoealkalfgaaDoor
