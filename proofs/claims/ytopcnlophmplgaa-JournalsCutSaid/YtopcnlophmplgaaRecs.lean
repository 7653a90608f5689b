/-
  Contracts of the laws' helpers: RecordsSize, BytesSize.
-/
import Derived.Test.YtopcnlophmplgaaRcd
namespace Go.Proofs.Ytopcnlophmplgaa
open Go.RowKit
set_option linter.unusedVariables false

theorem bytesSize_any (A : Option Addr) (n c : Nat) (w : World) :
    Calls Try.prog 35 #[.slice A n c] w fun e w' => e = .returned (.int .i64 (n : Int)) ∧ w = w' := by
  go_enter Try.func35, Try.ntmps35
  go_wp2
  go_ret
  exact ⟨rfl, rfl⟩

/-- how many bytes -/
def rsum (rs : List Rcd) : Nat := (rs.map Rcd.n).sum
theorem rsum_take (rs : List Rcd) (k : Nat) (r : Rcd) (h : rs[k]? = some r) : rsum (rs.take (k + 1)) = rsum (rs.take k) + r.n := by
  unfold rsum
  rw [List.take_add_one, h]; simp

set_option maxHeartbeats 1000000 in
theorem recordsSize_any (A : Option Addr) (n c : Nat) (rs : List Rcd) (w : World) (h : Lies w w.heap.size 1 A n (rs.map Rcd.v)) (hr : Rcds w w.heap.size rs) (hnc : n ≤ 140737488351232) :
    Calls Try.prog 12 #[.slice A n c] w fun e w' => ∃ z : Nat, e = .returned (.int .i64 (z : Int)) ∧ w = w' ∧ (z ≤ 1048576 → z = n + rsum rs) ∧ z ≤ 140737489399808 := by
  have HN := Lib.hid h; clear h
  have HR := Lib.hid hr; clear hr
  go_enter Try.func12, Try.ntmps12
  go_wp2
  go_loop [3, 4] (fun t i => ∃ k : Nat, k ≤ n ∧ i = .int .i64 (k : Int) ∧ t = .int .i64 ((n + rsum (rs.take k) : Nat) : Int) ∧ n + rsum (rs.take k) ≤ 140737489399808) (fun _ i => n - (intOf i).toNat)
  case atStart => exact ⟨0, Nat.zero_le _, rfl, by simp [rsum], by simp [rsum]; omega⟩
  case round =>
    obtain ⟨k, hk, rfl, rfl, hle⟩ := hrel
    by_cases hlt : k < n
    · obtain ⟨b, o, r, rfl, hbB, hu, hcell0⟩ := HN.out.rcd hlt
      have hrn := (HR.out r (List.mem_of_getElem? hu)).2
      have HS := Lib.hid (rsum_take rs k r hu)
      clear hu
      generalize hs : n + rsum (rs.take k) = s at *
      have HSS := Lib.hid hs
      clear hs
      by_cases hbig : 1048576 < s
      · have hd : decide ((s : Int) ≤ 1048576) = false := by simp; omega
        go_wp2
        go_ret
        exact ⟨s, rfl, rfl, fun h => by omega, hle⟩
      · have hd : decide ((s : Int) ≤ 1048576) = true := by simp; omega
        go_wp2_with (go_at_call 35; refine (bytesSize_any r.A r.n r.c _).mono ?_; rintro e w' ⟨rfl, rfl⟩)
        go_round
        case rel => exact ⟨k + 1, hlt, by go_num, by rw [HS.out]; have := HSS.out; congr 1; omega, by rw [HS.out]; have := HSS.out; omega⟩
        case measure => simp [intOf]; omega
    · obtain rfl : n = k := by omega
      have hb : rs.take n = rs := List.take_of_length_le (by have := HN.out.rlen; omega)
      rw [hb] at hle ⊢
      obtain ⟨s, hs⟩ : ∃ s, n + rsum rs = s := ⟨_, rfl⟩
      rw [hs] at hle ⊢
      have HSS := Lib.hid hs
      clear hs
      go_wp2
      go_ret
      exact ⟨s, rfl, rfl, fun _ => HSS.out.symm, hle⟩
end Go.Proofs.Ytopcnlophmplgaa
