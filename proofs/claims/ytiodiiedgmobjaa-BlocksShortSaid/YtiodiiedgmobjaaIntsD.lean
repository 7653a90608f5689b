/-
  Contracts of package ints: Get.
-/
import Derived.Test.YtiodiiedgmobjaaIntsC
namespace Go.Proofs.Ytiodiiedgmobjaa
open Go.RowKit
set_option linter.unusedVariables false

/-- what the loop of Get keeps: k bytes were read, s is their sum -/
def GRel (w : World) (l : List UInt8) (m : Nat) (i : Value) (wr : World) : Prop :=
  ∃ k s : Nat, k ≤ m ∧ i = .int .i64 (k : Int) ∧ s < 2 ^ (7 * k) ∧ Box wr (w.heap.size + 1) 3 (.int .i64 ((7 * k : Nat) : Int)) ∧ Box wr w.heap.size 35 (.int .u64 (s : Int)) ∧
    Vi.getGo k s (l.drop k) = Vi.get l ∧ Below w.heap.size w wr

theorem boxes_below {w wr : World} {n : Nat} {x y : Value} (hb : Below w.heap.size w wr) : Below w.heap.size w (((wr.setCell ⟨w.heap.size, 0, none⟩ x).setCell ⟨w.heap.size + 1, 0, none⟩ y).drewN n) :=
  below_drewN ((hb.setCell (p := ⟨w.heap.size, 0, none⟩) (Nat.le_refl _) _).setCell (p := ⟨w.heap.size + 1, 0, none⟩) (Nat.le_succ _) _) n

theorem GRel.next {w wr : World} {l : List UInt8} {m k s q n c : Nat} (hk : k < m) (hm : m ≤ 10) (hc : 128 ≤ c) (hc2 : c < 256) (hl : l[k]? = some (UInt8.ofNat c)) (hs : s < 2 ^ (7 * k)) (hq : q = c % 128 * 2 ^ (7 * k)) (hfit : c % 128 * 2 ^ (7 * k) < 18446744073709551616)
    (h1 : Box wr (w.heap.size + 1) 3 (.int .i64 ((7 * k : Nat) : Int))) (h2 : Box wr w.heap.size 35 (.int .u64 (s : Int))) (hget : Vi.getGo k s (l.drop k) = Vi.get l) (hb : Below w.heap.size w wr) :
    GRel w l m (.int .i64 ((k : Int) + 1)) (((wr.setCell ⟨w.heap.size, 0, none⟩ (.int .u64 ((s + q : Nat) : Int))).setCell ⟨w.heap.size + 1, 0, none⟩ (.int .i64 (((7 * k : Nat) : Int) + 7))).drewN n) := by
  refine ⟨k + 1, s + q, hk, by simp, ?_, ?_, ?_, ?_, boxes_below hb⟩
  · rw [Vi.pow7, hq]
    have h4 : c % 128 * 2 ^ (7 * k) ≤ 127 * 2 ^ (7 * k) := Nat.mul_le_mul_right _ (by omega)
    omega
  · have e : (((7 * (k + 1) : Nat)) : Int) = ((7 * k : Nat) : Int) + 7 := by omega
    rw [e]
    exact (h1.far (p := ⟨w.heap.size, 0, none⟩) (by simp) _).set _
  · exact (h2.set _).far (p := ⟨w.heap.size + 1, 0, none⟩) (by simp) _
  · rw [← hget]
    have hlt : k < l.length := by rcases List.getElem?_eq_some_iff.1 hl with ⟨h, _⟩; exact h
    have hd : l.drop k = UInt8.ofNat c :: l.drop (k + 1) := by
      rw [List.drop_eq_getElem_cons hlt]
      rcases List.getElem?_eq_some_iff.1 hl with ⟨_, h⟩
      rw [h]
    rw [hd]
    conv => rhs; unfold Vi.getGo
    rw [Vi.toNat_ofNat c hc2, if_neg (by omega), if_neg (by omega), if_neg (by omega), hq]
theorem GRel.end_ {l : List UInt8} {k s c : Nat} (hk : k < 10) (hc2 : c < 128) (hl : l[k]? = some (UInt8.ofNat c)) (hfit : c * 2 ^ (7 * k) < 18446744073709551616) (hnz : 0 < c ∨ k = 0)
    (hget : Vi.getGo k s (l.drop k) = Vi.get l) : Vi.get l = (s + c * 2 ^ (7 * k), k + 1, 0) := by
  rw [← hget]
  have hlt : k < l.length := by rcases List.getElem?_eq_some_iff.1 hl with ⟨h, _⟩; exact h
  have hd : l.drop k = UInt8.ofNat c :: l.drop (k + 1) := by
    rw [List.drop_eq_getElem_cons hlt]
    rcases List.getElem?_eq_some_iff.1 hl with ⟨_, h⟩
    rw [h]
  rw [hd]
  unfold Vi.getGo
  rw [Vi.toNat_ofNat c (by omega), Nat.mod_eq_of_lt hc2, if_neg (by omega), if_neg (by omega), if_pos hc2]
theorem GRel.bad {l : List UInt8} {k s c : Nat} (hk : k < 10) (hc2 : c < 256) (hl : l[k]? = some (UInt8.ofNat c)) (hbad : 18446744073709551616 ≤ c % 128 * 2 ^ (7 * k) ∨ c = 0 ∧ 0 < 7 * k)
    (hget : Vi.getGo k s (l.drop k) = Vi.get l) : Vi.get l = (0, 0, 4) := by
  rw [← hget]
  have hlt : k < l.length := by rcases List.getElem?_eq_some_iff.1 hl with ⟨h, _⟩; exact h
  have hd : l.drop k = UInt8.ofNat c :: l.drop (k + 1) := by
    rw [List.drop_eq_getElem_cons hlt]
    rcases List.getElem?_eq_some_iff.1 hl with ⟨_, h⟩
    rw [h]
  rw [hd]
  unfold Vi.getGo
  rw [Vi.toNat_ofNat c (by omega), if_neg (by omega), if_pos]
  rcases hbad with h | ⟨h, h2⟩
  · exact .inl h
  · exact .inr ⟨h, by omega⟩
theorem GRel.out {l : List UInt8} {k s : Nat} (hk : k = min l.length 10) (hget : Vi.getGo k s (l.drop k) = Vi.get l) : Vi.get l = (0, 0, if l.length < 10 then 5 else 4) := by
  rw [← hget]
  by_cases h : l.length < 10
  · have e : k = l.length := by omega
    rw [e, List.drop_eq_nil_of_le (Nat.le_refl _)]
    simp [Vi.getGo, h]
  · have e : k = 10 := by omega
    rw [e, if_neg h]
    cases l.drop 10 <;> simp [Vi.getGo]

theorem box_second (w : World) (u v : Value) (t' t : TypeId) : Box ((w.alloc (.cells #[u] t')).alloc (.cells #[v] t)) (w.heap.size + 1) t v := by
  have h := Box.new (w.alloc (.cells #[u] t')) t v
  simpa using h

theorem at_map {l : List UInt8} {k : Nat} {u : Value} (h : (l.map bv)[k]? = some u) : ∃ x, l[k]? = some x ∧ u = bv x := by
  rw [List.getElem?_map] at h
  cases hx : l[k]? with
  | none => rw [hx] at h; cases h
  | some x => rw [hx] at h; injection h with h; exact ⟨x, rfl, h.symm⟩

set_option maxHeartbeats 2000000 in
theorem get_long (A : Option Addr) (n c : Nat) (l : List UInt8) (w : World) (h : Lies w w.heap.size 1 A n (l.map bv)) (hnc : n ≤ c) (hc : c ≤ maxLen) (h10 : 10 < n) :
    Calls Try.prog 58 #[.slice A n c] w fun e w' => e = .returned (.tuple #[.int .u64 ((Vi.get l).1 : Int), .int .i64 ((Vi.get l).2.1 : Int), .int .i64 ((Vi.get l).2.2 : Int)]) ∧ Below w.heap.size w w' := by
  unfold maxLen at hc
  have HN := Lib.hid h; clear h
  go_enter Try.func58, Try.ntmps58
  go_wp2_with (go_at_call 62; refine (reader_new _).mono ?_; rintro e w' ⟨rfl, rfl⟩)
  go_loopw [18] (fun i wr => GRel w l 10 i wr) (fun i _ => 10 - (intOf i).toNat)
  case atStart => exact ⟨0, 0, Nat.zero_le _, rfl, by simp, box_second w _ _ _ _, (Box.new w _ _).alloc _, rfl, ((Below.refl _ _).alloc (Nat.le_refl _) _).alloc (by simp) _⟩
  case round =>
    obtain ⟨k, s, hk, rfl, hs, hb1, hb2, hget, hb⟩ := hrel
    have HS := Lib.hid hs; clear hs
    have HG := Lib.hid hget; clear hget
    by_cases hlt : k < 10
    · obtain ⟨b, o, u, rfl, hbB, hu, hcell0⟩ := HN.out.at_ (j := k) (by omega)
      obtain ⟨x, hx, hxu⟩ := at_map hu
      subst hxu
      have HX := Lib.hid hx; clear hx hu
      have hcell : wr.cell? ⟨b, o + k, none⟩ = some (.int .u8 ((x.toNat : Nat) : Int)) := (hb.cell hbB).trans hcell0
      have hx2 := x.toNat_lt
      clear hcell0
      obtain ⟨y, hy⟩ : ∃ y, y = x.toNat := ⟨_, rfl⟩
      have HY := Lib.hid (show l[k]? = some (UInt8.ofNat y) from by rw [HX.out, hy, UInt8.ofNat_toNat])
      rw [← hy] at hcell hx2
      clear hy HX
      have hy2 : y < 256 := hx2
      clear hx2
      by_cases hbad : 18446744073709551616 ≤ y % 128 * 2 ^ (7 * k) ∨ y = 0 ∧ 0 < 7 * k
      · have HB := Lib.hid hbad; clear hbad
        go_wp2_with fail
        refine (reader_bad _ _ y (7 * k) s _ hy2 (by omega) HB.out hb1 hb2).mono ?_
        rintro e w1 ⟨z, bb, rfl, nn, x1, y1, rfl⟩
        have HR := Lib.hid (GRel.bad (by omega) hy2 HY.out HB.out HG.out)
        have HBB := Lib.hid (boxes_below (n := nn) (x := x1) (y := y1) hb)
        clear hb1 hb2 hcell
        go_wp2
        go_ret3
        exact ⟨by rw [HR.out]; rfl, HBB.out⟩
      · have hfit : y % 128 * 2 ^ (7 * k) < 18446744073709551616 := by omega
        by_cases hend : y < 128
        · have hmod : y % 128 = y := Nat.mod_eq_of_lt hend
          rw [hmod] at hfit
          have hsum := Vi.sum_lt k s y (by omega) HS.out hfit
          have hnz : 0 < y ∨ k = 0 := by omega
          have HR := Lib.hid (GRel.end_ (by omega) hend HY.out hfit hnz HG.out)
          have HF := Lib.hid hfit; have HSUM := Lib.hid hsum; clear hfit hsum hmod hbad
          go_wp2_with fail
          refine (reader_end _ _ y (7 * k) s _ _ hend (by omega) HS.out rfl HSUM.out (by omega) hb1 hb2).mono ?_
          rintro e w1 ⟨rfl, nn, x1, y1, rfl⟩
          have HBB := Lib.hid (boxes_below (n := nn) (x := x1) (y := y1) hb)
          clear hb1 hb2 hcell
          generalize s + y * 2 ^ (7 * k) = r at HR ⊢
          go_wp2
          go_ret3
          exact ⟨by rw [HR.out]; rfl, HBB.out⟩
        · have hsum := Vi.sum_lt k s (y % 128) (by omega) HS.out hfit
          have HR := Lib.hid (fun nn => GRel.next (n := nn) (q := y % 128 * 2 ^ (7 * k)) hlt (by omega) (by omega) hy2 HY.out HS.out rfl hfit hb1 hb2 HG.out hb)
          have HF := Lib.hid hfit; have HSUM := Lib.hid hsum; clear hfit hsum hbad
          go_wp2_with fail
          refine (reader_more _ _ y _ (7 * k) s _ _ rfl (by omega) hy2 (by omega) HS.out rfl HSUM.out hb1 hb2).mono ?_
          rintro e w1 ⟨rfl, nn, rfl⟩
          have HRR := Lib.hid (HR.out nn)
          clear hb1 hb2 hcell HR HSUM HF
          generalize s + y % 128 * 2 ^ (7 * k) = r at HRR ⊢
          go_wp2
          go_roundw
          case rel => exact HRR.out
          case measure => simp [intOf]; omega
    · have hkm : k = min l.length 10 := by
        have := HN.out.len
        simp at this
        omega
      have HR := Lib.hid (GRel.out hkm HG.out)
      have hll : l.length = n := by simpa using HN.out.len
      rw [hll] at HR
      clear hkm hll hb1 hb2
      go_wp2
      go_ret3
      exact ⟨by rw [HR.out]; rw [if_neg (by omega)]; rfl, hb⟩

set_option maxHeartbeats 2000000 in
theorem get_small (A : Option Addr) (n c : Nat) (l : List UInt8) (w : World) (h : Lies w w.heap.size 1 A n (l.map bv)) (hnc : n ≤ c) (hc : c ≤ maxLen) (h10 : n ≤ 10) :
    Calls Try.prog 58 #[.slice A n c] w fun e w' => e = .returned (.tuple #[.int .u64 ((Vi.get l).1 : Int), .int .i64 ((Vi.get l).2.1 : Int), .int .i64 ((Vi.get l).2.2 : Int)]) ∧ Below w.heap.size w w' := by
  unfold maxLen at hc
  have HN := Lib.hid h; clear h
  go_enter Try.func58, Try.ntmps58
  go_wp2_with (go_at_call 62; refine (reader_new _).mono ?_; rintro e w' ⟨rfl, rfl⟩)
  go_loopw [18] (fun i wr => GRel w l n i wr) (fun i _ => n - (intOf i).toNat)
  case atStart => exact ⟨0, 0, Nat.zero_le _, rfl, by simp, box_second w _ _ _ _, (Box.new w _ _).alloc _, rfl, ((Below.refl _ _).alloc (Nat.le_refl _) _).alloc (by simp) _⟩
  case round =>
    obtain ⟨k, s, hk, rfl, hs, hb1, hb2, hget, hb⟩ := hrel
    have HS := Lib.hid hs; clear hs
    have HG := Lib.hid hget; clear hget
    by_cases hlt : k < n
    · obtain ⟨b, o, u, rfl, hbB, hu, hcell0⟩ := HN.out.at_ (j := k) (by omega)
      obtain ⟨x, hx, hxu⟩ := at_map hu
      subst hxu
      have HX := Lib.hid hx; clear hx hu
      have hcell : wr.cell? ⟨b, o + k, none⟩ = some (.int .u8 ((x.toNat : Nat) : Int)) := (hb.cell hbB).trans hcell0
      have hx2 := x.toNat_lt
      clear hcell0
      obtain ⟨y, hy⟩ : ∃ y, y = x.toNat := ⟨_, rfl⟩
      have HY := Lib.hid (show l[k]? = some (UInt8.ofNat y) from by rw [HX.out, hy, UInt8.ofNat_toNat])
      rw [← hy] at hcell hx2
      clear hy HX
      have hy2 : y < 256 := hx2
      clear hx2
      by_cases hbad : 18446744073709551616 ≤ y % 128 * 2 ^ (7 * k) ∨ y = 0 ∧ 0 < 7 * k
      · have HB := Lib.hid hbad; clear hbad
        go_wp2_with fail
        refine (reader_bad _ _ y (7 * k) s _ hy2 (by omega) HB.out hb1 hb2).mono ?_
        rintro e w1 ⟨z, bb, rfl, nn, x1, y1, rfl⟩
        have HR := Lib.hid (GRel.bad (by omega) hy2 HY.out HB.out HG.out)
        have HBB := Lib.hid (boxes_below (n := nn) (x := x1) (y := y1) hb)
        clear hb1 hb2 hcell
        go_wp2
        go_ret3
        exact ⟨by rw [HR.out]; rfl, HBB.out⟩
      · have hfit : y % 128 * 2 ^ (7 * k) < 18446744073709551616 := by omega
        by_cases hend : y < 128
        · have hmod : y % 128 = y := Nat.mod_eq_of_lt hend
          rw [hmod] at hfit
          have hsum := Vi.sum_lt k s y (by omega) HS.out hfit
          have hnz : 0 < y ∨ k = 0 := by omega
          have HR := Lib.hid (GRel.end_ (by omega) hend HY.out hfit hnz HG.out)
          have HF := Lib.hid hfit; have HSUM := Lib.hid hsum; clear hfit hsum hmod hbad
          go_wp2_with fail
          refine (reader_end _ _ y (7 * k) s _ _ hend (by omega) HS.out rfl HSUM.out (by omega) hb1 hb2).mono ?_
          rintro e w1 ⟨rfl, nn, x1, y1, rfl⟩
          have HBB := Lib.hid (boxes_below (n := nn) (x := x1) (y := y1) hb)
          clear hb1 hb2 hcell
          generalize s + y * 2 ^ (7 * k) = r at HR ⊢
          go_wp2
          go_ret3
          exact ⟨by rw [HR.out]; rfl, HBB.out⟩
        · have hsum := Vi.sum_lt k s (y % 128) (by omega) HS.out hfit
          have HR := Lib.hid (fun nn => GRel.next (n := nn) (q := y % 128 * 2 ^ (7 * k)) hlt (by omega) (by omega) hy2 HY.out HS.out rfl hfit hb1 hb2 HG.out hb)
          have HF := Lib.hid hfit; have HSUM := Lib.hid hsum; clear hfit hsum hbad
          go_wp2_with fail
          refine (reader_more _ _ y _ (7 * k) s _ _ rfl (by omega) hy2 (by omega) HS.out rfl HSUM.out hb1 hb2).mono ?_
          rintro e w1 ⟨rfl, nn, rfl⟩
          have HRR := Lib.hid (HR.out nn)
          clear hb1 hb2 hcell HR HSUM HF
          generalize s + y % 128 * 2 ^ (7 * k) = r at HRR ⊢
          go_wp2
          go_roundw
          case rel => exact HRR.out
          case measure => simp [intOf]; omega
    · have hkm : k = min l.length 10 := by
        have := HN.out.len
        simp at this
        omega
      have HR := Lib.hid (GRel.out hkm HG.out)
      have hll : l.length = n := by simpa using HN.out.len
      rw [hll] at HR
      clear hkm hll hb1 hb2
      by_cases hn9 : n < 10
      · go_wp2
        go_ret3
        exact ⟨by rw [HR.out, if_pos hn9]; rfl, hb⟩
      · go_wp2
        go_ret3
        exact ⟨by rw [HR.out, if_neg hn9]; rfl, hb⟩

theorem get_any (A : Option Addr) (n c : Nat) (l : List UInt8) (w : World) (h : Lies w w.heap.size 1 A n (l.map bv)) (hnc : n ≤ c) (hc : c ≤ maxLen) :
    Calls Try.prog 58 #[.slice A n c] w fun e w' => e = .returned (.tuple #[.int .u64 ((Vi.get l).1 : Int), .int .i64 ((Vi.get l).2.1 : Int), .int .i64 ((Vi.get l).2.2 : Int)]) ∧ Below w.heap.size w w' := by
  by_cases h10 : n ≤ 10
  · exact get_small A n c l w h hnc hc h10
  · exact get_long A n c l w h hnc hc (by omega)
end Go.Proofs.Ytiodiiedgmobjaa
