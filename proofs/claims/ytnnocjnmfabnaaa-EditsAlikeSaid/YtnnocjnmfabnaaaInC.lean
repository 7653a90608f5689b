/-
  Contracts of package ints: the reader of varints, Get.
  Contracts of package ints: Get.
  Contracts of package ints: GetText.
-/
import Derived.Test.YtnnocjnmfabnaaaInA
import Derived.RegionTactic
import Derived.ChangeAlike
namespace Go.Proofs.Ytnnocjnmfabnaaa
open Go.RowKit
set_option linter.unusedVariables false

theorem and127b (n : Nat) (hn : n < 256) : bits .and .u8 (n : Int) 127 = ((n % 128 : Nat) : Int) := by
  have h := u8_and_nat n 127 hn (by omega)
  have e : n &&& 127 = n % 128 := Nat.and_two_pow_sub_one_eq_mod n 7
  rw [e] at h
  exact h

theorem or_low (sh s p : Nat) (hs : s < 2 ^ sh) (h : s + p * 2 ^ sh < 18446744073709551616) : bits .or .u64 (s : Int) ((p * 2 ^ sh : Nat) : Int) = ((s + p * 2 ^ sh : Nat) : Int) := by
  rw [u64_or_nat s (p * 2 ^ sh) (by omega) (by omega)]
  have e := Nat.two_pow_add_eq_or_of_lt (i := sh) (b := s) hs p
  rw [Nat.mul_comm (2 ^ sh) p] at e
  rw [Nat.or_comm, ← e, Nat.add_comm]
theorem wrap_u64_nat (q : Nat) (h : q < 18446744073709551616) : IntKind.u64.wrap (q : Int) = (q : Int) := by
  rw [IntKind.wrap_u64]; omega
theorem Box.ne {w : World} {g g' : Nat} {t t' : TypeId} {v v' : Value} (h : Box w g t v) (h' : Box w g' t' v') (hne : t ≠ t') : g ≠ g' := by
  rintro rfl
  unfold Box at h h'
  rw [h] at h'
  injection h' with h'
  injection h' with _ h'
  exact hne h'

set_option maxHeartbeats 1000000 in
theorem reader_more (gs gm c p sh s q : Nat) (w : World) (hp : p = c % 128) (hc : 128 ≤ c) (hc2 : c < 256) (hsh : sh ≤ 63) (hs : s < 2 ^ sh) (hq : q = p * 2 ^ sh) (hfit : s + q < 18446744073709551616)
    (h1 : Box w gs 3 (.int .i64 (sh : Int))) (h2 : Box w gm 25 (.int .u64 (s : Int))) :
    Calls Try.prog 66 #[.int .u8 (c : Int), .pointer (some ⟨gs, 0, none⟩), .pointer (some ⟨gm, 0, none⟩)] w fun e w' =>
      e = .returned (.tuple #[.int .u64 ((s + q : Nat) : Int), .bool false, .bool true]) ∧ ∃ n, w' = ((w.setCell ⟨gm, 0, none⟩ (.int .u64 ((s + q : Nat) : Int))).setCell ⟨gs, 0, none⟩ (.int .i64 ((sh : Int) + 7))).drewN n := by
  have hc1 := h1.cell
  have hf1 := h1.frozen
  have hcm := h2.cell
  have hfm := h2.frozen
  have hne := h1.ne h2 (by decide)
  have hne2 := h2.ne h1 (by decide)
  have hb : bits .and .u8 (c : Int) 127 = (p : Int) := by rw [hp]; exact and127b c hc2
  have hp2 : p < 128 := by omega
  have hlt : decide ((c : Int) < 128) = false := by simp; omega
  have hz : ((c : Int) == 0) = false := by simp; omega
  have hwr : IntKind.u64.wrap ((p : Int) * 2 ^ sh) = (q : Int) := by
    have := wrap_u64_nat q (by omega)
    rw [← this, hq]; simp
  have hdv : (q : Int) / 2 ^ sh = (p : Int) := by
    have h : q / 2 ^ sh = p := by rw [hq]; exact Nat.mul_div_cancel _ (Nat.two_pow_pos sh)
    rw [← h]; simp
  have hor : bits .or .u64 (s : Int) (q : Int) = ((s + q : Nat) : Int) := by rw [hq]; exact or_low sh s p hs (by omega)
  clear hp hq hs
  go_enter Try.func66, Try.ntmps66
  go_wp2
  go_quiet (fail)
  go_wp2
  go_region
  all_goals go_wp2
  all_goals go_ret3
  all_goals exact ⟨rfl, nq + 1, rfl⟩

/-- a byte that ends the number -/
theorem reader_end (gs gm c sh s q : Nat) (w : World) (hc2 : c < 128) (hsh : sh ≤ 63) (hs : s < 2 ^ sh) (hq : q = c * 2 ^ sh) (hfit : s + q < 18446744073709551616) (hnz : 0 < c ∨ sh = 0)
    (h1 : Box w gs 3 (.int .i64 (sh : Int))) (h2 : Box w gm 25 (.int .u64 (s : Int))) :
    Calls Try.prog 66 #[.int .u8 (c : Int), .pointer (some ⟨gs, 0, none⟩), .pointer (some ⟨gm, 0, none⟩)] w fun e w' =>
      e = .returned (.tuple #[.int .u64 ((s + q : Nat) : Int), .bool true, .bool true]) ∧ ∃ n x y, w' = ((w.setCell ⟨gm, 0, none⟩ x).setCell ⟨gs, 0, none⟩ y).drewN n := by
  have hc1 := h1.cell
  have hf1 := h1.frozen
  have hcm := h2.cell
  have hfm := h2.frozen
  have hne := h1.ne h2 (by decide)
  have hne2 := h2.ne h1 (by decide)
  have hb : bits .and .u8 (c : Int) 127 = (c : Int) := by rw [and127b c (by omega), Nat.mod_eq_of_lt hc2]
  have hlt : decide ((c : Int) < 128) = true := by simp; omega
  have hwr : IntKind.u64.wrap ((c : Int) * 2 ^ sh) = (q : Int) := by
    have := wrap_u64_nat q (by omega)
    rw [← this, hq]; simp
  have hdv : (q : Int) / 2 ^ sh = (c : Int) := by
    have h : q / 2 ^ sh = c := by rw [hq]; exact Nat.mul_div_cancel _ (Nat.two_pow_pos sh)
    rw [← h]; simp
  have hor : bits .or .u64 (s : Int) (q : Int) = ((s + q : Nat) : Int) := by rw [hq]; exact or_low sh s c hs (by omega)
  clear hq hs
  by_cases h0 : 0 < c
  · have hz : ((c : Int) == 0) = false := by simp; omega
    clear hnz h0
    go_enter Try.func66, Try.ntmps66
    go_wp2
    go_quiet (fail)
    go_wp2
    go_region
    all_goals go_wp2
    all_goals go_ret3
    all_goals exact ⟨rfl, nq + 1, _, _, rfl⟩
  · have hz : ((c : Int) == 0) = true := by simp; omega
    have hg : decide ((0 : Int) < (sh : Int)) = false := by simp; omega
    have hg2 : decide (0 < sh) = false := by simp; omega
    clear hnz h0
    go_enter Try.func66, Try.ntmps66
    go_wp2
    go_quiet (fail)
    go_wp2
    go_region
    all_goals go_wp2
    all_goals go_ret3
    all_goals exact ⟨rfl, nq + 1, _, _, rfl⟩

/-- a byte that is refused -/
theorem reader_bad (gs gm c sh s : Nat) (w : World) (hc2 : c < 256) (hsh : sh ≤ 63) (hbad : 18446744073709551616 ≤ c % 128 * 2 ^ sh ∨ c = 0 ∧ 0 < sh)
    (h1 : Box w gs 3 (.int .i64 (sh : Int))) (h2 : Box w gm 25 (.int .u64 (s : Int))) :
    Calls Try.prog 66 #[.int .u8 (c : Int), .pointer (some ⟨gs, 0, none⟩), .pointer (some ⟨gm, 0, none⟩)] w fun e w' =>
      ∃ z b, e = .returned (.tuple #[.int .u64 z, .bool b, .bool false]) ∧ ∃ n x y, w' = ((w.setCell ⟨gm, 0, none⟩ x).setCell ⟨gs, 0, none⟩ y).drewN n := by
  have hc1 := h1.cell
  have hf1 := h1.frozen
  have hcm := h2.cell
  have hfm := h2.frozen
  have hne := h1.ne h2 (by decide)
  have hne2 := h2.ne h1 (by decide)
  obtain ⟨p, hp⟩ : ∃ p, p = c % 128 := ⟨_, rfl⟩
  have hb : bits .and .u8 (c : Int) 127 = (p : Int) := by rw [hp]; exact and127b c hc2
  have hp2 : p < 128 := by omega
  obtain ⟨r, hr⟩ : ∃ r, r = p * 2 ^ sh % 18446744073709551616 := ⟨_, rfl⟩
  have hwr : IntKind.u64.wrap ((p : Int) * 2 ^ sh) = (r : Int) := by
    rw [IntKind.wrap_u64, hr]; simp
  have hrl : r < 18446744073709551616 := by rw [hr]; exact Nat.mod_lt _ (by decide)
  obtain ⟨o, hor⟩ : ∃ o, bits .or .u64 (s : Int) (r : Int) = o := ⟨_, rfl⟩
  have hpow : 0 < 2 ^ sh := Nat.two_pow_pos sh
  rcases hbad with hbig | ⟨hc0, hs0⟩
  · rw [← hp] at hbig
    have hdv : ((r : Int) / 2 ^ sh == (p : Int)) = false := by
      have h : r / 2 ^ sh ≠ p := by
        intro h
        have h3 : p * 2 ^ sh ≤ r := by rw [← h]; exact Nat.div_mul_le_self _ _
        omega
      have h4 : ((r / 2 ^ sh : Nat) : Int) ≠ (p : Int) := by omega
      simp at h4 ⊢
      exact h4
    have hz : ((c : Int) == 0) = false := by
      have : c ≠ 0 := by
        rintro rfl
        simp at hp; subst hp; simp at hbig
      simp; omega
    clear hp hr hpow hbig
    by_cases hlt : c < 128
    · have hlt2 : decide ((c : Int) < 128) = true := by simp; omega
      go_enter Try.func66, Try.ntmps66
      go_wp2
      go_quiet (fail)
      go_wp2
      go_region
      all_goals go_wp2
      all_goals go_ret3
      all_goals exact ⟨_, _, rfl, nq + 1, _, _, rfl⟩
    · have hlt2 : decide ((c : Int) < 128) = false := by simp; omega
      go_enter Try.func66, Try.ntmps66
      go_wp2
      go_quiet (fail)
      go_wp2
      go_region
      all_goals go_wp2
      all_goals go_ret3
      all_goals exact ⟨_, _, rfl, nq + 1, _, _, rfl⟩
  · have hp0 : p = 0 := by omega
    have hr0 : r = 0 := by rw [hr, hp0]; simp
    have hz : ((c : Int) == 0) = true := by simp; omega
    have hlt2 : decide ((c : Int) < 128) = true := by simp; omega
    have hg : decide ((0 : Int) < (sh : Int)) = true := by simp; omega
    have hdv : ((r : Int) / 2 ^ sh == (p : Int)) = true := by rw [hr0, hp0]; simp
    clear hp hr hpow hp0 hr0 hc0
    go_enter Try.func66, Try.ntmps66
    go_wp2
    go_quiet (fail)
    go_wp2
    go_region
    all_goals go_wp2
    all_goals go_ret3
    all_goals exact ⟨_, _, rfl, nq + 1, _, _, rfl⟩
theorem reader_new (w : World) :
    Calls Try.prog 54 #[] w fun e w' => e = .returned (.func (.func 66) #[] #[.pointer (some ⟨w.heap.size + 1, 0, none⟩), .pointer (some ⟨w.heap.size, 0, none⟩)]) ∧
      w' = (w.alloc (.cells #[.int .u64 0] 25)).alloc (.cells #[.int .i64 0] 3) := by
  have hmf : ∀ (fn : Fn) (first cap : Array Value) (w : World), (Instr.makeFunc fn first cap).run Try.prog w = .ok (.func fn first cap) w := fun _ _ _ _ => rfl
  go_enter Try.func54, Try.ntmps54
  go_wp2
  go_ret
  exact ⟨rfl, rfl⟩
end Go.Proofs.Ytnnocjnmfabnaaa

namespace Go.Proofs.Ytnnocjnmfabnaaa
open Go.RowKit
set_option linter.unusedVariables false

/-- what the loop of Get keeps: k bytes were read, s is their sum -/
def GRel (w : World) (l : List UInt8) (m : Nat) (i : Value) (wr : World) : Prop :=
  ∃ k s : Nat, k ≤ m ∧ i = .int .i64 (k : Int) ∧ s < 2 ^ (7 * k) ∧ Box wr (w.heap.size + 1) 3 (.int .i64 ((7 * k : Nat) : Int)) ∧ Box wr w.heap.size 25 (.int .u64 (s : Int)) ∧
    Vi.getGo k s (l.drop k) = Vi.get l ∧ Below w.heap.size w wr

theorem boxes_below {w wr : World} {n : Nat} {x y : Value} (hb : Below w.heap.size w wr) : Below w.heap.size w (((wr.setCell ⟨w.heap.size, 0, none⟩ x).setCell ⟨w.heap.size + 1, 0, none⟩ y).drewN n) :=
  below_drewN ((hb.setCell (p := ⟨w.heap.size, 0, none⟩) (Nat.le_refl _) _).setCell (p := ⟨w.heap.size + 1, 0, none⟩) (Nat.le_succ _) _) n

theorem GRel.next {w wr : World} {l : List UInt8} {m k s q n c : Nat} (hk : k < m) (hm : m ≤ 10) (hc : 128 ≤ c) (hc2 : c < 256) (hl : l[k]? = some (UInt8.ofNat c)) (hs : s < 2 ^ (7 * k)) (hq : q = c % 128 * 2 ^ (7 * k)) (hfit : c % 128 * 2 ^ (7 * k) < 18446744073709551616)
    (h1 : Box wr (w.heap.size + 1) 3 (.int .i64 ((7 * k : Nat) : Int))) (h2 : Box wr w.heap.size 25 (.int .u64 (s : Int))) (hget : Vi.getGo k s (l.drop k) = Vi.get l) (hb : Below w.heap.size w wr) :
    GRel w l m (.int .i64 ((k : Int) + 1)) (((wr.setCell ⟨w.heap.size, 0, none⟩ (.int .u64 ((s + q : Nat) : Int))).setCell ⟨w.heap.size + 1, 0, none⟩ (.int .i64 (((7 * k : Nat) : Int) + 7))).drewN n) := by
  refine ⟨k + 1, s + q, hk, by simp, ?_, ?_, ?_, ?_, boxes_below hb⟩
  · rw [Vi.pow7, hq]
    have h4 : c % 128 * 2 ^ (7 * k) ≤ 127 * 2 ^ (7 * k) := Nat.mul_le_mul_right _ (by omega)
    omega
  · have e : (((7 * (k + 1) : Nat)) : Int) = ((7 * k : Nat) : Int) + 7 := by omega
    rw [e]
    exact (h1.far (p := ⟨w.heap.size, 0, none⟩) (by simp) _).set _
  · exact (h2.set _).far (p := ⟨w.heap.size + 1, 0, none⟩) (by simp) _
  · rw [← hget]
    have hlt : k < l.length := by rcases List.getElem?_eq_some_iff.1 hl with ⟨h, _⟩; exact h
    have hd : l.drop k = UInt8.ofNat c :: l.drop (k + 1) := by
      rw [List.drop_eq_getElem_cons hlt]
      rcases List.getElem?_eq_some_iff.1 hl with ⟨_, h⟩
      rw [h]
    rw [hd]
    conv => rhs; unfold Vi.getGo
    rw [Vi.toNat_ofNat c hc2, if_neg (by omega), if_neg (by omega), if_neg (by omega), hq]
theorem GRel.end_ {l : List UInt8} {k s c : Nat} (hk : k < 10) (hc2 : c < 128) (hl : l[k]? = some (UInt8.ofNat c)) (hfit : c * 2 ^ (7 * k) < 18446744073709551616) (hnz : 0 < c ∨ k = 0)
    (hget : Vi.getGo k s (l.drop k) = Vi.get l) : Vi.get l = (s + c * 2 ^ (7 * k), k + 1, 0) := by
  rw [← hget]
  have hlt : k < l.length := by rcases List.getElem?_eq_some_iff.1 hl with ⟨h, _⟩; exact h
  have hd : l.drop k = UInt8.ofNat c :: l.drop (k + 1) := by
    rw [List.drop_eq_getElem_cons hlt]
    rcases List.getElem?_eq_some_iff.1 hl with ⟨_, h⟩
    rw [h]
  rw [hd]
  unfold Vi.getGo
  rw [Vi.toNat_ofNat c (by omega), Nat.mod_eq_of_lt hc2, if_neg (by omega), if_neg (by omega), if_pos hc2]
theorem GRel.bad {l : List UInt8} {k s c : Nat} (hk : k < 10) (hc2 : c < 256) (hl : l[k]? = some (UInt8.ofNat c)) (hbad : 18446744073709551616 ≤ c % 128 * 2 ^ (7 * k) ∨ c = 0 ∧ 0 < 7 * k)
    (hget : Vi.getGo k s (l.drop k) = Vi.get l) : Vi.get l = (0, 0, 4) := by
  rw [← hget]
  have hlt : k < l.length := by rcases List.getElem?_eq_some_iff.1 hl with ⟨h, _⟩; exact h
  have hd : l.drop k = UInt8.ofNat c :: l.drop (k + 1) := by
    rw [List.drop_eq_getElem_cons hlt]
    rcases List.getElem?_eq_some_iff.1 hl with ⟨_, h⟩
    rw [h]
  rw [hd]
  unfold Vi.getGo
  rw [Vi.toNat_ofNat c (by omega), if_neg (by omega), if_pos]
  rcases hbad with h | ⟨h, h2⟩
  · exact .inl h
  · exact .inr ⟨h, by omega⟩
theorem GRel.out {l : List UInt8} {k s : Nat} (hk : k = min l.length 10) (hget : Vi.getGo k s (l.drop k) = Vi.get l) : Vi.get l = (0, 0, if l.length < 10 then 5 else 4) := by
  rw [← hget]
  by_cases h : l.length < 10
  · have e : k = l.length := by omega
    rw [e, List.drop_eq_nil_of_le (Nat.le_refl _)]
    simp [Vi.getGo, h]
  · have e : k = 10 := by omega
    rw [e, if_neg h]
    cases l.drop 10 <;> simp [Vi.getGo]

theorem box_second (w : World) (u v : Value) (t' t : TypeId) : Box ((w.alloc (.cells #[u] t')).alloc (.cells #[v] t)) (w.heap.size + 1) t v := by
  have h := Box.new (w.alloc (.cells #[u] t')) t v
  simpa using h

theorem at_map {l : List UInt8} {k : Nat} {u : Value} (h : (l.map bv)[k]? = some u) : ∃ x, l[k]? = some x ∧ u = bv x := by
  rw [List.getElem?_map] at h
  cases hx : l[k]? with
  | none => rw [hx] at h; cases h
  | some x => rw [hx] at h; injection h with h; exact ⟨x, rfl, h.symm⟩

set_option maxHeartbeats 2000000 in
theorem get_long (A : Option Addr) (n c : Nat) (l : List UInt8) (w : World) (h : Lies w w.heap.size 1 A n (l.map bv)) (hnc : n ≤ c) (hc : c ≤ maxLen) (h10 : 10 < n) :
    Calls Try.prog 45 #[.slice A n c] w fun e w' => e = .returned (.tuple #[.int .u64 ((Vi.get l).1 : Int), .int .i64 ((Vi.get l).2.1 : Int), .int .i64 ((Vi.get l).2.2 : Int)]) ∧ Below w.heap.size w w' := by
  unfold maxLen at hc
  have HN := Lib.hid h; clear h
  go_enter Try.func45, Try.ntmps45
  go_wp2_with (go_at_call 54; refine (reader_new _).mono ?_; rintro e w' ⟨rfl, rfl⟩)
  go_loopw [18] (fun i wr => GRel w l 10 i wr) (fun i _ => 10 - (intOf i).toNat)
  case atStart => exact ⟨0, 0, Nat.zero_le _, rfl, by simp, box_second w _ _ _ _, (Box.new w _ _).alloc _, rfl, ((Below.refl _ _).alloc (Nat.le_refl _) _).alloc (by simp) _⟩
  case round =>
    obtain ⟨k, s, hk, rfl, hs, hb1, hb2, hget, hb⟩ := hrel
    have HS := Lib.hid hs; clear hs
    have HG := Lib.hid hget; clear hget
    by_cases hlt : k < 10
    · obtain ⟨b, o, u, rfl, hbB, hu, hcell0⟩ := HN.out.at_ (j := k) (by omega)
      obtain ⟨x, hx, hxu⟩ := at_map hu
      subst hxu
      have HX := Lib.hid hx; clear hx hu
      have hcell : wr.cell? ⟨b, o + k, none⟩ = some (.int .u8 ((x.toNat : Nat) : Int)) := (hb.cell hbB).trans hcell0
      have hx2 := x.toNat_lt
      clear hcell0
      obtain ⟨y, hy⟩ : ∃ y, y = x.toNat := ⟨_, rfl⟩
      have HY := Lib.hid (show l[k]? = some (UInt8.ofNat y) from by rw [HX.out, hy, UInt8.ofNat_toNat])
      rw [← hy] at hcell hx2
      clear hy HX
      have hy2 : y < 256 := hx2
      clear hx2
      by_cases hbad : 18446744073709551616 ≤ y % 128 * 2 ^ (7 * k) ∨ y = 0 ∧ 0 < 7 * k
      · have HB := Lib.hid hbad; clear hbad
        go_wp2_with fail
        refine (reader_bad _ _ y (7 * k) s _ hy2 (by omega) HB.out hb1 hb2).mono ?_
        rintro e w1 ⟨z, bb, rfl, nn, x1, y1, rfl⟩
        have HR := Lib.hid (GRel.bad (by omega) hy2 HY.out HB.out HG.out)
        have HBB := Lib.hid (boxes_below (n := nn) (x := x1) (y := y1) hb)
        clear hb1 hb2 hcell
        go_wp2
        go_ret3
        exact ⟨by rw [HR.out]; rfl, HBB.out⟩
      · have hfit : y % 128 * 2 ^ (7 * k) < 18446744073709551616 := by omega
        by_cases hend : y < 128
        · have hmod : y % 128 = y := Nat.mod_eq_of_lt hend
          rw [hmod] at hfit
          have hsum := Vi.sum_lt k s y (by omega) HS.out hfit
          have hnz : 0 < y ∨ k = 0 := by omega
          have HR := Lib.hid (GRel.end_ (by omega) hend HY.out hfit hnz HG.out)
          have HF := Lib.hid hfit; have HSUM := Lib.hid hsum; clear hfit hsum hmod hbad
          go_wp2_with fail
          refine (reader_end _ _ y (7 * k) s _ _ hend (by omega) HS.out rfl HSUM.out (by omega) hb1 hb2).mono ?_
          rintro e w1 ⟨rfl, nn, x1, y1, rfl⟩
          have HBB := Lib.hid (boxes_below (n := nn) (x := x1) (y := y1) hb)
          clear hb1 hb2 hcell
          generalize s + y * 2 ^ (7 * k) = r at HR ⊢
          go_wp2
          go_ret3
          exact ⟨by rw [HR.out]; rfl, HBB.out⟩
        · have hsum := Vi.sum_lt k s (y % 128) (by omega) HS.out hfit
          have HR := Lib.hid (fun nn => GRel.next (n := nn) (q := y % 128 * 2 ^ (7 * k)) hlt (by omega) (by omega) hy2 HY.out HS.out rfl hfit hb1 hb2 HG.out hb)
          have HF := Lib.hid hfit; have HSUM := Lib.hid hsum; clear hfit hsum hbad
          go_wp2_with fail
          refine (reader_more _ _ y _ (7 * k) s _ _ rfl (by omega) hy2 (by omega) HS.out rfl HSUM.out hb1 hb2).mono ?_
          rintro e w1 ⟨rfl, nn, rfl⟩
          have HRR := Lib.hid (HR.out nn)
          clear hb1 hb2 hcell HR HSUM HF
          generalize s + y % 128 * 2 ^ (7 * k) = r at HRR ⊢
          go_wp2
          go_roundw
          case rel => exact HRR.out
          case measure => simp [intOf]; omega
    · have hkm : k = min l.length 10 := by
        have := HN.out.len
        simp at this
        omega
      have HR := Lib.hid (GRel.out hkm HG.out)
      have hll : l.length = n := by simpa using HN.out.len
      rw [hll] at HR
      clear hkm hll hb1 hb2
      go_wp2
      go_ret3
      exact ⟨by rw [HR.out]; rw [if_neg (by omega)]; rfl, hb⟩

set_option maxHeartbeats 2000000 in
theorem get_small (A : Option Addr) (n c : Nat) (l : List UInt8) (w : World) (h : Lies w w.heap.size 1 A n (l.map bv)) (hnc : n ≤ c) (hc : c ≤ maxLen) (h10 : n ≤ 10) :
    Calls Try.prog 45 #[.slice A n c] w fun e w' => e = .returned (.tuple #[.int .u64 ((Vi.get l).1 : Int), .int .i64 ((Vi.get l).2.1 : Int), .int .i64 ((Vi.get l).2.2 : Int)]) ∧ Below w.heap.size w w' := by
  unfold maxLen at hc
  have HN := Lib.hid h; clear h
  go_enter Try.func45, Try.ntmps45
  go_wp2_with (go_at_call 54; refine (reader_new _).mono ?_; rintro e w' ⟨rfl, rfl⟩)
  go_loopw [18] (fun i wr => GRel w l n i wr) (fun i _ => n - (intOf i).toNat)
  case atStart => exact ⟨0, 0, Nat.zero_le _, rfl, by simp, box_second w _ _ _ _, (Box.new w _ _).alloc _, rfl, ((Below.refl _ _).alloc (Nat.le_refl _) _).alloc (by simp) _⟩
  case round =>
    obtain ⟨k, s, hk, rfl, hs, hb1, hb2, hget, hb⟩ := hrel
    have HS := Lib.hid hs; clear hs
    have HG := Lib.hid hget; clear hget
    by_cases hlt : k < n
    · obtain ⟨b, o, u, rfl, hbB, hu, hcell0⟩ := HN.out.at_ (j := k) (by omega)
      obtain ⟨x, hx, hxu⟩ := at_map hu
      subst hxu
      have HX := Lib.hid hx; clear hx hu
      have hcell : wr.cell? ⟨b, o + k, none⟩ = some (.int .u8 ((x.toNat : Nat) : Int)) := (hb.cell hbB).trans hcell0
      have hx2 := x.toNat_lt
      clear hcell0
      obtain ⟨y, hy⟩ : ∃ y, y = x.toNat := ⟨_, rfl⟩
      have HY := Lib.hid (show l[k]? = some (UInt8.ofNat y) from by rw [HX.out, hy, UInt8.ofNat_toNat])
      rw [← hy] at hcell hx2
      clear hy HX
      have hy2 : y < 256 := hx2
      clear hx2
      by_cases hbad : 18446744073709551616 ≤ y % 128 * 2 ^ (7 * k) ∨ y = 0 ∧ 0 < 7 * k
      · have HB := Lib.hid hbad; clear hbad
        go_wp2_with fail
        refine (reader_bad _ _ y (7 * k) s _ hy2 (by omega) HB.out hb1 hb2).mono ?_
        rintro e w1 ⟨z, bb, rfl, nn, x1, y1, rfl⟩
        have HR := Lib.hid (GRel.bad (by omega) hy2 HY.out HB.out HG.out)
        have HBB := Lib.hid (boxes_below (n := nn) (x := x1) (y := y1) hb)
        clear hb1 hb2 hcell
        go_wp2
        go_ret3
        exact ⟨by rw [HR.out]; rfl, HBB.out⟩
      · have hfit : y % 128 * 2 ^ (7 * k) < 18446744073709551616 := by omega
        by_cases hend : y < 128
        · have hmod : y % 128 = y := Nat.mod_eq_of_lt hend
          rw [hmod] at hfit
          have hsum := Vi.sum_lt k s y (by omega) HS.out hfit
          have hnz : 0 < y ∨ k = 0 := by omega
          have HR := Lib.hid (GRel.end_ (by omega) hend HY.out hfit hnz HG.out)
          have HF := Lib.hid hfit; have HSUM := Lib.hid hsum; clear hfit hsum hmod hbad
          go_wp2_with fail
          refine (reader_end _ _ y (7 * k) s _ _ hend (by omega) HS.out rfl HSUM.out (by omega) hb1 hb2).mono ?_
          rintro e w1 ⟨rfl, nn, x1, y1, rfl⟩
          have HBB := Lib.hid (boxes_below (n := nn) (x := x1) (y := y1) hb)
          clear hb1 hb2 hcell
          generalize s + y * 2 ^ (7 * k) = r at HR ⊢
          go_wp2
          go_ret3
          exact ⟨by rw [HR.out]; rfl, HBB.out⟩
        · have hsum := Vi.sum_lt k s (y % 128) (by omega) HS.out hfit
          have HR := Lib.hid (fun nn => GRel.next (n := nn) (q := y % 128 * 2 ^ (7 * k)) hlt (by omega) (by omega) hy2 HY.out HS.out rfl hfit hb1 hb2 HG.out hb)
          have HF := Lib.hid hfit; have HSUM := Lib.hid hsum; clear hfit hsum hbad
          go_wp2_with fail
          refine (reader_more _ _ y _ (7 * k) s _ _ rfl (by omega) hy2 (by omega) HS.out rfl HSUM.out hb1 hb2).mono ?_
          rintro e w1 ⟨rfl, nn, rfl⟩
          have HRR := Lib.hid (HR.out nn)
          clear hb1 hb2 hcell HR HSUM HF
          generalize s + y % 128 * 2 ^ (7 * k) = r at HRR ⊢
          go_wp2
          go_roundw
          case rel => exact HRR.out
          case measure => simp [intOf]; omega
    · have hkm : k = min l.length 10 := by
        have := HN.out.len
        simp at this
        omega
      have HR := Lib.hid (GRel.out hkm HG.out)
      have hll : l.length = n := by simpa using HN.out.len
      rw [hll] at HR
      clear hkm hll hb1 hb2
      by_cases hn9 : n < 10
      · go_wp2
        go_ret3
        exact ⟨by rw [HR.out, if_pos hn9]; rfl, hb⟩
      · go_wp2
        go_ret3
        exact ⟨by rw [HR.out, if_neg hn9]; rfl, hb⟩

theorem get_any (A : Option Addr) (n c : Nat) (l : List UInt8) (w : World) (h : Lies w w.heap.size 1 A n (l.map bv)) (hnc : n ≤ c) (hc : c ≤ maxLen) :
    Calls Try.prog 45 #[.slice A n c] w fun e w' => e = .returned (.tuple #[.int .u64 ((Vi.get l).1 : Int), .int .i64 ((Vi.get l).2.1 : Int), .int .i64 ((Vi.get l).2.2 : Int)]) ∧ Below w.heap.size w w' := by
  by_cases h10 : n ≤ 10
  · exact get_small A n c l w h hnc hc h10
  · exact get_long A n c l w h hnc hc (by omega)
end Go.Proofs.Ytnnocjnmfabnaaa

namespace Go.Proofs.Ytnnocjnmfabnaaa
open Go.RowKit
set_option linter.unusedVariables false
set_option maxRecDepth 100000

/-- what GetText answers -/
def getText (l : List UInt8) : List UInt8 × Nat × Nat :=
  if (Vi.get l).2.2 ≠ 0 then ([], 0, (Vi.get l).2.2)
  else if l.length - (Vi.get l).2.1 < (Vi.get l).1 then ([], 0, 5)
  else ((l.drop (Vi.get l).2.1).take (Vi.get l).1, (Vi.get l).2.1 + (Vi.get l).1, 0)

set_option maxHeartbeats 1000000 in
theorem getText_bad (A : Option Addr) (n c : Nat) (l : List UInt8) (w : World) (h : Lies w w.heap.size 1 A n (l.map bv)) (hnc : n ≤ c) (hc : c ≤ maxLen) (k t e : Nat) (hg : Vi.get l = (k, t, e)) (he : e ≠ 0) :
    Calls Try.prog 53 #[.slice A n c] w fun e' w' => e' = .returned (.tuple #[.string ⟨#[]⟩, .int .i64 0, .int .i64 (e : Int)]) ∧ Below w.heap.size w w' := by
  have HC := get_any A n c l w h hnc hc
  rw [hg] at HC
  have H := Lib.hid HC
  clear HC h hg
  have hne : ((e : Int) != 0) = true := by simp; omega
  go_enter Try.func53, Try.ntmps53
  go_wp2_with fail
  refine H.out.mono ?_
  rintro e1 w1 ⟨rfl, hb⟩
  go_wp2
  go_ret3
  exact ⟨rfl, hb⟩
set_option maxHeartbeats 1000000 in
theorem getText_short (A : Option Addr) (n c : Nat) (l : List UInt8) (w : World) (h : Lies w w.heap.size 1 A n (l.map bv)) (hnc : n ≤ c) (hc : c ≤ maxLen) (k t : Nat) (hg : Vi.get l = (k, t, 0)) (hs : n - t < k) :
    Calls Try.prog 53 #[.slice A n c] w fun e' w' => e' = .returned (.tuple #[.string ⟨#[]⟩, .int .i64 0, .int .i64 5]) ∧ Below w.heap.size w w' := by
  have HC := get_any A n c l w h hnc hc
  rw [hg] at HC
  have H := Lib.hid HC
  have hback := Vi.get_back l k t hg
  have hln : l.length = n := by simpa using h.len
  have ht : t ≤ n := by omega
  have hk : k < 18446744073709551616 := hback.1
  unfold maxLen at hc
  clear HC h hg hback hln
  go_enter Try.func53, Try.ntmps53
  go_wp2_with fail
  refine H.out.mono ?_
  rintro e1 w1 ⟨rfl, hb⟩
  go_wp2
  all_goals go_ret3
  all_goals exact ⟨rfl, hb⟩
set_option maxHeartbeats 1000000 in
theorem getText_ok (A : Option Addr) (n c : Nat) (l : List UInt8) (w : World) (h : Lies w w.heap.size 1 A n (l.map bv)) (hnc : n ≤ c) (hc : c ≤ maxLen) (k t : Nat) (hg : Vi.get l = (k, t, 0)) (hs : k ≤ n - t) :
    Calls Try.prog 53 #[.slice A n c] w fun e' w' => e' = .returned (.tuple #[.string ⟨((l.drop t).take k).toArray⟩, .int .i64 ((t + k : Nat) : Int), .int .i64 0]) ∧ Below w.heap.size w w' := by
  have HC := get_any A n c l w h hnc hc
  rw [hg] at HC
  have H := Lib.hid HC
  have hback := Vi.get_back l k t hg
  have hln : l.length = n := by simpa using h.len
  have ht : t ≤ n := by omega
  have hk : k < 18446744073709551616 := hback.1
  obtain ⟨b, o, u, rfl, hbB, _, _⟩ := h.at_ (j := 0) (by omega)
  have hd : Lies w w.heap.size 1 (some ⟨b, o + t, none⟩) k (((l.drop t).take k).map bv) := by
    have := (h.drop_ ht).take_ hs
    simp only [Option.map_some, add_lit] at this
    rw [List.map_take, List.map_drop]
    exact this
  unfold maxLen at hc
  clear HC hg hback hln h
  go_enter Try.func53, Try.ntmps53
  go_wp2_with fail
  refine H.out.mono ?_
  rintro e1 w1 ⟨rfl, hb⟩
  have hd2 := hd.below hb
  clear hd
  obtain ⟨r, hr0⟩ : ∃ r, (l.drop t).take k = r := ⟨_, rfl⟩
  rw [hr0] at hd2
  have HR := Lib.hid hr0
  clear hr0
  by_cases hct : c = t
  · have hk0 : k = 0 := by omega
    subst hk0
    have hr : r = [] := by have := hd2.len; simpa using this
    subst hr
    have hstr := run_str (P := Try.prog) w1 39 9 5 Try.underlying39 Try.underlying5 Try.underlying9 (l := []) 0 (Lies.none_ w1 w.heap.size 1 (some ⟨b, o, none⟩))
    clear hd2 H
    go_wp2
    go_ret3
    exact ⟨by rw [HR.out]; rfl, hb⟩
  · have hstr := run_str (P := Try.prog) w1 39 9 5 Try.underlying39 Try.underlying5 Try.underlying9 (c - t) hd2
    clear hd2 H
    go_wp2
    go_ret3
    exact ⟨by rw [HR.out]; rfl, hb⟩
theorem getText_any (A : Option Addr) (n c : Nat) (l : List UInt8) (w : World) (h : Lies w w.heap.size 1 A n (l.map bv)) (hnc : n ≤ c) (hc : c ≤ maxLen) :
    Calls Try.prog 53 #[.slice A n c] w fun e' w' => e' = .returned (.tuple #[.string ⟨(getText l).1.toArray⟩, .int .i64 ((getText l).2.1 : Int), .int .i64 ((getText l).2.2 : Int)]) ∧ Below w.heap.size w w' := by
  have hln : l.length = n := by simpa using h.len
  rcases hg : Vi.get l with ⟨k, t, e⟩
  by_cases he : e = 0
  · subst he
    by_cases hs : n - t < k
    · have e1 : getText l = ([], 0, 5) := by unfold getText; rw [hg, hln, if_neg (by simp), if_pos hs]
      rw [e1]
      exact getText_short A n c l w h hnc hc k t hg hs
    · have e1 : getText l = ((l.drop t).take k, t + k, 0) := by unfold getText; rw [hg, hln, if_neg (by simp), if_neg hs]
      rw [e1]
      exact getText_ok A n c l w h hnc hc k t hg (by omega)
  · have e1 : getText l = ([], 0, e) := by unfold getText; rw [hg, if_pos he]
    rw [e1]
    exact getText_bad A n c l w h hnc hc k t e hg he

end Go.Proofs.Ytnnocjnmfabnaaa

