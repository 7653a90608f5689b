/-
  Package sorted: cmpMark; slices.BinarySearchFunc of entries.
  Package sorted: From, Get.
-/
import Derived.Test.YtghfhojpnbpjoaaSrAC
import Derived.Test.YtghfhojpnbpjoaaCutE
import Derived.Test.YtghfhojpnbpjoaaPlTx
import Derived.Deep.RegionHeld3
import Derived.LoopTactic
import Derived.Test.YtghfhojpnbpjoaaSrHK
namespace Go.Proofs.Ytghfhojpnbpjoaa
open Go.RowKit
set_option linter.unusedVariables false
set_option maxRecDepth 100000

set_option maxHeartbeats 1000000 in
theorem cmpMark_any (x : En) (m : Mk) (w : World) :
    Calls Try.prog 39 #[x.v, m.v] w fun e w' => e = .returned (.int .i64 (cmpM x.m m)) ∧ Below w.heap.size w w' := by
  obtain ⟨a0, a1, a2, a3, hA, hzA⟩ := enW_facts w x
  obtain ⟨W1, hW1⟩ : ∃ W1, enW w x = W1 := ⟨_, rfl⟩
  rw [hW1] at a0 a1 a2 a3 hA hzA
  obtain ⟨b0, b1, b2, hB, hzB⟩ := mkW_facts W1 m
  obtain ⟨W2, hW2⟩ : ∃ W2, mkW W1 m = W2 := ⟨_, rfl⟩
  rw [hW2] at b0 b1 b2 hB hzB
  have hlt : w.heap.size < W1.heap.size := by omega
  have e0 : W2.cell? ⟨w.heap.size, 0, none⟩ = _ := (hB.cell (p := ⟨w.heap.size, 0, none⟩) hlt).trans a0
  have e1 : W2.cell? ⟨w.heap.size, 1, none⟩ = _ := (hB.cell (p := ⟨w.heap.size, 1, none⟩) hlt).trans a1
  have e2 : W2.cell? ⟨w.heap.size, 2, none⟩ = _ := (hB.cell (p := ⟨w.heap.size, 2, none⟩) hlt).trans a2
  have h1 : w.alloc (.cells #[.string x.m.k, .int .u64 (x.m.s : Int), .bool x.m.g, .string x.x] 40) = W1 := hW1
  have h2 : W1.alloc (.cells #[.string m.k, .int .u64 (m.s : Int), .bool m.g] 38) = W2 := hW2
  have HC := Lib.hid (fun W => cmp_any x.m m W)
  have HB := Lib.hid (hA.trans (hB.mono (by omega)))
  unfold Mk.v at HC ⊢
  unfold En.v
  clear hW1 hW2 hA hB a0 a1 a2 a3 hzA hzB
  go_enter Try.func39, Try.ntmps39
  go_wp2_with fail
  refine (HC.out _).mono ?_
  rintro e w' ⟨rfl, hb⟩
  have HF := Lib.hid (HB.out.trans (hb.mono HB.out.size))
  clear hb
  go_wp2
  go_ret
  exact ⟨rfl, HF.out⟩

/-- where the search stands -/
def BsR (w : World) (n st g : Nat) (m : Mk) (i j : Value) (wr : World) : Prop :=
  ∃ a d : Nat, i = .int .i64 (a : Int) ∧ j = .int .i64 (d : Int) ∧ a ≤ st ∧ st ≤ d ∧ d ≤ n ∧ Below w.heap.size w wr ∧ MkAt wr g m

set_option maxHeartbeats 4000000 in
theorem bsearch_any (B n c : Nat) (A : Option Addr) (S : List En) (m : Mk) (w : World) (hL : EL w B A n c S) (hr : Rise S) (hn : n ≤ 1000000) :
    Calls Try.prog 38 #[.slice A n c, m.v, .func (.func 39) #[] #[]] w fun e w' => (∃ d, e = .returned (.tuple #[.int .i64 ((S.length - (fromM S m).length : Nat) : Int), .bool d])) ∧ Below w.heap.size w w' := by
  have hln := hL.lies.elen
  have hnc := hL.nc
  obtain ⟨st, hst⟩ : ∃ st, S.length - (fromM S m).length = st := ⟨_, rfl⟩
  have hstn : st ≤ n := by omega
  have HAh : Hid (∀ i e, S[i]? = some e → (cmpM e.m m < 0 ↔ i < st)) := fun i e hi => by rw [← hst]; exact fromM_ahead hr m hi
  obtain ⟨b0, b1, b2, hB, hz⟩ := mkW_facts w m
  have hM : MkAt (mkW w m) w.heap.size m := heap_alloc_new w _
  obtain ⟨W, hW⟩ : ∃ W, mkW w m = W := ⟨_, rfl⟩
  have HW : Hid (w.alloc (.cells #[.string m.k, .int .u64 (m.s : Int), .bool m.g] 38) = W) := hW
  rw [hW] at b0 b1 b2 hB hz hM
  have HL := Lib.hid hL; have HB := Lib.hid hB; have HM := Lib.hid hM; have HLn := Lib.hid hln
  have HC := Lib.hid (fun x W => cmpMark_any x m W)
  rw [hst]
  unfold Mk.v at HC ⊢
  clear hL hr hst hln hW hB hM b0 b1 b2
  go_enter Try.func38, Try.ntmps38
  go_wp2_with fail
  rw [HW.out]
  clear HW hz
  go_loopw [9, 10] (fun i j wr => BsR w n st w.heap.size m i j wr) (fun i j _ => (intOf j).toNat - (intOf i).toNat)
  case atStart => exact ⟨0, n, rfl, rfl, Nat.zero_le _, hstn, Nat.le_refl _, HB.out, HM.out⟩
  case round =>
    clear HB HM
    obtain ⟨a, d, rfl, rfl, has, hsd, hdn, hb, hm⟩ := hrel
    by_cases hlt : a < d
    · obtain ⟨h, hh⟩ : ∃ h, (a + d) / 2 = h := ⟨_, rfl⟩
      have hh1 : a ≤ h := by omega
      have hh2 : h < d := by omega
      have hhi : ((a : Int) + (d : Int)) / 2 = (h : Int) := by omega
      have hEL : EL wr B A n c S := HL.out.below hb
      obtain ⟨eb, eo, x, rfl, heb, hx, c0, c1, c2, c3⟩ := hEL.lies.entry (i := h) (by omega)
      have hm2 := hm
      obtain ⟨m0, m1, m2⟩ : wr.cell? ⟨w.heap.size, 0, none⟩ = some (.string m.k) ∧ wr.cell? ⟨w.heap.size, 1, none⟩ = some (.int .u64 (m.s : Int)) ∧ wr.cell? ⟨w.heap.size, 2, none⟩ = some (.bool m.g) := ⟨cell_of_row _ _ 0 _ _ (0, 0) hm2, cell_of_row _ _ 1 _ _ (0, 0) hm2, cell_of_row _ _ 2 _ _ (0, 0) hm2⟩
      have hi0 : (0 : Int) ≤ (h : Int) := by omega
      have hi1 : (h : Int) < (n : Int) := by omega
      have hit : ((h : Int)).toNat = h := by simp
      have HAx := Lib.hid (HAh.out h x hx)
      have HCx := Lib.hid (HC.out x)
      unfold En.v at HCx
      have HS : Hid (∀ W', Below wr.heap.size wr W' → W'.cell? ⟨eb, eo + h * 4, none⟩ = some (.string x.m.k) ∧ W'.cell? ⟨eb, eo + h * 4 + 1, none⟩ = some (.int .u64 (x.m.s : Int)) ∧ W'.cell? ⟨eb, eo + h * 4 + 2, none⟩ = some (.bool x.m.g) ∧ W'.cell? ⟨eb, eo + h * 4 + 3, none⟩ = some (.string x.x) ∧ W'.cell? ⟨w.heap.size, 0, none⟩ = some (.string m.k) ∧ W'.cell? ⟨w.heap.size, 1, none⟩ = some (.int .u64 (m.s : Int)) ∧ W'.cell? ⟨w.heap.size, 2, none⟩ = some (.bool m.g)) := fun W' hb' => by
        have up : ∀ {p v}, wr.cell? p = some v → W'.cell? p = some v := fun {p v} h => (hb'.cell (World.block_lt_of_cell? wr _ h)).trans h
        exact ⟨up c0, up c1, up c2, up c3, up m0, up m1, up m2⟩
      have HBd : Hid (Below wr.heap.size wr wr.drew) := below_drew (Below.refl _ _)
      have HBw := Lib.hid hb; have HMw := Lib.hid hm
      obtain ⟨z, hz⟩ : ∃ z, cmpM x.m m = z := ⟨_, rfl⟩
      rw [hz] at HCx HAx
      clear hEL hb hm hm2 c0 c1 c2 c3 m0 m1 m2 hx hz HC
      go_upto_region 5 with fail
      go_region_held3 (fun W' => W'.cell? ⟨eb, eo + h * 4, none⟩ = some (.string x.m.k) ∧ W'.cell? ⟨eb, eo + h * 4 + 1, none⟩ = some (.int .u64 (x.m.s : Int)) ∧ W'.cell? ⟨eb, eo + h * 4 + 2, none⟩ = some (.bool x.m.g) ∧ W'.cell? ⟨eb, eo + h * 4 + 3, none⟩ = some (.string x.x) ∧ W'.cell? ⟨w.heap.size, 0, none⟩ = some (.string m.k) ∧ W'.cell? ⟨w.heap.size, 1, none⟩ = some (.int .u64 (m.s : Int)) ∧ W'.cell? ⟨w.heap.size, 2, none⟩ = some (.bool m.g))
        (first | exact HS.out _ HBd.out | exact HS.out _ hbz | fail)
        (first
        | (go_at_call 39; refine (HCx.out _).mono ?_; rintro e w2 ⟨rfl, hb2⟩; have hbz := HBd.out.trans (hb2.mono HBd.out.size))
        | fail)
      have hbw2 := HBw.out.trans (hbz.mono HBw.out.size)
      have hm2 : MkAt w2 w.heap.size m := (hbz.block _ (Array.getElem?_eq_some_iff.1 HMw.out).1).trans HMw.out
      by_cases hz0 : z < 0
      · have HFin : Hid (BsR w n st w.heap.size m (.int .i64 ((h : Int) + 1)) (.int .i64 (d : Int)) w2) := ⟨h + 1, d, rfl, rfl, HAx.out.1 hz0, hsd, hdn, hbw2, hm2⟩
        clear hbw2 hm2 hb2 hbz
        go_wp2
        go_roundw
        case rel => exact HFin.out
        case measure => simp [intOf]; omega
      · have HFin : Hid (BsR w n st w.heap.size m (.int .i64 (a : Int)) (.int .i64 (h : Int)) w2) := ⟨a, h, rfl, rfl, has, Nat.le_of_not_lt (fun q => hz0 (HAx.out.2 q)), by omega, hbw2, hm2⟩
        clear hbw2 hm2 hb2 hbz
        go_wp2
        go_roundw
        case rel => exact HFin.out
        case measure => simp [intOf]; omega
    · have hast : a = st := by omega
      have hni : ¬ ((a : Int) < (d : Int)) := by omega
      subst hast
      have HBw := Lib.hid hb
      by_cases hstl : a < n
      · have hEL : EL wr B A n c S := HL.out.below hb
        obtain ⟨eb, eo, x, rfl, heb, hx, c0, c1, c2, c3⟩ := hEL.lies.entry (i := a) hstl
        obtain ⟨m0, m1, m2⟩ : wr.cell? ⟨w.heap.size, 0, none⟩ = some (.string m.k) ∧ wr.cell? ⟨w.heap.size, 1, none⟩ = some (.int .u64 (m.s : Int)) ∧ wr.cell? ⟨w.heap.size, 2, none⟩ = some (.bool m.g) := ⟨cell_of_row _ _ 0 _ _ (0, 0) hm, cell_of_row _ _ 1 _ _ (0, 0) hm, cell_of_row _ _ 2 _ _ (0, 0) hm⟩
        have hi0 : (0 : Int) ≤ (a : Int) := by omega
        have hi1 : (a : Int) < (n : Int) := by omega
        have hit : ((a : Int)).toNat = a := by simp
        have hd1 : decide ((a : Int) < (n : Int)) = true := by simp; omega
        have HCx := Lib.hid (HC.out x)
        unfold En.v at HCx
        have HS : Hid (∀ W', Below wr.heap.size wr W' → W'.cell? ⟨eb, eo + a * 4, none⟩ = some (.string x.m.k) ∧ W'.cell? ⟨eb, eo + a * 4 + 1, none⟩ = some (.int .u64 (x.m.s : Int)) ∧ W'.cell? ⟨eb, eo + a * 4 + 2, none⟩ = some (.bool x.m.g) ∧ W'.cell? ⟨eb, eo + a * 4 + 3, none⟩ = some (.string x.x) ∧ W'.cell? ⟨w.heap.size, 0, none⟩ = some (.string m.k) ∧ W'.cell? ⟨w.heap.size, 1, none⟩ = some (.int .u64 (m.s : Int)) ∧ W'.cell? ⟨w.heap.size, 2, none⟩ = some (.bool m.g)) := fun W' hb' => by
          have up : ∀ {p v}, wr.cell? p = some v → W'.cell? p = some v := fun {p v} h => (hb'.cell (World.block_lt_of_cell? wr _ h)).trans h
          exact ⟨up c0, up c1, up c2, up c3, up m0, up m1, up m2⟩
        have HBd : Hid (Below wr.heap.size wr wr.drew) := below_drew (Below.refl _ _)
        obtain ⟨z, hz⟩ : ∃ z, cmpM x.m m = z := ⟨_, rfl⟩
        rw [hz] at HCx
        clear hEL hb hm c0 c1 c2 c3 m0 m1 m2 hx hz HC
        go_wp2_with fail
        go_region_held3 (fun W' => W'.cell? ⟨eb, eo + a * 4, none⟩ = some (.string x.m.k) ∧ W'.cell? ⟨eb, eo + a * 4 + 1, none⟩ = some (.int .u64 (x.m.s : Int)) ∧ W'.cell? ⟨eb, eo + a * 4 + 2, none⟩ = some (.bool x.m.g) ∧ W'.cell? ⟨eb, eo + a * 4 + 3, none⟩ = some (.string x.x) ∧ W'.cell? ⟨w.heap.size, 0, none⟩ = some (.string m.k) ∧ W'.cell? ⟨w.heap.size, 1, none⟩ = some (.int .u64 (m.s : Int)) ∧ W'.cell? ⟨w.heap.size, 2, none⟩ = some (.bool m.g))
          (first | exact HS.out _ HBd.out | exact HS.out _ hbz | fail)
          (first
          | (go_at_call 39; refine (HCx.out _).mono ?_; rintro e w2 ⟨rfl, hb2⟩; have hbz := HBd.out.trans (hb2.mono HBd.out.size))
          | fail)
        have HF := Lib.hid (HBw.out.trans (hbz.mono HBw.out.size))
        clear hb2 hbz
        go_wp2
        go_ret2
        exact ⟨⟨_, rfl⟩, HF.out⟩
      · have hnn : decide ((a : Int) < (n : Int)) = false := by simp; omega
        have hnn2 : ¬ ((a : Int) < (n : Int)) := by omega
        clear hb hm
        go_wp2_with fail
        go_quiet (fail)
        go_wp2
        go_ret2
        exact ⟨⟨_, rfl⟩, below_drewN HBw.out _⟩
end Go.Proofs.Ytghfhojpnbpjoaa

namespace Go.Proofs.Ytghfhojpnbpjoaa
open Go.RowKit
set_option linter.unusedVariables false
set_option maxRecDepth 100000

/-- how many of the last entries are told -/
def cntM (r : Nat) (k : Int) : Nat := (max (min k (r : Int)) 0).toNat
theorem cntM_le (r : Nat) (k : Int) : cntM r k ≤ r := by unfold cntM; omega
theorem run_minI (a b : Int) (w : World) : (Builtin.min_ #[3, 3] 3 #[.int .i64 a, .int .i64 b]).run Try.prog w = .ok (.int .i64 (min a b)) w := by
  simp only [Builtin.min_, List.foldlM_cons, List.foldlM_nil, Builtin.min2, Sem.run_bind, Sem.run_pure, Result.andThen_ok]
  by_cases h : b < a
  · rw [if_pos h, Int.min_eq_right (by omega)]
  · rw [if_neg h, Int.min_eq_left (by omega)]
theorem run_maxI (a b : Int) (w : World) : (Builtin.max_ #[3, 3] 3 #[.int .i64 a, .int .i64 b]).run Try.prog w = .ok (.int .i64 (max a b)) w := by
  simp only [Builtin.max_, List.foldlM_cons, List.foldlM_nil, Builtin.max2, Sem.run_bind, Sem.run_pure, Result.andThen_ok]
  by_cases h : a < b
  · rw [if_pos h, Int.max_eq_right (by omega)]
  · rw [if_neg h, Int.max_eq_left (by omega)]
/-- what From answers -/
def SFrom (w : World) (o : Option (List En)) (m : Mk) (k : Int) (e : Ending) (w' : World) : Prop :=
  Below w.heap.size w w' ∧ (∀ S, o = some S → ∃ (A : Option Addr) (c st N : Nat), N = cntM (fromM S m).length k ∧ st = S.length - (fromM S m).length ∧ st + N ≤ S.length ∧ e = .returned (.tuple #[.slice (cutE A (st + N) st) N N, .int .i64 0]) ∧
      w'.ownsRow w.heap.size 40 4 (.slice A S.length c) S.length (ecs S) ∧ (∀ x ∈ S, szE x) ∧ okF S = true) ∧
    (o = none → e = .returned (.tuple #[.slice none 0 0, .int .i64 4]))
set_option maxHeartbeats 2000000 in
theorem sfrom_any (A : Option Addr) (n c : Nat) (b : List UInt8) (o : Option (List En)) (m : Mk) (k : Int) (hk : -9223372036854775808 ≤ k ∧ k ≤ 9223372036854775807) (w : World) (hF : IsF b o) (h : Lies w w.heap.size 1 A n (b.map bv)) (hnc : n ≤ c) (hc : c ≤ 9223372036854775807) (hn : n ≤ 1099511627776) :
    Calls Try.prog 18 #[.slice A n c, m.v, .int .i64 k] w (SFrom w o m k) := by
  obtain ⟨b0, b1, b2, hB, hz⟩ := mkW_facts w m
  have hM : MkAt (mkW w m) w.heap.size m := heap_alloc_new w _
  obtain ⟨W, hW⟩ : ∃ W, mkW w m = W := ⟨_, rfl⟩
  have hW2 : w.alloc (.cells #[.string m.k, .int .u64 (m.s : Int), .bool m.g] 38) = W := hW
  rw [hW] at hB hz hM
  have HA := Lib.hid (sall_any A n c b o W hF ((h.below hB).more hB.size) hnc hc hn)
  have HB := Lib.hid hB; have HM := Lib.hid hM; have HI := Lib.hid hF
  have hwl : w.heap.size < W.heap.size := by omega
  clear hF h hB hW hM b0 b1 b2 hz
  unfold Mk.v
  cases o with
  | none =>
    have HF : Hid (∀ w', Below w.heap.size w w' → SFrom w none m k (.returned (.tuple #[.slice none 0 0, .int .i64 4])) w') := fun w' hb => ⟨hb, (fun S e => by cases e), fun _ => rfl⟩
    go_enter Try.func18, Try.ntmps18
    go_wp2_with fail
    refine HA.out.mono ?_
    rintro e w1 ⟨hb1, _, hno⟩
    obtain rfl := hno rfl
    have HF1 := Lib.hid (HF.out w1 (HB.out.trans (hb1.mono HB.out.size)))
    clear hb1 hno HF HA
    go_wp2
    go_ret2
    exact HF1.out
  | some S =>
    obtain ⟨hok, hq, _⟩ := HI.out
    obtain ⟨ha, hn4⟩ := (okF_iff S).1 hok
    have hri := ((okA_iff S).1 ha).2.2
    go_enter Try.func18, Try.ntmps18
    go_wp2_with fail
    refine HA.out.mono ?_
    rintro e w1 ⟨hb1, hy, _⟩
    obtain ⟨A1, c1, rfl, ho1, hsz⟩ := hy S rfl
    obtain ⟨_, _, hv, h1c, h1m, _⟩ := own_shape ho1
    injection hv with e1 _ e3
    subst e1 e3
    have hEL : EL w1 w1.heap.size A1 S.length c1 S := ⟨Lies.of_own ho1, Nat.le_refl _, h1c, h1m, fun x hx => by have := hsz x hx; unfold szE at this; exact ⟨by omega, by omega⟩⟩
    have HBs := Lib.hid (bsearch_any w1.heap.size S.length c1 A1 S m w1 hEL hri (by omega))
    have hm1 : w1.heap[w.heap.size]? = some (.cells #[.string m.k, .int .u64 (m.s : Int), .bool m.g] 38 (0, 0)) := (hb1.block _ hwl).trans HM.out
    have q0 := cell_of_row _ _ 0 _ _ (0, 0) hm1
    have q1 := cell_of_row _ _ 1 _ _ (0, 0) hm1
    have q2 := cell_of_row _ _ 2 _ _ (0, 0) hm1
    have HO1 := Lib.hid ho1; have HB1 := Lib.hid (HB.out.trans (hb1.mono HB.out.size)); have HSz := Lib.hid hsz; have HOk := Lib.hid hok
    have hfl := fromM_le S m
    obtain ⟨r, hr⟩ : ∃ r, (fromM S m).length = r := ⟨_, rfl⟩
    obtain ⟨N, hN⟩ : ∃ N, S.length = N := ⟨_, rfl⟩
    obtain ⟨st, hst⟩ : ∃ st, N - r = st := ⟨_, rfl⟩
    have HR := Lib.hid hr; have HN := Lib.hid hN; have HSt := Lib.hid hst
    unfold Mk.v at HBs
    rw [hr, hN, hst] at HBs
    rw [hr, hN] at hfl
    rw [hN] at HO1 h1c hn4 ⊢
    clear ho1 hb1 hsz hEL hy hok hri ha hm1 HA hr hN
    have q0 : w1.cell? ⟨w.heap.size, 0, none⟩ = some (.string m.k) := q0
    have q1 : w1.cell? ⟨w.heap.size, 1, none⟩ = some (.int .u64 (m.s : Int)) := q1
    have q2 : w1.cell? ⟨w.heap.size, 2, none⟩ = some (.bool m.g) := q2
    go_wp2_with fail
    with_reducible refine Calls.mono HBs.out ?_
    rintro e w2 ⟨⟨d, rfl⟩, hb2⟩
    obtain ⟨M, hM⟩ : ∃ M, cntM r k = M := ⟨_, rfl⟩
    have hMr : M ≤ r := by rw [← hM]; exact cntM_le r k
    have hmin : ∀ W, (Builtin.min_ #[3, 3] 3 #[.int .i64 k, .int .i64 (r : Int)]).run Try.prog W = .ok (.int .i64 (min k (r : Int))) W := fun W => run_minI _ _ W
    have hmax : ∀ W, (Builtin.max_ #[3, 3] 3 #[.int .i64 (min k (r : Int)), .int .i64 0]).run Try.prog W = .ok (.int .i64 (M : Int)) W := fun W => by
      rw [run_maxI]
      have : max (min k (r : Int)) 0 = (M : Int) := by rw [← hM]; unfold cntM; omega
      rw [this]
    have hsub : ((N : Int) - (st : Int)) = (r : Int) := by omega
    have hcut := fun W => run_cut3E W A1 N c1 st (st + M) (st + M) (by omega) (Nat.le_refl _) (by omega)
    rw [show st + M - st = M from by omega] at hcut
    have hcut2 : ∀ W, (Instr.slice 22 (.slice A1 N c1) (some (.int .i64 (st : Int))) (some (.int .i64 ((st : Int) + (M : Int)))) (some (.int .i64 ((st : Int) + (M : Int))))).run Try.prog W = .ok (.slice (cutE A1 (st + M) st) M M) W := fun W => by
      have := hcut W
      push_cast at this
      exact this
    have HF : Hid (SFrom w (some S) m k (.returned (.tuple #[.slice (cutE A1 (st + M) st) M M, .int .i64 0])) w2) := ⟨HB1.out.trans (hb2.mono HB1.out.size), (fun S' e => by
      injection e with e; subst e
      refine ⟨A1, c1, st, M, by rw [HR.out, hM], by rw [HN.out, HR.out, hst], by rw [HN.out]; omega, rfl, ?_, HSz.out, HOk.out⟩
      have := own_below HO1.out hb2
      rw [HN.out]
      exact own_base this (by have := HB.out.size; omega)), fun e => by cases e⟩
    have hstN : st + M ≤ N := by omega
    have hN30 : N ≤ 4096 := hn4
    clear hb2 HBs q0 q1 q2 hM hcut hst hfl
    go_wp2
    go_ret2
    exact HF.out

/-- what Get answers -/
def noE : En := ⟨⟨ByteArray.empty, 0, false⟩, ByteArray.empty⟩
def SGet (w : World) (o : Option (List En)) (key : ByteArray) (s : Nat) (e : Ending) (w' : World) : Prop :=
  Below w.heap.size w w' ∧ (∀ S, o = some S → e = .returned (.tuple #[((getE S key s).getD noE).v, .bool (getE S key s).isSome, .int .i64 0])) ∧ (o = none → e = .returned (.tuple #[noE.v, .bool false, .int .i64 4]))
theorem drop_head (S : List En) (m : Mk) : (S.drop (S.length - (fromM S m).length)).head? = (fromM S m).head? := by rw [fromM_drop]
/-- a struct of four cells is written whole -/
theorem four_setS {w w0 : World} {E g : Nat} {a0 a1 a2 a3 : Value} {t : TypeId} (h : w.heap[E]? = some (.cells #[a0, a1, a2, a3] t (0, 0))) (hb : Below g w0 w) (hg : g ≤ E) (u0 u1 u2 u3 : Value) :
    ((((w.setCell ⟨E, 0, none⟩ u0).setCell ⟨E, 1, none⟩ u1).setCell ⟨E, 2, none⟩ u2).setCell ⟨E, 3, none⟩ u3).heap[E]? = some (.cells #[u0, u1, u2, u3] t (0, 0)) ∧
    Below g w0 ((((w.setCell ⟨E, 0, none⟩ u0).setCell ⟨E, 1, none⟩ u1).setCell ⟨E, 2, none⟩ u2).setCell ⟨E, 3, none⟩ u3) := by
  have st : ∀ {W : World} {k : Nat} {l : List Value} (v : Value), W.heap[E]? = some (.cells l.toArray t (0, 0)) → (W.setCell ⟨E, k, none⟩ v).heap[E]? = some (.cells (l.set k v).toArray t (0, 0)) := fun v h => by
    have := h
    simp [World.setCell, Array.getElem?_modify, h]
  exact ⟨st u3 (st u2 (st u1 (st (l := [a0, a1, a2, a3]) u0 h))), (((hb.setCell hg _).setCell hg _).setCell hg _).setCell hg _⟩
set_option maxHeartbeats 4000000 in
theorem sget_any (A : Option Addr) (n c : Nat) (b : List UInt8) (o : Option (List En)) (key : ByteArray) (s : Nat) (w : World) (hF : IsF b o) (h : Lies w w.heap.size 1 A n (b.map bv)) (hnc : n ≤ c) (hc : c ≤ 9223372036854775807) (hn : n ≤ 1099511627776) :
    Calls Try.prog 17 #[.slice A n c, .string key, .int .u64 (s : Int)] w (SGet w o key s) := by
  obtain ⟨_, _, _, _, hB, hz⟩ := enW_facts w noE
  have hE : (enW w noE).heap[w.heap.size]? = some (.cells #[.string ⟨#[]⟩, .int .u64 0, .bool false, .string ⟨#[]⟩] 40 (0, 0)) := heap_alloc_new w _
  obtain ⟨W, hW⟩ : ∃ W, enW w noE = W := ⟨_, rfl⟩
  have hW2 : w.alloc (.cells #[.string ⟨#[]⟩, .int .u64 0, .bool false, .string ⟨#[]⟩] 40) = W := hW
  rw [hW] at hB hz hE
  have HA := Lib.hid (sfrom_any A n c b o ⟨key, s, true⟩ 1 (by decide) W hF ((h.below hB).more hB.size) hnc hc hn)
  have HB := Lib.hid hB; have HI := Lib.hid hF; have HE := Lib.hid hE
  have hwl : w.heap.size < W.heap.size := by omega
  clear hF h hB hW hE hz
  unfold Mk.v at HA
  cases o with
  | none =>
    go_enter Try.func17, Try.ntmps17
    go_wp2_with fail
    refine HA.out.mono ?_
    rintro e w1 ⟨hb1, _, hno⟩
    obtain rfl := hno rfl
    have hbx := (hb1.block _ hwl).trans HE.out
    have z0 : w1.cell? ⟨w.heap.size, 0, none⟩ = some (.string ⟨#[]⟩) := cell_of_row w1 _ 0 _ _ (0, 0) hbx
    have z1 : w1.cell? ⟨w.heap.size, 1, none⟩ = some (.int .u64 0) := cell_of_row w1 _ 1 _ _ (0, 0) hbx
    have z2 : w1.cell? ⟨w.heap.size, 2, none⟩ = some (.bool false) := cell_of_row w1 _ 2 _ _ (0, 0) hbx
    have z3 : w1.cell? ⟨w.heap.size, 3, none⟩ = some (.string ⟨#[]⟩) := cell_of_row w1 _ 3 _ _ (0, 0) hbx
    have f0 : w1.frozen? ⟨w.heap.size, 0, none⟩ = false := by simp [World.frozen?, hbx]
    have f1 : w1.frozen? ⟨w.heap.size, 1, none⟩ = false := by simp [World.frozen?, hbx]
    have f2 : w1.frozen? ⟨w.heap.size, 2, none⟩ = false := by simp [World.frozen?, hbx]
    have f3 : w1.frozen? ⟨w.heap.size, 3, none⟩ = false := by simp [World.frozen?, hbx]
    have HF := Lib.hid (four_setS hbx (HB.out.trans (hb1.mono HB.out.size)) (Nat.le_refl _) (.string ⟨#[]⟩) (.int .u64 0) (.bool false) (.string ⟨#[]⟩))
    clear hb1 hbx HA hW2 hno
    go_wp2
    clear z0 z1 z2 z3 f0 f1 f2 f3
    generalize (((w1.setCell ⟨w.heap.size, 0, none⟩ (.string ⟨#[]⟩)).setCell ⟨w.heap.size, 1, none⟩ (.int .u64 0)).setCell ⟨w.heap.size, 2, none⟩ (.bool false)).setCell ⟨w.heap.size, 3, none⟩ (.string ⟨#[]⟩) = WF at *
    obtain ⟨hf, hbf⟩ := HF.out
    have z0 : WF.cell? ⟨w.heap.size, 0, none⟩ = some (.string ⟨#[]⟩) := cell_of_row WF _ 0 _ _ (0, 0) hf
    have z1 : WF.cell? ⟨w.heap.size, 1, none⟩ = some (.int .u64 0) := cell_of_row WF _ 1 _ _ (0, 0) hf
    have z2 : WF.cell? ⟨w.heap.size, 2, none⟩ = some (.bool false) := cell_of_row WF _ 2 _ _ (0, 0) hf
    have z3 : WF.cell? ⟨w.heap.size, 3, none⟩ = some (.string ⟨#[]⟩) := cell_of_row WF _ 3 _ _ (0, 0) hf
    exact bodyPost_ret (v := .tuple #[.agg #[.string ⟨#[]⟩, .int .u64 0, .bool false, .string ⟨#[]⟩], .bool false, .int .i64 4]) (by simp [results, Try.results17, go_sem, z0, z1, z2, z3]) rfl ⟨hbf, (fun S e => by cases e), fun _ => rfl⟩
  | some S =>
    obtain ⟨hok, hq, _⟩ := HI.out
    have hget : getE S key s = match (fromM S ⟨key, s, true⟩).head? with | some e => if e.m.k = key then some e else none | none => none := rfl
    have hdh := drop_head S ⟨key, s, true⟩
    obtain ⟨g, hg⟩ : ∃ g, getE S key s = g := ⟨_, rfl⟩
    have HSG : Hid (∀ w' e, Below w.heap.size w w' → e = .returned (.tuple #[(g.getD noE).v, .bool g.isSome, .int .i64 0]) → SGet w (some S) key s e w') := fun w' e hb he => ⟨hb, (fun S' e2 => by injection e2 with e2; subst e2; rw [hg]; exact he), fun e2 => by cases e2⟩
    rw [hg] at hget
    have HGet := Lib.hid hget; have HDh := Lib.hid hdh
    clear hok hq hget hdh hg
    cases hr : fromM S ⟨key, s, true⟩ with
    | nil =>
      have HG : Hid (g = none) := by unfold Hid; rw [HGet.out, hr]; rfl
      obtain rfl := HG.out
      have hN : cntM (fromM S ⟨key, s, true⟩).length 1 = 0 := by rw [hr]; decide
      have HN := Lib.hid hN
      clear hN hr
      go_enter Try.func17, Try.ntmps17
      go_wp2_with fail
      refine HA.out.mono ?_
      rintro e w1 ⟨hb1, hy, _⟩
      obtain ⟨A1, c1, st, N, h1, _, _, rfl, _⟩ := hy S rfl
      rw [HN.out] at h1
      subst h1
      have hbx := (hb1.block _ hwl).trans HE.out
      have z0 : w1.cell? ⟨w.heap.size, 0, none⟩ = some (.string ⟨#[]⟩) := cell_of_row w1 _ 0 _ _ (0, 0) hbx
      have z1 : w1.cell? ⟨w.heap.size, 1, none⟩ = some (.int .u64 0) := cell_of_row w1 _ 1 _ _ (0, 0) hbx
      have z2 : w1.cell? ⟨w.heap.size, 2, none⟩ = some (.bool false) := cell_of_row w1 _ 2 _ _ (0, 0) hbx
      have z3 : w1.cell? ⟨w.heap.size, 3, none⟩ = some (.string ⟨#[]⟩) := cell_of_row w1 _ 3 _ _ (0, 0) hbx
      have f0 : w1.frozen? ⟨w.heap.size, 0, none⟩ = false := by simp [World.frozen?, hbx]
      have f1 : w1.frozen? ⟨w.heap.size, 1, none⟩ = false := by simp [World.frozen?, hbx]
      have f2 : w1.frozen? ⟨w.heap.size, 2, none⟩ = false := by simp [World.frozen?, hbx]
      have f3 : w1.frozen? ⟨w.heap.size, 3, none⟩ = false := by simp [World.frozen?, hbx]
      have HF := Lib.hid (four_setS hbx (HB.out.trans (hb1.mono HB.out.size)) (Nat.le_refl _) (.string ⟨#[]⟩) (.int .u64 0) (.bool false) (.string ⟨#[]⟩))
      clear hb1 hbx HA hW2 hy
      go_wp2
      clear z0 z1 z2 z3 f0 f1 f2 f3
      generalize (((w1.setCell ⟨w.heap.size, 0, none⟩ (.string ⟨#[]⟩)).setCell ⟨w.heap.size, 1, none⟩ (.int .u64 0)).setCell ⟨w.heap.size, 2, none⟩ (.bool false)).setCell ⟨w.heap.size, 3, none⟩ (.string ⟨#[]⟩) = WF at *
      obtain ⟨hf, hbf⟩ := HF.out
      have z0 : WF.cell? ⟨w.heap.size, 0, none⟩ = some (.string ⟨#[]⟩) := cell_of_row WF _ 0 _ _ (0, 0) hf
      have z1 : WF.cell? ⟨w.heap.size, 1, none⟩ = some (.int .u64 0) := cell_of_row WF _ 1 _ _ (0, 0) hf
      have z2 : WF.cell? ⟨w.heap.size, 2, none⟩ = some (.bool false) := cell_of_row WF _ 2 _ _ (0, 0) hf
      have z3 : WF.cell? ⟨w.heap.size, 3, none⟩ = some (.string ⟨#[]⟩) := cell_of_row WF _ 3 _ _ (0, 0) hf
      exact bodyPost_ret (v := .tuple #[.agg #[.string ⟨#[]⟩, .int .u64 0, .bool false, .string ⟨#[]⟩], .bool false, .int .i64 0]) (by simp [results, Try.results17, go_sem, z0, z1, z2, z3]) rfl (HSG.out _ _ hbf rfl)
    | cons x Q =>
      have hN : cntM (fromM S ⟨key, s, true⟩).length 1 = 1 := by rw [hr, List.length_cons]; unfold cntM; omega
      have hx : (S.drop (S.length - (fromM S ⟨key, s, true⟩).length)).head? = some x := by rw [HDh.out, hr]; rfl
      have HN := Lib.hid hN; have HX := Lib.hid hx
      have HG : Hid (g = if x.m.k = key then some x else none) := by unfold Hid; rw [HGet.out, hr]; rfl
      clear hN hr hx
      go_enter Try.func17, Try.ntmps17
      go_wp2_with fail
      refine HA.out.mono ?_
      rintro e w1 ⟨hb1, hy, _⟩
      obtain ⟨A1, c1, st, N, h1, h2, h3, rfl, ho, _, _⟩ := hy S rfl
      rw [HN.out] at h1
      subst h1
      have hlx : Lies w1 w1.heap.size 4 (cutE A1 (st + 1) st) 1 (ecs [x]) := by
        have k1 := (Lies.of_own ho).takeE (m := st + 1) h3
        have k2 := k1.cutE (m := st) (c := st + 1) (by omega) (Nat.le_refl _)
        rw [ecs_take, ecs_drop, show st + 1 - st = 1 from by omega] at k2
        have e1 : (S.take (st + 1)).drop st = [x] := by
          have hx := HX.out
          rw [← h2] at hx
          rw [List.drop_take, show st + 1 - st = 1 from by omega]
          cases hd : S.drop st with
          | nil => rw [hd] at hx; cases hx
          | cons y R => rw [hd] at hx; injection hx with hx; subst hx; rfl
        rwa [e1] at k2
      obtain ⟨xb, xo, y, hxa, _, hy1, c0, c1', c2, c3⟩ := hlx.entry (i := 0) (by omega)
      obtain rfl : x = y := by simpa using hy1
      rw [Nat.zero_mul, Nat.add_zero] at c0 c1' c2 c3
      rw [hxa]
      clear hlx ho hy hxa hy1 h2 h3
      have hbx := (hb1.block _ hwl).trans HE.out
      have z0 : w1.cell? ⟨w.heap.size, 0, none⟩ = some (.string ⟨#[]⟩) := cell_of_row w1 _ 0 _ _ (0, 0) hbx
      have z1 : w1.cell? ⟨w.heap.size, 1, none⟩ = some (.int .u64 0) := cell_of_row w1 _ 1 _ _ (0, 0) hbx
      have z2 : w1.cell? ⟨w.heap.size, 2, none⟩ = some (.bool false) := cell_of_row w1 _ 2 _ _ (0, 0) hbx
      have z3 : w1.cell? ⟨w.heap.size, 3, none⟩ = some (.string ⟨#[]⟩) := cell_of_row w1 _ 3 _ _ (0, 0) hbx
      have f0 : w1.frozen? ⟨w.heap.size, 0, none⟩ = false := by simp [World.frozen?, hbx]
      have f1 : w1.frozen? ⟨w.heap.size, 1, none⟩ = false := by simp [World.frozen?, hbx]
      have f2 : w1.frozen? ⟨w.heap.size, 2, none⟩ = false := by simp [World.frozen?, hbx]
      have f3 : w1.frozen? ⟨w.heap.size, 3, none⟩ = false := by simp [World.frozen?, hbx]
      have c0' : w1.cell? ⟨xb, xo, none⟩ = some (.string x.m.k) := c0
      by_cases hk : x.m.k = key
      · have hks : (x.m.k.toList == key.toList) = true := by rw [txt_eqB]; exact decide_eq_true hk
        have hg2 : g = some x := by rw [HG.out, if_pos hk]
        subst hg2
        have HF := Lib.hid (four_setS hbx (HB.out.trans (hb1.mono HB.out.size)) (Nat.le_refl _) (.string x.m.k) (.int .u64 (x.m.s : Int)) (.bool x.m.g) (.string x.x))
        clear hb1 hbx HA hW2 hk c0
        go_wp2
        clear z0 z1 z2 z3 f0 f1 f2 f3
        generalize (((w1.setCell ⟨w.heap.size, 0, none⟩ (.string x.m.k)).setCell ⟨w.heap.size, 1, none⟩ (.int .u64 (x.m.s : Int))).setCell ⟨w.heap.size, 2, none⟩ (.bool x.m.g)).setCell ⟨w.heap.size, 3, none⟩ (.string x.x) = WF at *
        obtain ⟨hf, hbf⟩ := HF.out
        have z0 : WF.cell? ⟨w.heap.size, 0, none⟩ = some (.string x.m.k) := cell_of_row WF _ 0 _ _ (0, 0) hf
        have z1 : WF.cell? ⟨w.heap.size, 1, none⟩ = some (.int .u64 (x.m.s : Int)) := cell_of_row WF _ 1 _ _ (0, 0) hf
        have z2 : WF.cell? ⟨w.heap.size, 2, none⟩ = some (.bool x.m.g) := cell_of_row WF _ 2 _ _ (0, 0) hf
        have z3 : WF.cell? ⟨w.heap.size, 3, none⟩ = some (.string x.x) := cell_of_row WF _ 3 _ _ (0, 0) hf
        exact bodyPost_ret (v := .tuple #[.agg #[.string x.m.k, .int .u64 (x.m.s : Int), .bool x.m.g, .string x.x], .bool true, .int .i64 0]) (by simp [results, Try.results17, go_sem, z0, z1, z2, z3]) rfl (HSG.out _ _ hbf rfl)
      · have hks : (x.m.k.toList == key.toList) = false := by rw [txt_eqB]; exact decide_eq_false hk
        have hg2 : g = none := by rw [HG.out, if_neg hk]
        subst hg2
        have HF := Lib.hid (four_setS hbx (HB.out.trans (hb1.mono HB.out.size)) (Nat.le_refl _) (.string ⟨#[]⟩) (.int .u64 0) (.bool false) (.string ⟨#[]⟩))
        clear hb1 hbx HA hW2 hk c0
        go_wp2
        clear z0 z1 z2 z3 f0 f1 f2 f3
        generalize (((w1.setCell ⟨w.heap.size, 0, none⟩ (.string ⟨#[]⟩)).setCell ⟨w.heap.size, 1, none⟩ (.int .u64 0)).setCell ⟨w.heap.size, 2, none⟩ (.bool false)).setCell ⟨w.heap.size, 3, none⟩ (.string ⟨#[]⟩) = WF at *
        obtain ⟨hf, hbf⟩ := HF.out
        have z0 : WF.cell? ⟨w.heap.size, 0, none⟩ = some (.string ⟨#[]⟩) := cell_of_row WF _ 0 _ _ (0, 0) hf
        have z1 : WF.cell? ⟨w.heap.size, 1, none⟩ = some (.int .u64 0) := cell_of_row WF _ 1 _ _ (0, 0) hf
        have z2 : WF.cell? ⟨w.heap.size, 2, none⟩ = some (.bool false) := cell_of_row WF _ 2 _ _ (0, 0) hf
        have z3 : WF.cell? ⟨w.heap.size, 3, none⟩ = some (.string ⟨#[]⟩) := cell_of_row WF _ 3 _ _ (0, 0) hf
        exact bodyPost_ret (v := .tuple #[.agg #[.string ⟨#[]⟩, .int .u64 0, .bool false, .string ⟨#[]⟩], .bool false, .int .i64 0]) (by simp [results, Try.results17, go_sem, z0, z1, z2, z3]) rfl (HSG.out _ _ hbf rfl)
end Go.Proofs.Ytghfhojpnbpjoaa

