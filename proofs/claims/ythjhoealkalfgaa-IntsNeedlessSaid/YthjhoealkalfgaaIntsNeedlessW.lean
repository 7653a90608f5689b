/-
  The walk of IntsNeedless.
-/
import Derived.Test.YthjhoealkalfgaaIntsJoinW
import Derived.ArgAppend
namespace Go.Proofs.Ythjhoealkalfgaa
open Go.RowKit
set_option linter.unusedVariables false

namespace Vi
theorem encF_high (f n i : Nat) (x : UInt8) (h : (encF f n)[i]? = some x) (hi : i + 1 < (encF f n).length) : 128 ≤ x.toNat := by
  induction f generalizing n i with
  | zero => simp [encF] at h
  | succ f ih =>
    unfold encF at h hi
    split at h
    · rename_i hlt
      rw [if_pos hlt] at hi
      simp at hi
    · rename_i hge
      rw [if_neg hge] at hi
      cases i with
      | zero =>
        simp only [List.getElem?_cons_zero, Option.some.injEq] at h
        rw [← h, toNat_ofNat _ (by omega)]
        omega
      | succ i =>
        simp only [List.getElem?_cons_succ, List.length_cons] at h hi
        exact ih (n / 128) i h (by omega)
end Vi
theorem or_high (x : Nat) (hx : x < 256) : ∃ y : Nat, bits .or .u8 (x : Int) 128 = (y : Int) ∧ 128 ≤ y ∧ y < 256 := by
  refine ⟨x ||| 128, u8_or_nat x 128 hx (by omega), Nat.right_le_or, ?_⟩
  exact Nat.or_lt_two_pow (n := 8) hx (by decide)

/-- a block whose cells are these bytes -/
def RowOf (w : World) (g : Nat) (t : TypeId) (q : List UInt8) : Prop := w.heap[g]? = some (.cells (q.map bv).toArray t (0, 0))
section
variable {w w' : World} {g : Nat} {t : TypeId} {q : List UInt8}
theorem RowOf.lt (h : RowOf w g t q) : g < w.heap.size := (Array.getElem?_eq_some_iff.1 h).1
theorem RowOf.cell (h : RowOf w g t q) {i : Nat} {x : UInt8} (hx : q[i]? = some x) : w.cell? ⟨g, i, none⟩ = some (.int .u8 (x.toNat : Int)) := by
  rw [cell_of_row w g i _ t (0, 0) h]
  simp [hx]
theorem RowOf.frozen (h : RowOf w g t q) (i : Nat) : w.frozen? ⟨g, i, none⟩ = false := by
  unfold RowOf at h
  simp [World.frozen?, h]
theorem RowOf.set_ (h : RowOf w g t q) (i : Nat) (c : UInt8) : RowOf (w.setCell ⟨g, i, none⟩ (bv c)) g t (q.set i c) := by
  unfold RowOf at h ⊢
  simp [World.setCell, Array.getElem?_modify, h]
theorem RowOf.below {B : Nat} (h : RowOf w g t q) (hb : Below B w w') (hg : g < B) : RowOf w' g t q := (hb.block g hg).trans h
theorem RowOf.lies (h : RowOf w g t q) (B : Nat) (hB : g < B) : Lies w B 1 (some ⟨g, 0, none⟩) q.length (q.map bv) := by
  refine ⟨by simp, fun j hj => ?_⟩
  have hj2 : j < q.length := by simpa using hj
  refine ⟨_, bv q[j], rfl, hB, by simp [hj2], ?_⟩
  rw [add_lit, Nat.zero_add]
  exact h.cell (List.getElem?_eq_getElem hj2)
end

/-- what the loop over the array keeps -/
def NRel (w : World) (t : TypeId) (i : Value) (wr : World) : Prop :=
  ∃ (k : Nat) (q : List UInt8), k ≤ 10 ∧ i = .int .i64 (k : Int) ∧ q.length = 10 ∧ (∀ j x, j < k → q[j]? = some x → 128 ≤ x.toNat) ∧ RowOf wr w.heap.size t q ∧ Below w.heap.size w wr

/-- what the loop of appends keeps -/
def MRel (w : World) (m : Nat) (v i : Value) (wr : World) : Prop :=
  ∃ (k : Nat) (p : List UInt8), k ≤ m ∧ i = .int .i64 (k : Int) ∧ 1 ≤ p.length ∧ p.length ≤ 10 + k ∧ (∀ c ∈ p, 128 ≤ c.toNat) ∧ wr.ownsRow w.heap.size 5 1 v p.length (p.map bv) ∧ Below w.heap.size w wr

set_option maxRecDepth 100000 in
set_option maxHeartbeats 4000000 in
theorem intsNeedless_walk (n more : Nat) (b : List UInt8) (w : World) (hn : n < 18446744073709551616) (hm : more < 256) (hb10 : b.length = 10) :
    Calls Try.prog 8 #[.int .u64 (n : Int), .int .u8 (more : Int), .agg (b.map bv).toArray] w fun e w' => e = .returned (.bool true) ∧ Below w.heap.size w w' := by
  obtain ⟨i0, hi, hz0, hz1, hz2⟩ := info_parts byte_info
  have HB10 := Lib.hid hb10
  clear hb10
  go_enter Try.func8, Try.ntmps8
  go_wp2_with fail
  have hrow0 : RowOf (w.alloc (.cells (b.map bv).toArray 45)) w.heap.size 45 b := heap_alloc_new w _
  have hbw0 : Below w.heap.size w (w.alloc (.cells (b.map bv).toArray 45)) := (Below.refl _ _).alloc (Nat.le_refl _) _
  have hsz0 : (w.alloc (.cells (b.map bv).toArray 45)).heap.size = w.heap.size + 1 := by simp
  obtain ⟨w0, hw0⟩ : ∃ w0, w0 = w.alloc (.cells (b.map bv).toArray 45) := ⟨_, rfl⟩
  rw [← hw0] at hrow0 hbw0 hsz0 ⊢
  have HR0 := Lib.hid hrow0; have HBW0 := Lib.hid hbw0; have HSZ0 := Lib.hid hsz0
  clear hw0 hrow0 hbw0 hsz0
  refine (put_one n w0 hn).mono ?_
  rintro e w1 ⟨g, c, rfl, hnc, hcm, hown, hb1⟩
  have q1 := Vi.enc_pos n
  have q2 := Vi.enc_len n
  obtain ⟨j, hj⟩ : ∃ j, (Vi.enc n).length = j + 1 := ⟨(Vi.enc n).length - 1, by omega⟩
  rw [hj] at hown hnc ⊢
  obtain ⟨x, hx⟩ : ∃ x, (Vi.enc n)[j]? = some x := ⟨(Vi.enc n)[j], List.getElem?_eq_getElem (by omega)⟩
  have hcx : w1.cell? ⟨g, j, none⟩ = some (.int .u8 (x.toNat : Int)) := by rw [hown.cellAt j (by omega), List.getElem?_map, hx]; rfl
  have hfx := hown.frozenAt j
  obtain ⟨y, hor, hy1, hy2⟩ := or_high x.toNat x.toNat_lt
  have hst := hown.stored j (bv (UInt8.ofNat y))
  rw [bv_ofNat y hy2] at hst
  have hown2 : (w1.setCell ⟨g, j, none⟩ (.int .u8 (y : Int))).ownsRow w0.heap.size 5 1 (.slice (some ⟨g, 0, none⟩) (j + 1) c) (j + 1) (((Vi.enc n).set j (UInt8.ofNat y)).map bv) := by
    rw [List.map_set, bv_ofNat y hy2]; exact hst.1
  have hb2 : Below w0.heap.size w0 (w1.setCell ⟨g, j, none⟩ (.int .u8 (y : Int))) := hb1.setCell (p := ⟨g, j, none⟩) (hown.lt g rfl).1 _
  have hall : ∀ z ∈ (Vi.enc n).set j (UInt8.ofNat y), 128 ≤ z.toNat := by
    intro z hz
    obtain ⟨i, hi1, hi2⟩ := List.getElem_of_mem hz
    have hi3 : i < j + 1 := by simpa [hj] using hi1
    by_cases hij : i = j
    · subst hij
      simp at hi2
      rw [← hi2, Vi.toNat_ofNat y hy2]; exact hy1
    · rw [List.getElem_set_ne (by omega)] at hi2
      exact Vi.encF_high 10 n i z (by show (Vi.enc n)[i]? = some z; rw [List.getElem?_eq_getElem (by omega), hi2]) (by show i + 1 < (Vi.enc n).length; omega)
  have hlen : ((Vi.enc n).set j (UInt8.ofNat y)).length = j + 1 := by simp [hj]
  have HM0 : Hid (MRel w0 (more % 4) (.slice (some ⟨g, 0, none⟩) (j + 1) c) (.int .i64 0) (w1.setCell ⟨g, j, none⟩ (.int .u8 (y : Int)))) :=
    ⟨0, _, Nat.zero_le _, rfl, by omega, by omega, hall, by rw [hlen]; exact hown2, hb2⟩
  have hjl : j ≤ 9 := by omega
  have hxl := x.toNat_lt
  obtain ⟨xn, hxn⟩ : ∃ u, x.toNat = u := ⟨_, rfl⟩
  rw [hxn] at hor hcx hxl
  unfold maxLen at hcm
  clear hst hown2 hb2 hall hlen hx hown hb1 hj hxn q1 q2
  obtain ⟨m, hm4⟩ : ∃ m, more % 4 = m := ⟨_, rfl⟩
  have hm4' : (more : Int) % 4 = (m : Int) := by omega
  have hm4l : m < 4 := by omega
  rw [hm4] at HM0
  clear hm4
  go_wp2
  go_loopw [7, 8] (fun v i wr => MRel w0 m v i wr) (fun _ i _ => m - (intOf i).toNat)
  case atStart => exact HM0.out
  case round =>
    clear HM0 hcx hfx hor
    obtain ⟨k, p, hk, rfl, hp1, hp2, hpall, hown, hb⟩ := hrel
    have hbs := hb.size
    have HPA := Lib.hid hpall; clear hpall
    obtain ⟨A1, c1, rfl, hnc1, hcm1, hA1⟩ := own_shape hown
    by_cases hlt : k < m
    · go_wp2_with (at_builtin; refine wpList_app _ rfl (.tmp 46) (.tmp 47) 22 rfl w0.heap.size 5 i0 _ 1 1 Try.underlying22 hi hz0 hz1 hz2 rfl (by decide) (.slice A1 p.length c1) p.length (p.map bv) rfl (hown.alloc _) (wr.heap.size + 1) (some ⟨wr.heap.size, 0, none⟩) 1 1 [.int .u8 128] rfl ?c1 ?c2 ?c3 ?c4 ?c5 ?_)
      case c1 => exact one_lies rfl _ _
      case c2 => intro u hu; simp at hu; subst hu; rfl
      case c3 => unfold maxLen; omega
      case c4 => omega
      case c5 => simp; omega
      intro v2 w2 hown2 hg2 _
      have hb2 : Below w0.heap.size w0 w2 := (hb.alloc hbs _).grown hg2 (by simp; omega) (fun j hj => (hown.lt j hj).1)
      have R : Hid (MRel w0 m v2 (.int .i64 ((k : Int) + 1)) w2) := by
        refine ⟨k + 1, p ++ [128], by omega, by simp, by simp, by simp; omega, ?_, ?_, hb2⟩
        · intro z hz
          rcases List.mem_append.1 hz with h | h
          · exact HPA.out z h
          · have : z = 128 := by simpa using h
            subst this; decide
        · rw [List.length_append, List.map_append]; exact hown2
      clear hown2 hg2 hown hb2 hb
      go_wp2
      go_roundw
      case rel => exact R.out
      case measure => simp [intOf]; omega
    · go_wp2_with (at_builtin; refine wpList_app _ rfl (.tmp 50) (.tmp 51) 22 rfl w0.heap.size 5 i0 _ 1 1 Try.underlying22 hi hz0 hz1 hz2 rfl (by decide) (.slice A1 p.length c1) p.length (p.map bv) rfl (hown.alloc _) (wr.heap.size + 1) (some ⟨wr.heap.size, 0, none⟩) 1 1 [.int .u8 0] rfl ?d1 ?d2 ?d3 ?d4 ?d5 ?_)
      case d1 => exact one_lies rfl _ _
      case d2 => intro u hu; simp at hu; subst hu; rfl
      case d3 => unfold maxLen; omega
      case d4 => omega
      case d5 => simp; omega
      intro v2 w2 hown2 hg2 _
      have hb2 : Below w0.heap.size w0 w2 := (hb.alloc hbs _).grown hg2 (by simp; omega) (fun j hj => (hown.lt j hj).1)
      have HB2 := Lib.hid hb2
      obtain ⟨A2, c2, rfl, hnc2, hcm2, _⟩ := own_shape hown2
      have L2 : Lies w2 w2.heap.size 1 A2 (p.length + 1) ((p ++ 0 :: []).map bv) := by
        rw [List.map_append]; exact Lies.of_own hown2
      have G := get_any A2 (p.length + 1) c2 _ w2 L2 hnc2 hcm2
      have he4 := Vi.get_needless p HPA.out (by omega) []
      rcases hg : Vi.get (p ++ 0 :: []) with ⟨gk, gt, ge⟩
      rw [hg] at G he4
      simp only at he4
      subst he4
      have G2 := Lib.hid G
      clear G L2 hown2 hg2 hown hb hb2 hg HPA
      go_wp2_with fail
      refine G2.out.mono ?_
      rintro e w3 ⟨rfl, hb3⟩
      have HB3 := Lib.hid (HB2.out.trans (hb3.mono HB2.out.size)); clear hb3 HB2 G2
      have HN0 : Hid (NRel w 45 (.int .i64 0) w3) :=
        ⟨0, b, by decide, rfl, HB10.out, fun j x h => by omega, HR0.out.below HB3.out (by rw [HSZ0.out]; omega), HBW0.out.trans (HB3.out.mono (by rw [HSZ0.out]; omega))⟩
      clear HB3
      go_wp2
      go_loopw [12] (fun i wr => NRel w 45 i wr) (fun i _ => 10 - (intOf i).toNat)
      case atStart => exact HN0.out
      case round =>
        clear HN0
        obtain ⟨k2, q, hk2, rfl, hq10, hqall, hrow, hb⟩ := hrel
        have HQA := Lib.hid hqall; have HQ10 := Lib.hid hq10
        clear hqall hq10
        by_cases hlt2 : k2 < 10
        · obtain ⟨x, hx⟩ : ∃ x, q[k2]? = some x := ⟨q[k2]'(by rw [HQ10.out]; exact hlt2), List.getElem?_eq_getElem (by rw [HQ10.out]; exact hlt2)⟩
          have hcx := hrow.cell hx
          have hfx := hrow.frozen k2
          obtain ⟨y, hor, hy1, hy2⟩ := or_high x.toNat x.toNat_lt
          have hset := hrow.set_ k2 (UInt8.ofNat y)
          rw [bv_ofNat y hy2] at hset
          have R : Hid (NRel w 45 (.int .i64 ((k2 : Int) + 1)) (wr.setCell ⟨w.heap.size, k2, none⟩ (.int .u8 (y : Int)))) := by
            refine ⟨k2 + 1, q.set k2 (UInt8.ofNat y), by omega, by simp, by simp [HQ10.out], ?_, hset, hb.setCell (p := ⟨w.heap.size, k2, none⟩) (Nat.le_refl _) _⟩
            intro i z hi hz
            by_cases hik : i = k2
            · subst hik
              rw [List.getElem?_set_self (by rw [HQ10.out]; exact hlt2)] at hz
              injection hz with hz
              rw [← hz, Vi.toNat_ofNat y hy2]; exact hy1
            · rw [List.getElem?_set_ne (by omega)] at hz
              exact HQA.out i z (by omega) hz
          have hxl := x.toNat_lt
          obtain ⟨xn, hxn⟩ : ∃ u, x.toNat = u := ⟨_, rfl⟩
          rw [hxn] at hor hcx hxl
          clear hset hx hxn hrow hb
          go_wp2
          go_roundw
          case rel => exact R.out
          case measure => simp [intOf]; omega
        · obtain rfl : k2 = 10 := by omega
          have hqa : ∀ z ∈ q, 128 ≤ z.toNat := by
            intro z hz
            obtain ⟨i, hi1, hi2⟩ := List.getElem_of_mem hz
            exact HQA.out i z (by rw [HQ10.out] at hi1; exact hi1) (by rw [List.getElem?_eq_getElem hi1, hi2])
          have HQ := Lib.hid hqa
          have HROW := Lib.hid hrow
          have HB := Lib.hid hb
          have hwl : w.heap.size < wr.heap.size := hrow.lt
          have L := hrow.lies wr.heap.size hwl
          rw [HQ10.out] at L
          have G := get_any (some ⟨w.heap.size, 0, none⟩) 10 10 q wr L (Nat.le_refl _) (by unfold maxLen; decide)
          have he4 := Vi.get_endless q hqa HQ10.out
          rcases hg : Vi.get q with ⟨gk, gt, ge⟩
          rw [hg] at G he4
          simp only at he4
          subst he4
          have G3 := Lib.hid G
          clear G L hrow hb hqa hg HQA
          go_wp2_with fail
          refine G3.out.mono ?_
          rintro e w4 ⟨rfl, hb4⟩
          have HB4 := Lib.hid (HB.out.trans (hb4.mono HB.out.size))
          have hrow4 := HROW.out.below hb4 hwl
          have hwl4 : w.heap.size < w4.heap.size := hrow4.lt
          have HROW4 := Lib.hid hrow4
          clear G3 hb4 HB HROW hrow4
          go_wp2_with (at_builtin; refine wpList_append_grows _ rfl (.tmp 74) (.tmp 75) 22 rfl 5 i0 _ 1 1 Try.underlying22 hi hz0 hz1 hz2 rfl (by decide) (some ⟨w.heap.size, 0, none⟩) 9 9 ((q.take 9).map bv) rfl (by simp) ?e1 ?e2 ⟨w4.heap.size, 0, none⟩ 1 1 [.int .u8 2] rfl rfl ?e3 ?e4 (by decide) ?e5 (by decide) ?_)
          case e1 => simp [HQ10.out]
          case e2 =>
            intro ad had j u hu
            injection had with had
            subst had
            have hr := HROW4.out
            obtain ⟨z, hz, rfl⟩ := at_map hu
            rw [List.getElem?_take] at hz
            split at hz
            · rw [add_lit, Nat.zero_add, World.cell?_alloc_lt _ _ _ hwl4]
              exact hr.cell hz
            · cases hz
          case e3 =>
            intro j u hu
            obtain ⟨ad, v, e1, _, hx, hcc⟩ := (one_lies (w := w4) rfl (.int .u8 2) 5).spot j (by rcases List.getElem?_eq_some_iff.1 hu with ⟨h, _⟩; exact h)
            injection e1 with e1
            subst e1
            rw [hu] at hx
            injection hx with hx
            subst hx
            exact hcc
          case e4 => intro u hu; simp at hu; subst hu; rfl
          case e5 => unfold maxLen; decide
          intro v5 w5 hown5 hg5
          have hba4 : Below w4.heap.size w4 w5 := ((Below.refl _ _).alloc (Nat.le_refl _) _).grown hg5 (by simp) (by simp)
          have HB5 := Lib.hid (HB4.out.trans (hba4.mono HB4.out.size))
          have hrow5 := HROW4.out.below hba4 hwl4
          have HROW5 := Lib.hid hrow5
          have hwl5 : w.heap.size < w5.heap.size := hrow5.lt
          obtain ⟨A5, c5, rfl, hnc5, hcm5, _⟩ := own_shape hown5
          have L5 : Lies w5 w5.heap.size 1 A5 10 ((q.take 9 ++ [2]).map bv) := by
            rw [List.map_append, List.map_take]; exact Lies.of_own hown5
          have G5' := get_any A5 10 c5 _ w5 L5 hnc5 hcm5
          have hq9 : ∀ z ∈ q.take 9, 128 ≤ z.toNat := fun z hz => HQ.out z (List.mem_of_mem_take hz)
          have hq9l : (q.take 9).length = 9 := by simp [HQ10.out]
          have he4 := Vi.get_ten_two (q.take 9) hq9 hq9l
          rcases hg : Vi.get (q.take 9 ++ [2]) with ⟨gk, gt, ge⟩
          rw [hg] at G5' he4
          simp only at he4
          subst he4
          have G5 := Lib.hid G5'
          have HQ9 := Lib.hid hq9; have HQ9L := Lib.hid hq9l
          clear G5' L5 hown5 hg5 hba4 hrow5 hg HB4 HROW4 hq9 hq9l
          go_wp2_with fail
          refine G5.out.mono ?_
          rintro e w6 ⟨rfl, hb6⟩
          have HB6 := Lib.hid (HB5.out.trans (hb6.mono HB5.out.size))
          have hrow6 := HROW5.out.below hb6 hwl5
          have hwl6 : w.heap.size < w6.heap.size := hrow6.lt
          have HROW6 := Lib.hid hrow6
          clear G5 hb6 HB5 HROW5 hrow6
          go_wp2_with (at_builtin; refine wpList_append_grows _ rfl (.tmp 82) (.tmp 83) 22 rfl 5 i0 _ 1 1 Try.underlying22 hi hz0 hz1 hz2 rfl (by decide) (some ⟨w.heap.size, 0, none⟩) 9 9 ((q.take 9).map bv) rfl (by simp) ?f1 ?f2 ⟨w6.heap.size, 0, none⟩ 1 1 [.int .u8 1] rfl rfl ?f3 ?f4 (by decide) ?f5 (by decide) ?_)
          case f1 => simp [HQ10.out]
          case f2 =>
            intro ad had j u hu
            injection had with had
            subst had
            have hr := HROW6.out
            obtain ⟨z, hz, rfl⟩ := at_map hu
            rw [List.getElem?_take] at hz
            split at hz
            · rw [add_lit, Nat.zero_add, World.cell?_alloc_lt _ _ _ hwl6]
              exact hr.cell hz
            · cases hz
          case f3 =>
            intro j u hu
            obtain ⟨ad, v, e1, _, hx, hcc⟩ := (one_lies (w := w6) rfl (.int .u8 1) 5).spot j (by rcases List.getElem?_eq_some_iff.1 hu with ⟨h, _⟩; exact h)
            injection e1 with e1
            subst e1
            rw [hu] at hx
            injection hx with hx
            subst hx
            exact hcc
          case f4 => intro u hu; simp at hu; subst hu; rfl
          case f5 => unfold maxLen; decide
          intro v7 w7 hown7 hg7
          have hba6 : Below w6.heap.size w6 w7 := ((Below.refl _ _).alloc (Nat.le_refl _) _).grown hg7 (by simp) (by simp)
          have HB7 := Lib.hid (HB6.out.trans (hba6.mono HB6.out.size))
          have hrow7 := HROW6.out.below hba6 hwl6
          have HROW7 := Lib.hid hrow7
          have hwl7 : w.heap.size < w7.heap.size := hrow7.lt
          obtain ⟨A7, c7, rfl, hnc7, hcm7, _⟩ := own_shape hown7
          have L7 : Lies w7 w7.heap.size 1 A7 10 ((q.take 9 ++ [1]).map bv) := by
            rw [List.map_append, List.map_take]; exact Lies.of_own hown7
          have G7' := get_any A7 10 c7 _ w7 L7 hnc7 hcm7
          have he5 := Vi.get_ten_one (q.take 9) HQ9.out HQ9L.out
          rcases hg : Vi.get (q.take 9 ++ [1]) with ⟨gk2, gt2, ge2⟩
          rw [hg] at G7' he5
          simp only [Prod.mk.injEq] at he5
          obtain ⟨⟨rfl, rfl⟩, hbig⟩ := he5
          have HBIG := Lib.hid hbig
          have G7 := Lib.hid G7'
          clear G7' L7 hown7 hg7 hba6 hrow7 hg HB6 HROW6 hbig
          go_wp2_with fail
          refine G7.out.mono ?_
          rintro e w8 ⟨rfl, hb8⟩
          have HB8 := Lib.hid (HB7.out.trans (hb8.mono HB7.out.size))
          clear G7 hb8 HB7 HROW7
          go_wp2_with fail
          refine (alive_any w8).mono ?_
          rintro e w9 ⟨rfl, hb9⟩
          have HB9 := Lib.hid (HB8.out.trans (hb9.mono HB8.out.size))
          clear hb9 HB8
          have hd : decide ((9223372036854775808 : Int) ≤ (gk2 : Int)) = true := by
            have := HBIG.out
            simp
            omega
          go_wp2
          go_ret
          exact ⟨rfl, HB9.out⟩
end Go.Proofs.Ythjhoealkalfgaa
