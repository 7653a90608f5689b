/-
  Layer 7's 'put': a table of entries, put one by one.
-/
import Derived.Test.YtopcnlophmplgaaAlive7
import Derived.Deep.DeepCutAuto
import Derived.BigQuiet
namespace Go.Proofs.Ytopcnlophmplgaa
open Go.RowKit
set_option linter.unusedVariables false
set_option maxRecDepth 100000

/-- is one of these, that may be, of that mark? -/
def thB (l : List En) (m : Mk) : Bool := l.any fun y => decide (y.m = m) && fineE y
theorem thB_iff (l : List En) (m : Mk) : thB l m = true ↔ thereE l m := by
  unfold thB thereE
  rw [List.any_eq_true]
  constructor
  · rintro ⟨y, hy, h⟩
    rw [Bool.and_eq_true, decide_eq_true_eq] at h
    obtain ⟨k, hk⟩ := List.getElem?_of_mem hy
    exact ⟨k, y, hk, h.2, h.1⟩
  · rintro ⟨k, y, hk, h1, h2⟩
    exact ⟨y, List.mem_of_getElem? hk, by rw [Bool.and_eq_true, decide_eq_true_eq]; exact ⟨h2, h1⟩⟩
theorem thB_bld (l : List En) (m : Mk) : thB l m = hasM (bld l) m := by
  rw [Bool.eq_iff_iff, thB_iff, hasM_iff]
  exact (built l).there m
theorem thB_next {l : List En} {k : Nat} {y : En} (h : l[k]? = some y) (m : Mk) : thB (l.take (k + 1)) m = (thB (l.take k) m || (decide (y.m = m) && fineE y)) := by
  unfold thB
  rw [List.take_add_one, h]; simp
theorem put_step {S : List En} (hS : S.length < 4096) (x : En) (c : Nat) (h1 : 1 ≤ c) (h8 : c ≤ 8) :
    putE S x (c : Int) = (if fineE x then (if hasM S x.m then 8 else 0) else 1) ∧ putS S x (c : Int) = stepE S x := by
  have hc : okK (c : Int) = true := decide_eq_true (by omega)
  have e1 : putE S x (c : Int) = (if fineE x then (if hasM S x.m then 8 else 0) else 1) := by
    unfold putE
    rw [hc]
    cases fineE x <;> cases hasM S x.m <;> simp <;> omega
  refine ⟨e1, ?_⟩
  unfold putS stepE
  rw [e1]
  cases fineE x <;> cases hasM S x.m <;> simp

def PutRel (w : World) (t : Nat) (l : List En) (n : Nat) (j : Nat) (i : Value) (wr : World) : Prop := ∃ k, k + j = n ∧ i = .int .i64 (k : Int) ∧ Tb w wr t (bld (l.take k))
def ThRel (W : World) (l : List En) (m : Mk) (k : Nat) (j : Nat) (th i : Value) (wr : World) : Prop := ∃ p, p + j = k ∧ i = .int .i64 (p : Int) ∧ th = .bool (thB (l.take p) m) ∧ Below W.heap.size W wr

set_option maxHeartbeats 8000000 in
theorem put_all (A : Option Addr) (n c : Nat) (l : List En) (At : Option Addr) (nt ct : Nat) (ts : List UInt8) (w : World) (y : Lies w w.heap.size 4 A n (ecs l)) (hm : ∀ x ∈ l, x.m.s < 18446744073709551616 ∧ x.m.k.size ≤ 140737488351232 ∧ x.x.size ≤ 140737488351232) (hn : n ≤ 200)
    (yt : Lies w w.heap.size 1 At nt (ts.map bv)) (hnt : nt ≤ 1000) :
    Calls Try.prog 28 #[.slice A n c, .slice At nt ct] w fun e w' => ∃ t, e = .returned (tp t) ∧ Tb w w' t (bld l) := by
  have hll := y.elen
  have Y := Lib.hid y; have YT := Lib.hid yt; have HM := Lib.hid hm; have HLL := Lib.hid hll
  have hl2 : bld (l.take n) = bld l := by rw [List.take_of_length_le (by omega)]
  have HL2 := Lib.hid hl2
  clear y yt hm hll hl2
  go_enter Try.func28, Try.ntmps28
  go_wp2_with fail
  refine (tb_new (Below.refl _ w)).mono ?_
  rintro e w1 ⟨t, rfl, h1, _⟩
  have HR : Hid (PutRel w t l n n (.int .i64 0) w1) := ⟨0, by omega, rfl, h1⟩
  clear h1
  go_wp2_with fail
  go_loopg [6] n (fun j i wr => PutRel w t l n j i wr)
  case atStart => exact HR.out
  case round =>
    clear HR
    obtain ⟨k, hkn, rfl, hT⟩ := hrel
    by_cases hlt : k < n
    · have i0 : (0 : Int) ≤ (k : Int) := by omega
      have i1 : (k : Int) < (n : Int) := by omega
      have HT := Lib.hid hT
      have hlow := hT.low
      clear hT
      obtain ⟨x, hx⟩ : ∃ x, l[k]? = some x := ⟨_, List.getElem?_eq_getElem (by have := HLL.out; omega)⟩
      have HX := Lib.hid hx
      clear hx
      go_upto_if 20 with fail
      go_cut [7] (fun s7 wx => ∃ c : Nat, s7 = .int .i64 (c : Int) ∧ 1 ≤ c ∧ c ≤ 8 ∧ wx = wr)
      case first =>
        by_cases h0 : 0 < nt
        · obtain ⟨j, hj, hj2⟩ : ∃ j : Nat, (k : Int).tmod (nt : Int) = (j : Int) ∧ j < nt := ⟨k % nt, by rw [Int.tmod_eq_emod_of_nonneg (by omega)]; exact (Int.natCast_emod k nt).symm, Nat.mod_lt _ h0⟩
          obtain ⟨b, o, v, rfl, _, hu, hcell0⟩ := ((YT.out.below hlow).more hlow.size).at_ hj2
          obtain ⟨z, hz⟩ : ∃ z : UInt8, ts[j]? = some z := by
            rw [List.getElem?_map] at hu
            cases hq : ts[j]? with
            | none => rw [hq] at hu; cases hu
            | some z => exact ⟨z, rfl⟩
          rw [List.getElem?_map, hz] at hu
          injection hu with hu
          subst hu
          obtain ⟨zn, hzn⟩ : ∃ zn : Nat, z.toNat = zn := ⟨_, rfl⟩
          have hzl : zn < 256 := by rw [← hzn]; exact z.toNat_lt
          have hcell : wr.cell? ⟨b, o + j, none⟩ = some (.int .u8 (zn : Int))   := by rw [hcell0]; show some (Value.int .u8 (z.toNat : Int)) = _; rw [hzn]
          obtain ⟨c0, hc0, hc8⟩ : ∃ c0 : Nat, (zn : Int) % 8 = (c0 : Int) ∧ c0 < 8 := ⟨zn % 8, by omega, by omega⟩
          have w1 : IntKind.i64.wrap (c0 : Int) = (c0 : Int) := IntWalk.i64_in _ (by omega)
          have w2 : IntKind.i64.wrap (1 + (c0 : Int)) = 1 + (c0 : Int) := IntWalk.i64_in _ (by omega)
          have j0 : (0 : Int) ≤ (j : Int) := by omega
          have j1 : (j : Int) < (nt : Int) := by omega
          clear hz hzn hcell0
          go_wp2_with fail
          go_meet
          exact ⟨1 + c0, by simp, by omega, by omega, rfl⟩
        · have h0' : decide (0 < nt) = false := decide_eq_false h0
          go_wp2_with fail
          go_meet
          exact ⟨1, rfl, by omega, by omega, rfl⟩
      case rest =>
        obtain ⟨cc, rfl, hc1, hc8, rfl⟩ := hcut
        have HTH : Hid (ThRel wc l x.m k k (.bool false) (.int .i64 0) wc) := ⟨0, by omega, rfl, rfl, Below.refl _ _⟩
        go_wp2_with fail
        go_loopg [8, 9] k (fun j th i wr => ThRel wc l x.m k j th i wr)
        case atStart => exact HTH.out
        case round =>
          clear HTH
          obtain ⟨p, hpk, rfl, rfl, hbp⟩ := hrel
          by_cases hpl : p < k
          · have p0 : (0 : Int) ≤ (p : Int) := by omega
            have p1 : (p : Int) < (n : Int) := by omega
            have p2 : (p : Int) < (k : Int) := by omega
            have HBP := Lib.hid hbp
            have hL : Lies wr wr.heap.size 4 A n (ecs l) := (Y.out.below (hlow.trans (hbp.mono hlow.size))).more (Nat.le_trans hlow.size hbp.size)
            obtain ⟨b, o, y, rfl, hbB, hy, c0, c1, c2, c3⟩ := hL.entry (i := p) (by omega)
            obtain ⟨b', o', x', hA, _, hx', d0, d1, d2, d3⟩ := hL.entry (i := k) hlt
            injection hA with hA
            injection hA with hA1 hA2
            subst hA1 hA2
            rw [HX.out] at hx'
            injection hx' with hx'
            subst hx'
            have HY := Lib.hid hy
            have hmy := HM.out y (List.mem_of_getElem? hy)
            have hNX := thB_next hy x.m
            obtain ⟨tn, htn⟩ : ∃ tn, thB (l.take (p + 1)) x.m = tn := ⟨_, rfl⟩
            have HTN := Lib.hid htn
            rw [htn] at hNX
            clear hy hbp htn hL
            cases hth : thB (l.take p) x.m
            · rw [hth, Bool.false_or] at hNX
              by_cases hm : y.m = x.m
              · rw [decide_eq_true hm, Bool.true_and] at hNX
                rw [hm] at c0 c1 c2
                have KC : Hid (∀ W', Below wr.heap.size wr W' → (W'.cell? ⟨b, o + p * 4, none⟩ = some (.string x.m.k) ∧ W'.cell? ⟨b, o + p * 4 + 1, none⟩ = some (.int .u64 (x.m.s : Int)) ∧ W'.cell? ⟨b, o + p * 4 + 2, none⟩ = some (.bool x.m.g) ∧ W'.cell? ⟨b, o + p * 4 + 3, none⟩ = some (.string y.x)) ∧ W'.cell? ⟨b, o + k * 4, none⟩ = some (.string x.m.k) ∧ W'.cell? ⟨b, o + k * 4 + 1, none⟩ = some (.int .u64 (x.m.s : Int)) ∧ W'.cell? ⟨b, o + k * 4 + 2, none⟩ = some (.bool x.m.g)) := fun W' hb' =>
                  ⟨⟨(hb'.cell (p := ⟨b, o + p * 4, none⟩) hbB).trans c0, (hb'.cell (p := ⟨b, o + p * 4 + 1, none⟩) hbB).trans c1, (hb'.cell (p := ⟨b, o + p * 4 + 2, none⟩) hbB).trans c2, (hb'.cell (p := ⟨b, o + p * 4 + 3, none⟩) hbB).trans c3⟩, (hb'.cell (p := ⟨b, o + k * 4, none⟩) hbB).trans d0, (hb'.cell (p := ⟨b, o + k * 4 + 1, none⟩) hbB).trans d1, (hb'.cell (p := ⟨b, o + k * 4 + 2, none⟩) hbB).trans d2⟩
                have GF : Hid (∀ W', Below wr.heap.size wr W' → Calls Try.prog 29 #[.agg #[.string x.m.k, .int .u64 (x.m.s : Int), .bool x.m.g, .string y.x]] W' fun e w' => e = .returned (.bool tn) ∧ Below wr.heap.size wr w') := fun W' hb' => by
                  have q := fine_any y W' hmy.2.1 hmy.2.2
                  unfold En.v at q
                  rw [hm, ← hNX] at q
                  exact q.mono fun e w' ⟨he, hb2⟩ => ⟨he, hb'.trans (hb2.mono hb'.size)⟩
                have hd0 : Below wr.heap.size wr wr.drew := (Below.refl _ _).drew
                clear hm hNX c0 c1 c2 c3 d0 d1 d2 d3
                go_wp2_with fail
                go_region_held3 (fun W' => (W'.cell? ⟨b, o + p * 4, none⟩ = some (.string x.m.k) ∧ W'.cell? ⟨b, o + p * 4 + 1, none⟩ = some (.int .u64 (x.m.s : Int)) ∧ W'.cell? ⟨b, o + p * 4 + 2, none⟩ = some (.bool x.m.g) ∧ W'.cell? ⟨b, o + p * 4 + 3, none⟩ = some (.string y.x)) ∧ W'.cell? ⟨b, o + k * 4, none⟩ = some (.string x.m.k) ∧ W'.cell? ⟨b, o + k * 4 + 1, none⟩ = some (.int .u64 (x.m.s : Int)) ∧ W'.cell? ⟨b, o + k * 4 + 2, none⟩ = some (.bool x.m.g)) (first | exact KC.out _ hd0 | exact KC.out _ hb9)
                  (first
                    | (go_at_call 29; with_reducible refine Calls.mono (GF.out _ (by assumption)) ?_; rintro e w9 ⟨rfl, hb9⟩)
                    | fail)
                go_wp2_with fail
                go_roundg (k - (p + 1))
                case measure => omega
                case rel => exact ⟨p + 1, by omega, by go_num, by rw [HTN.out], HBP.out.trans (hb9.mono HBP.out.size)⟩
              · rw [decide_eq_false hm, Bool.false_and] at hNX
                subst hNX
                by_cases hk0 : y.m.k = x.m.k
                · rw [hk0] at c0
                  by_cases hs0 : y.m.s = x.m.s
                  · rw [hs0] at c1
                    have hg0 : y.m.g ≠ x.m.g := fun e => hm (by rw [show y.m = ⟨y.m.k, y.m.s, y.m.g⟩ from rfl, hk0, hs0, e])
                    have hg1 : (y.m.g == x.m.g) = false := by simpa using hg0
                    clear hm hs0 hk0 hg0
                    go_wp2_with fail
                    go_quiet (fail)
                    go_wp2_with fail
                    go_roundg (k - (p + 1))
                    case measure => omega
                    case rel => exact ⟨p + 1, by omega, by go_num, by rw [HTN.out], below_drewN HBP.out _⟩
                  · have hs1 : (((y.m.s : Nat) : Int) == ((x.m.s : Nat) : Int)) = false := by
                      rw [beq_eq_false_iff_ne]; omega
                    clear hm hs0 hk0
                    go_wp2_with fail
                    go_quiet (fail)
                    go_wp2_with fail
                    go_roundg (k - (p + 1))
                    case measure => omega
                    case rel => exact ⟨p + 1, by omega, by go_num, by rw [HTN.out], below_drewN HBP.out _⟩
                · have hks : (y.m.k.toList == x.m.k.toList) = false := by
                    rw [txt_eqB]; exact decide_eq_false hk0
                  clear hm hk0
                  go_wp2_with fail
                  go_quiet (fail)
                  go_wp2_with fail
                  go_roundg (k - (p + 1))
                  case measure => omega
                  case rel => exact ⟨p + 1, by omega, by go_num, by rw [HTN.out], below_drewN HBP.out _⟩
            · rw [hth, Bool.true_or] at hNX
              subst hNX
              go_wp2_with fail
              go_quiet (fail)
              go_wp2_with fail
              go_roundg (k - (p + 1))
              case measure => omega
              case rel => exact ⟨p + 1, by omega, by go_num, by rw [HTN.out], below_drewN HBP.out _⟩
          · obtain rfl : p = k := by omega
            have HT2 := Lib.hid (HT.out.below hbp)
            have hlow2 := HT2.out.low
            clear hbp
            obtain ⟨b, o, x', rfl, hbB, hx', _⟩ := Y.out.entry hlt
            rw [HX.out] at hx'
            injection hx' with hx'
            subst hx'
            have KC : Hid (∀ W', Below w.heap.size w W' → W'.cell? ⟨b, o + p * 4, none⟩ = some (.string x.m.k) ∧ W'.cell? ⟨b, o + p * 4 + 1, none⟩ = some (.int .u64 (x.m.s : Int)) ∧ W'.cell? ⟨b, o + p * 4 + 2, none⟩ = some (.bool x.m.g) ∧ W'.cell? ⟨b, o + p * 4 + 3, none⟩ = some (.string x.x)) := fun W' hb' => by
              obtain ⟨b', o', x', hA, _, hx', d0, d1, d2, d3⟩ := ((Y.out.below hb').more hb'.size).entry hlt
              injection hA with hA
              injection hA with hA1 hA2
              subst hA1 hA2
              rw [HX.out] at hx'
              injection hx' with hx'
              subst hx'
              exact ⟨d0, d1, d2, d3⟩
            have hmx := HM.out x (List.mem_of_getElem? HX.out)
            obtain ⟨c0, c1, c2, c3⟩ := KC.out wr hlow2
            have GF0 : ∀ W', Tb w W' t (bld (l.take (p + 1))) → Calls Try.prog 29 #[.agg #[.string x.m.k, .int .u64 (x.m.s : Int), .bool x.m.g, .string x.x]] W' fun e w' => e = .returned (.bool (fineE x)) ∧ Tb w w' t (bld (l.take (p + 1))) := fun W' hT' =>
              (fine_any x W' hmx.2.1 hmx.2.2).mono fun e w' ⟨he, hb2⟩ => ⟨he, hT'.below hb2⟩
            have hbl : (bld (l.take p)).length < 4096 := by
              have := bld_len (l.take p)
              rw [List.length_take] at this; omega
            obtain ⟨s1, s2⟩ := put_step hbl x cc hc1 hc8
            have PT0 := tb_put HT2.out x hmx.2.1 hmx.2.2 (cc : Int)
            rw [s1, s2, ← bld_take l p x HX.out, ← thB_bld] at PT0
            clear s1 s2 hbl
            obtain ⟨h, hh⟩ : ∃ h, thB (l.take p) x.m = h := ⟨_, rfl⟩
            rw [hh] at PT0 ⊢
            clear hh
            cases hf : fineE x
            · rw [hf] at GF0 PT0
              have GF := Lib.hid GF0
              clear GF0 hf
              have PT : Hid (Calls Try.prog 22 #[tp t, .agg #[.string x.m.k, .int .u64 (x.m.s : Int), .bool x.m.g, .string x.x], .int .i64 (cc : Int)] wr fun e w' => e = .returned (.int .i64 1) ∧ Tb w w' t (bld (l.take (p + 1)))) := PT0
              clear PT0
              go_wp2_with fail
              refine PT.out.mono ?_
              rintro e w6 ⟨rfl, hT6⟩
              obtain ⟨f0, f1, f2, f3⟩ := KC.out w6 hT6.low
              go_wp2_with (go_at_call 29; with_reducible refine Calls.mono (GF.out _ (by assumption)) ?_; rintro e w9 ⟨rfl, hT9⟩; obtain ⟨g0, g1, g2, g3⟩ := KC.out _ hT9.low)
              go_roundg (n - (p + 1))
              case measure => omega
              case rel => exact ⟨p + 1, by omega, by go_num, by assumption⟩
            · rw [hf] at GF0 PT0
              have GF := Lib.hid GF0
              clear GF0 hf
              cases h
              · have PT : Hid (Calls Try.prog 22 #[tp t, .agg #[.string x.m.k, .int .u64 (x.m.s : Int), .bool x.m.g, .string x.x], .int .i64 (cc : Int)] wr fun e w' => e = .returned (.int .i64 0) ∧ Tb w w' t (bld (l.take (p + 1)))) := PT0
                clear PT0
                go_wp2_with fail
                refine PT.out.mono ?_
                rintro e w6 ⟨rfl, hT6⟩
                obtain ⟨f0, f1, f2, f3⟩ := KC.out w6 hT6.low
                go_wp2_with (go_at_call 29; with_reducible refine Calls.mono (GF.out _ (by assumption)) ?_; rintro e w9 ⟨rfl, hT9⟩; obtain ⟨g0, g1, g2, g3⟩ := KC.out _ hT9.low)
                go_roundg (n - (p + 1))
                case measure => omega
                case rel => exact ⟨p + 1, by omega, by go_num, by assumption⟩
              · have PT : Hid (Calls Try.prog 22 #[tp t, .agg #[.string x.m.k, .int .u64 (x.m.s : Int), .bool x.m.g, .string x.x], .int .i64 (cc : Int)] wr fun e w' => e = .returned (.int .i64 8) ∧ Tb w w' t (bld (l.take (p + 1)))) := PT0
                clear PT0
                go_wp2_with fail
                refine PT.out.mono ?_
                rintro e w6 ⟨rfl, hT6⟩
                obtain ⟨f0, f1, f2, f3⟩ := KC.out w6 hT6.low
                go_wp2_with (go_at_call 29; with_reducible refine Calls.mono (GF.out _ (by assumption)) ?_; rintro e w9 ⟨rfl, hT9⟩; obtain ⟨g0, g1, g2, g3⟩ := KC.out _ hT9.low)
                go_roundg (n - (p + 1))
                case measure => omega
                case rel => exact ⟨p + 1, by omega, by go_num, by assumption⟩
    · obtain rfl : k = n := by omega
      have i1 : ¬ (k : Int) < (k : Int) := by omega
      rw [HL2.out] at hT
      have HT := Lib.hid hT
      clear hT hlt
      go_wp2_with fail
      go_ret
      exact ⟨t, rfl, HT.out⟩
end Go.Proofs.Ytopcnlophmplgaa
