/-
  The walk of TablesOrder.
-/
import Derived.Test.YtopcnlophmplgaaTLaw
import Derived.Test.YtopcnlophmplgaaStep
import Derived.Deep.RegionHeld3
import Derived.Deep.DeepCutAuto
namespace Go.Proofs.Ytopcnlophmplgaa
open Go.RowKit
set_option linter.unusedVariables false
set_option maxRecDepth 100000

/-- may x be, with none of its mark among the first p that may? -/
def FB (fx : Bool) (l : List En) (m : Mk) (p : Nat) : Bool := fx && !thB (l.take p) m
theorem FB_next (fx : Bool) {l : List En} {p : Nat} {y : En} (h : l[p]? = some y) (m : Mk) : FB fx l m (p + 1) = (FB fx l m p && !(decide (y.m = m) && fineE y)) := by
  unfold FB
  rw [thB_next h, Bool.not_or, Bool.and_assoc]
theorem FB_zero (fx : Bool) (l : List En) (m : Mk) : FB fx l m 0 = fx := by
  unfold FB; rw [List.take_zero]; show (fx && !false) = fx; simp
theorem bld_more (l : List En) (k : Nat) (x : En) (h : l[k]? = some x) : (bld (l.take (k + 1))).length = (bld (l.take k)).length + if FB (fineE x) l x.m k then 1 else 0 := by
  rw [bld_take l k x h, stepE_len, ← thB_bld]; rfl
/-- is e x? -/
def eqE (x e : En) : Bool := decide (e.m = x.m) && decide (e.x = x.x)
theorem first_in {l : List En} {k : Nat} {x : En} (h : l[k]? = some x) (hf : FB (fineE x) l x.m k = true) : (bld l).any (eqE x) = true := by
  unfold FB at hf
  rw [Bool.and_eq_true] at hf
  obtain ⟨h1, h2⟩ := hf
  have h3 : ¬ thereE (l.take k) x.m := fun q => by rw [(thB_iff _ _).2 q] at h2; cases h2
  have hF : First l k x := ⟨h, h1, fun j hj y hy hfy hm => h3 ⟨j, y, by rw [List.getElem?_take, if_pos hj]; exact hy, hfy, hm⟩⟩
  rw [List.any_eq_true]
  exact ⟨x, ((built l).2 x).2 ⟨k, hF⟩, by unfold eqE; simp⟩
theorem any_next {S : List En} {q : Nat} {e : En} (h : S[q]? = some e) (f : En → Bool) : (S.take (q + 1)).any f = ((S.take q).any f || f e) := by
  rw [List.take_add_one, h]; simp
def OrderRel (w4 : World) (l : List En) (n : Nat) (j : Nat) (s9 s10 : Value) (wr : World) : Prop :=
  ∃ k : Nat, k + j = n ∧ s10 = .int .i64 (k : Int) ∧ s9 = .int .i64 ((bld (l.take k)).length : Int) ∧ Below w4.heap.size w4 wr
def FirstRel (W : World) (fx : Bool) (l : List En) (m : Mk) (k : Nat) (j : Nat) (th i : Value) (wr : World) : Prop :=
  ∃ p, p + j = k ∧ i = .int .i64 (p : Int) ∧ th = .bool (FB fx l m p) ∧ Below W.heap.size W wr
def IsRel (W : World) (S : List En) (x : En) (N : Nat) (j : Nat) (is i : Value) (wr : World) : Prop :=
  ∃ p, p + j = N ∧ i = .int .i64 (p : Int) ∧ is = .bool ((S.take p).any (eqE x)) ∧ Below W.heap.size W wr
def RiseRel (W : World) (N : Nat) (j : Nat) (i : Value) (wr : World) : Prop :=
  ∃ q : Nat, 1 ≤ q ∧ j = N - q ∧ i = .int .i64 (q : Int) ∧ Below W.heap.size W wr

set_option maxHeartbeats 16000000 in
theorem tablesOrder_walk (A : Option Addr) (n c : Nat) (l : List En) (At : Option Addr) (nt ct : Nat) (ts : List UInt8) (fr : Nat) (w : World) (y : Lies w w.heap.size 4 A n (ecs l)) (hm : ∀ x ∈ l, x.m.s < 18446744073709551616 ∧ x.m.k.size ≤ 140737488351232 ∧ x.x.size ≤ 140737488351232) (hll : l.length = n) (hnc : n ≤ c) (hc : c ≤ 140737488351232)
    (yt : Lies w w.heap.size 1 At nt (ts.map bv)) (hntc : nt ≤ ct) (hct : ct ≤ 140737488351232) (hfr : fr < 256) :
    Calls Try.prog 5 #[.slice A n c, .slice At nt ct, .int .u8 (fr : Int)] w fun e w' => e = .returned (.bool true) ∧ Below w.heap.size w w' := by
  have Y : Hid (∀ W', Below w.heap.size w W' → Lies W' W'.heap.size 4 A n (ecs l)) := fun W' hb' => (y.below hb').more hb'.size
  have YT : Hid (∀ W', Below w.heap.size w W' → Lies W' W'.heap.size 1 At nt (ts.map bv)) := fun W' hb' => (yt.below hb').more hb'.size
  have HM := Lib.hid hm
  clear y yt
  go_enter Try.func5, Try.ntmps5
  go_wp2_with fail
  refine (alive7_any w).mono ?_
  rintro e w1 ⟨rfl, hb1⟩
  have H1 := Lib.hid hb1; clear hb1
  go_wp2_with fail
  refine (many_any A n c l w1 (Y.out w1 H1.out) hm (by omega)).mono ?_
  rintro e w2 ⟨b, rfl, hb, hb2⟩
  have H2 := Lib.hid (H1.out.trans (hb2.mono H1.out.size)); clear hb2
  have HAL : Hid (Calls Try.prog 26 #[] w2 fun e w' => e = .returned (.bool true) ∧ Below w.heap.size w w') := (alive7_any w2).mono fun e w' ⟨he, hb'⟩ => ⟨he, H2.out.trans (hb'.mono H2.out.size)⟩
  clear hm
  cases b
  · obtain ⟨hn, hsz⟩ := hb rfl
    clear hb
    by_cases hk : 1000 < nt
    · have i1 : (1000 : Int) < (nt : Int) := by omega
      go_wp2_with fail
      refine HAL.out.mono ?_
      rintro e w3 ⟨rfl, hb3⟩
      have HF := Lib.hid hb3; clear hb3
      go_wp2_with fail
      go_ret
      exact ⟨rfl, HF.out⟩
    · have i1 : decide ((1000 : Int) < (nt : Int)) = false := decide_eq_false (by omega)
      have HP := Lib.hid (put_all A n c l At nt ct ts w2 (Y.out w2 H2.out) HM.out hn (YT.out w2 H2.out) (by omega))
      clear HAL
      go_wp2_with fail
      refine HP.out.mono ?_
      rintro e w3 ⟨t, rfl, hT⟩
      have HLW := Lib.hid (H2.out.trans (hT.low.mono H2.out.size))
      obtain ⟨S, hS⟩ : ∃ S, bld l = S := ⟨_, rfl⟩
      have hSl : S.length ≤ 200 := by rw [← hS]; have := bld_len l; omega
      have hSf := hT.fine
      have hSr := hT.rise
      rw [hS] at hT hSf hSr
      have HT := Lib.hid hT
      have HSF := Lib.hid hSf; have HSR := Lib.hid hSr; have HS := Lib.hid hS
      clear hT hS hSf hSr HP
      have hF1 := tb_from HT.out noM 1000
      rw [fromE_none HSF.out hSl, noM_v] at hF1
      have HF1 := Lib.hid hF1
      clear hF1
      go_wp2_with fail
      refine HF1.out.mono ?_
      rintro e w4 ⟨v4, rfl, ho4, hb4⟩
      obtain ⟨A4, c4, rfl, hc4, hm4, _⟩ := own_shape ho4
      have hl4 := Lies.of_own ho4
      have H4 := Lib.hid (HLW.out.trans (hb4.mono HLW.out.size))
      have HT := Lib.hid (HT.out.below hb4)
      have L4 := Lib.hid hl4
      clear ho4 hb4 hl4 HF1
      obtain ⟨N, hN⟩ : ∃ N, S.length = N := ⟨_, rfl⟩
      rw [hN] at L4 hc4 hSl ⊢
      have HN := Lib.hid hN
      have HR : Hid (OrderRel w4 l n n (.int .i64 0) (.int .i64 0) w4) := ⟨0, by omega, rfl, rfl, Below.refl _ _⟩
      clear hN
      go_wp2_with fail
      go_loopg [9, 10] n (fun j a b wr => OrderRel w4 l n j a b wr)
      case atStart => exact HR.out
      case round =>
        clear HR
        obtain ⟨k, hkn, rfl, rfl, hbr⟩ := hrel
        have HBR := Lib.hid hbr
        obtain ⟨nn, hnn⟩ : ∃ nn, (bld (l.take k)).length = nn := ⟨_, rfl⟩
        have hnk : nn ≤ k := by rw [← hnn]; have := bld_len (l.take k); rw [List.length_take] at this; omega
        rw [hnn]
        have HNN := Lib.hid hnn
        clear hnn
        by_cases hlt : k < n
        · have k0 : (0 : Int) ≤ (k : Int) := by omega
          have k1 : (k : Int) < (n : Int) := by omega
          obtain ⟨b, o, x, rfl, hbB, hx, c0, c1, c2, c3⟩ := (Y.out wr (H4.out.trans (hbr.mono H4.out.size))).entry hlt
          have HX := Lib.hid hx
          have hmx := HM.out x (List.mem_of_getElem? hx)
          have HFX := Lib.hid (fine_any x wr hmx.2.1 hmx.2.2)
          unfold En.v at HFX
          obtain ⟨fx, hfx⟩ : ∃ fx, fineE x = fx := ⟨_, rfl⟩
          rw [hfx] at HFX
          have HFF := Lib.hid hfx
          clear hx hbr hfx
          go_wp2_with fail
          refine HFX.out.mono ?_
          rintro e w5 ⟨rfl, hb5⟩
          have H5 := Lib.hid (HBR.out.trans (hb5.mono HBR.out.size))
          have HTH : Hid (FirstRel w5 fx l x.m k k (.bool fx) (.int .i64 0) w5) := ⟨0, by omega, rfl, by rw [FB_zero], Below.refl _ _⟩
          clear hb5 c0 c1 c2 c3 HFX
          go_wp2_with fail
          go_loopg [11, 12] k (fun j th i wr => FirstRel w5 fx l x.m k j th i wr)
          case atStart => exact HTH.out
          case round =>
            clear HTH
            obtain ⟨p, hpk, rfl, rfl, hbp⟩ := hrel
            obtain ⟨fv, hfv⟩ : ∃ fv, FB fx l x.m p = fv := ⟨_, rfl⟩
            rw [hfv]
            have HFV := Lib.hid hfv
            have HBP := Lib.hid hbp
            clear hfv hbp
            by_cases hpl : p < k
            · have p0 : (0 : Int) ≤ (p : Int) := by omega
              have p1 : (p : Int) < (n : Int) := by omega
              have p2 : (p : Int) < (k : Int) := by omega
              have hL := Y.out wr (H4.out.trans ((H5.out.trans (HBP.out.mono H5.out.size)).mono H4.out.size))
              obtain ⟨b', o', y, hA, hbB', hy, c0, c1, c2, c3⟩ := hL.entry (i := p) (by omega)
              injection hA with hA
              injection hA with hA1 hA2
              subst hA1 hA2
              obtain ⟨b', o', x', hA, _, hx', d0, d1, d2, d3⟩ := hL.entry (i := k) hlt
              injection hA with hA
              injection hA with hA1 hA2
              subst hA1 hA2
              rw [HX.out] at hx'
              injection hx' with hx'
              subst hx'
              have hmy := HM.out y (List.mem_of_getElem? hy)
              have hNX := FB_next fx hy x.m
              rw [HFV.out] at hNX
              clear hy hL
              cases fv
              · rw [Bool.false_and] at hNX
                have HNX := Lib.hid hNX
                clear hNX
                go_wp2_with fail
                go_quiet (fail)
                go_wp2_with fail
                go_roundg (k - (p + 1))
                case measure => omega
                case rel => exact ⟨p + 1, by omega, by go_num, by rw [HNX.out], below_drewN HBP.out _⟩
              · rw [Bool.true_and] at hNX
                by_cases hm : y.m = x.m
                · rw [decide_eq_true hm, Bool.true_and] at hNX
                  rw [hm] at c0 c1 c2
                  have KC : Hid (∀ W', Below wr.heap.size wr W' → (W'.cell? ⟨b, o + p * 4, none⟩ = some (.string x.m.k) ∧ W'.cell? ⟨b, o + p * 4 + 1, none⟩ = some (.int .u64 (x.m.s : Int)) ∧ W'.cell? ⟨b, o + p * 4 + 2, none⟩ = some (.bool x.m.g) ∧ W'.cell? ⟨b, o + p * 4 + 3, none⟩ = some (.string y.x)) ∧ W'.cell? ⟨b, o + k * 4, none⟩ = some (.string x.m.k) ∧ W'.cell? ⟨b, o + k * 4 + 1, none⟩ = some (.int .u64 (x.m.s : Int)) ∧ W'.cell? ⟨b, o + k * 4 + 2, none⟩ = some (.bool x.m.g)) := fun W' hb' =>
                    ⟨⟨(hb'.cell (p := ⟨b, o + p * 4, none⟩) hbB').trans c0, (hb'.cell (p := ⟨b, o + p * 4 + 1, none⟩) hbB').trans c1, (hb'.cell (p := ⟨b, o + p * 4 + 2, none⟩) hbB').trans c2, (hb'.cell (p := ⟨b, o + p * 4 + 3, none⟩) hbB').trans c3⟩, (hb'.cell (p := ⟨b, o + k * 4, none⟩) hbB').trans d0, (hb'.cell (p := ⟨b, o + k * 4 + 1, none⟩) hbB').trans d1, (hb'.cell (p := ⟨b, o + k * 4 + 2, none⟩) hbB').trans d2⟩
                  obtain ⟨fy, hfy⟩ : ∃ fy, fineE y = fy := ⟨_, rfl⟩
                  rw [hfy] at hNX
                  have GF : Hid (∀ W', Below wr.heap.size wr W' → Calls Try.prog 29 #[.agg #[.string x.m.k, .int .u64 (x.m.s : Int), .bool x.m.g, .string y.x]] W' fun e w' => e = .returned (.bool fy) ∧ Below wr.heap.size wr w') := fun W' hb' => by
                    have q := fine_any y W' hmy.2.1 hmy.2.2
                    unfold En.v at q
                    rw [hm, hfy] at q
                    exact q.mono fun e w' ⟨he, hb2⟩ => ⟨he, hb'.trans (hb2.mono hb'.size)⟩
                  have hd0 : Below wr.heap.size wr wr.drew := (Below.refl _ _).drew
                  have HNX := Lib.hid hNX
                  clear hm hNX hfy c0 c1 c2 c3 d0 d1 d2 d3
                  go_wp2_with fail
                  go_region_held3 (fun W' => (W'.cell? ⟨b, o + p * 4, none⟩ = some (.string x.m.k) ∧ W'.cell? ⟨b, o + p * 4 + 1, none⟩ = some (.int .u64 (x.m.s : Int)) ∧ W'.cell? ⟨b, o + p * 4 + 2, none⟩ = some (.bool x.m.g) ∧ W'.cell? ⟨b, o + p * 4 + 3, none⟩ = some (.string y.x)) ∧ W'.cell? ⟨b, o + k * 4, none⟩ = some (.string x.m.k) ∧ W'.cell? ⟨b, o + k * 4 + 1, none⟩ = some (.int .u64 (x.m.s : Int)) ∧ W'.cell? ⟨b, o + k * 4 + 2, none⟩ = some (.bool x.m.g)) (first | exact KC.out _ hd0 | exact KC.out _ hb9)
                    (first
                      | (go_at_call 29; with_reducible refine Calls.mono (GF.out _ (by assumption)) ?_; rintro e w9 ⟨rfl, hb9⟩)
                      | fail)
                  go_wp2_with fail
                  go_roundg (k - (p + 1))
                  case measure => omega
                  case rel => exact ⟨p + 1, by omega, by go_num, by rw [HNX.out], HBP.out.trans (hb9.mono HBP.out.size)⟩
                · rw [decide_eq_false hm, Bool.false_and, Bool.not_false] at hNX
                  have HNX := Lib.hid hNX
                  clear hNX
                  by_cases hk0 : y.m.k = x.m.k
                  · rw [hk0] at c0
                    by_cases hs0 : y.m.s = x.m.s
                    · rw [hs0] at c1
                      have hg0 : y.m.g ≠ x.m.g := fun e => hm (by rw [show y.m = ⟨y.m.k, y.m.s, y.m.g⟩ from rfl, hk0, hs0, e])
                      have hg1 : (y.m.g == x.m.g) = false := by simpa using hg0
                      clear hm hs0 hk0 hg0
                      go_wp2_with fail
                      go_quiet (fail)
                      go_wp2_with fail
                      go_roundg (k - (p + 1))
                      case measure => omega
                      case rel => exact ⟨p + 1, by omega, by go_num, by rw [HNX.out], below_drewN HBP.out _⟩
                    · have hs1 : (((y.m.s : Nat) : Int) == ((x.m.s : Nat) : Int)) = false := by
                        rw [beq_eq_false_iff_ne]; omega
                      clear hm hs0 hk0
                      go_wp2_with fail
                      go_quiet (fail)
                      go_wp2_with fail
                      go_roundg (k - (p + 1))
                      case measure => omega
                      case rel => exact ⟨p + 1, by omega, by go_num, by rw [HNX.out], below_drewN HBP.out _⟩
                  · have hks : (y.m.k.toList == x.m.k.toList) = false := by
                      rw [txt_eqB]; exact decide_eq_false hk0
                    clear hm hk0
                    go_wp2_with fail
                    go_quiet (fail)
                    go_wp2_with fail
                    go_roundg (k - (p + 1))
                    case measure => omega
                    case rel => exact ⟨p + 1, by omega, by go_num, by rw [HNX.out], below_drewN HBP.out _⟩
            · obtain rfl : p = k := by omega
              have p2 : ¬ (p : Int) < (p : Int) := by omega
              have H6 := Lib.hid (H5.out.trans (HBP.out.mono H5.out.size))
              have HTI : Hid (IsRel wr S x N N (.bool false) (.int .i64 0) wr) := ⟨0, by omega, rfl, rfl, Below.refl _ _⟩
              go_wp2_with fail
              go_loopg [13, 14] N (fun j is i wq => IsRel wr S x N j is i wq)
              case atStart => exact HTI.out
              case round =>
                clear HTI
                obtain ⟨q, hqN, rfl, rfl, hbq⟩ := hrel
                obtain ⟨av, hav⟩ : ∃ av, (S.take q).any (eqE x) = av := ⟨_, rfl⟩
                rw [hav]
                have HBQ := Lib.hid hbq
                have H7 := Lib.hid (H6.out.trans (hbq.mono H6.out.size))
                have HAV := Lib.hid hav
                clear hav hbq
                by_cases hq : q < N
                · have q0 : (0 : Int) ≤ (q : Int) := by omega
                  have q1 : (q : Int) < (N : Int) := by omega
                  obtain ⟨b2, o2, e, rfl, _, he, f0, f1, f2, f3⟩ := ((L4.out.below H7.out).more H7.out.size).entry hq
                  obtain ⟨b', o', x', hA, _, hx', d0, d1, d2, d3⟩ := (Y.out wr (H4.out.trans (H7.out.mono H4.out.size))).entry hlt
                  injection hA with hA
                  injection hA with hA1 hA2
                  subst hA1 hA2
                  rw [HX.out] at hx'
                  injection hx' with hx'
                  subst hx'
                  have hNX := any_next he (eqE x)
                  rw [HAV.out] at hNX
                  clear he
                  cases av
                  · rw [Bool.false_or] at hNX
                    by_cases hk0 : e.m.k = x.m.k
                    · by_cases hs0 : e.m.s = x.m.s
                      · by_cases hg0 : e.m.g = x.m.g
                        · have hme : e.m = x.m := by rw [show e.m = ⟨e.m.k, e.m.s, e.m.g⟩ from rfl, hk0, hs0, hg0]
                          rw [hk0] at f0
                          rw [hs0] at f1
                          rw [hg0] at f2
                          by_cases hx0 : e.x = x.x
                          · have HNX : Hid ((S.take (q + 1)).any (eqE x) = true) := hNX.trans (by unfold eqE; rw [decide_eq_true hme, decide_eq_true hx0]; rfl)
                            rw [hx0] at f3
                            clear hNX hme hk0 hs0 hg0 hx0
                            go_wp2_with fail
                            go_quiet (fail)
                            go_wp2_with fail
                            go_roundg (N - (q + 1))
                            case measure => omega
                            case rel => exact ⟨q + 1, by omega, by go_num, by rw [HNX.out], below_drewN HBQ.out _⟩
                          · have HNX : Hid ((S.take (q + 1)).any (eqE x) = false) := hNX.trans (by unfold eqE; rw [decide_eq_false hx0, Bool.and_false])
                            have hxs : (e.x.toList == x.x.toList) = false := by rw [txt_eqB]; exact decide_eq_false hx0
                            clear hNX hme hk0 hs0 hg0 hx0
                            go_wp2_with fail
                            go_quiet (fail)
                            go_wp2_with fail
                            go_roundg (N - (q + 1))
                            case measure => omega
                            case rel => exact ⟨q + 1, by omega, by go_num, by rw [HNX.out], below_drewN HBQ.out _⟩
                        · have HNX : Hid ((S.take (q + 1)).any (eqE x) = false) := hNX.trans (by unfold eqE; rw [decide_eq_false (fun q => hg0 (by rw [q])), Bool.false_and])
                          rw [hk0] at f0
                          rw [hs0] at f1
                          have hg1 : (e.m.g == x.m.g) = false := by simpa using hg0
                          clear hNX hk0 hs0 hg0
                          go_wp2_with fail
                          go_quiet (fail)
                          go_wp2_with fail
                          go_roundg (N - (q + 1))
                          case measure => omega
                          case rel => exact ⟨q + 1, by omega, by go_num, by rw [HNX.out], below_drewN HBQ.out _⟩
                      · have HNX : Hid ((S.take (q + 1)).any (eqE x) = false) := hNX.trans (by unfold eqE; rw [decide_eq_false (fun q => hs0 (by rw [q])), Bool.false_and])
                        rw [hk0] at f0
                        have hs1 : (((e.m.s : Nat) : Int) == ((x.m.s : Nat) : Int)) = false := by
                          rw [beq_eq_false_iff_ne]; omega
                        clear hNX hk0 hs0
                        go_wp2_with fail
                        go_quiet (fail)
                        go_wp2_with fail
                        go_roundg (N - (q + 1))
                        case measure => omega
                        case rel => exact ⟨q + 1, by omega, by go_num, by rw [HNX.out], below_drewN HBQ.out _⟩
                    · have HNX : Hid ((S.take (q + 1)).any (eqE x) = false) := hNX.trans (by unfold eqE; rw [decide_eq_false (fun q => hk0 (by rw [q])), Bool.false_and])
                      have hks : (e.m.k.toList == x.m.k.toList) = false := by
                        rw [txt_eqB]; exact decide_eq_false hk0
                      clear hNX hk0
                      go_wp2_with fail
                      go_quiet (fail)
                      go_wp2_with fail
                      go_roundg (N - (q + 1))
                      case measure => omega
                      case rel => exact ⟨q + 1, by omega, by go_num, by rw [HNX.out], below_drewN HBQ.out _⟩
                  · rw [Bool.true_or] at hNX
                    have HNX := Lib.hid hNX
                    clear hNX
                    go_wp2_with fail
                    go_quiet (fail)
                    go_wp2_with fail
                    go_roundg (N - (q + 1))
                    case measure => omega
                    case rel => exact ⟨q + 1, by omega, by go_num, by rw [HNX.out], below_drewN HBQ.out _⟩
                · obtain rfl : q = N := by omega
                  have q1 : ¬ (q : Int) < (q : Int) := by omega
                  have HB2 : Hid ((bld (l.take (p + 1))).length = nn + if fv then 1 else 0) := by
                    have h := bld_more l p x HX.out
                    rw [HFF.out, HFV.out, HNN.out] at h; exact h
                  cases fv
                  · go_wp2_with fail
                    go_roundg (n - (p + 1))
                    case measure => omega
                    case rel => exact ⟨p + 1, by omega, by go_num, by rw [HB2.out]; rfl, H7.out⟩
                  · have hav : av = true := by
                      have h := first_in HX.out (by rw [HFF.out]; exact HFV.out)
                      rw [HS.out, ← List.take_of_length_le (l := S) (i := q) (by have := HN.out; omega), HAV.out] at h; exact h
                    subst hav
                    go_wp2_with fail
                    go_roundg (n - (p + 1))
                    case measure => omega
                    case rel => exact ⟨p + 1, by omega, by go_num, by rw [HB2.out]; go_num, H7.out⟩
        · obtain rfl : k = n := by omega
          have k1 : ¬ (k : Int) < (k : Int) := by omega
          obtain rfl : nn = N := by rw [← HNN.out, List.take_of_length_le (by omega), HS.out]; exact HN.out
          have HR4 : Hid (RiseRel wr nn (nn - 1) (.int .i64 1) wr) := ⟨1, Nat.le_refl _, rfl, rfl, Below.refl _ _⟩
          clear hlt
          go_wp2_with fail
          go_loopg [15] (nn - 1) (fun j i wq => RiseRel wr nn j i wq)
          case atStart => exact HR4.out
          case round =>
            clear HR4
            obtain ⟨q, hq1, rfl, rfl, hbq⟩ := hrel
            have HBQ := Lib.hid hbq
            have H7 := Lib.hid (HBR.out.trans (hbq.mono HBR.out.size))
            clear hbq
            by_cases hq : q < nn
            · have q0 : (0 : Int) ≤ (q : Int) := by omega
              have q2 : (q : Int) < (nn : Int) := by omega
              obtain ⟨p, hp⟩ : ∃ p, q = p + 1 := ⟨q - 1, by omega⟩
              have hpi : (q : Int) - 1 = (p : Int) := by omega
              have hwp : IntKind.i64.wrap (p : Int) = (p : Int) := IntWalk.i64_in _ (by omega)
              have p0 : (0 : Int) ≤ (p : Int) := by omega
              have p1 : (p : Int) < (nn : Int) := by omega
              have hpl : p < nn := by omega
              have hL := (L4.out.below H7.out).more H7.out.size
              obtain ⟨b2, o2, e0, rfl, hbB, hu, c0, c1, c2, _⟩ := hL.entry hpl
              obtain ⟨b', o', e1, hA, _, hu1, d0, d1, d2, _⟩ := hL.entry hq
              injection hA with hA
              injection hA with hA1 hA2
              subst hA1 hA2
              have hz0 := HSR.out.ne (by omega) hu hu1
              have KC : Hid (∀ W', Below wr.heap.size wr W' → (W'.cell? ⟨b2, o2 + p * 4, none⟩ = some (.string e0.m.k) ∧ W'.cell? ⟨b2, o2 + p * 4 + 1, none⟩ = some (.int .u64 (e0.m.s : Int)) ∧ W'.cell? ⟨b2, o2 + p * 4 + 2, none⟩ = some (.bool e0.m.g)) ∧ W'.cell? ⟨b2, o2 + q * 4, none⟩ = some (.string e1.m.k) ∧ W'.cell? ⟨b2, o2 + q * 4 + 1, none⟩ = some (.int .u64 (e1.m.s : Int)) ∧ W'.cell? ⟨b2, o2 + q * 4 + 2, none⟩ = some (.bool e1.m.g)) := fun W' hb' =>
                ⟨⟨(hb'.cell (p := ⟨b2, o2 + p * 4, none⟩) hbB).trans c0, (hb'.cell (p := ⟨b2, o2 + p * 4 + 1, none⟩) hbB).trans c1, (hb'.cell (p := ⟨b2, o2 + p * 4 + 2, none⟩) hbB).trans c2⟩, (hb'.cell (p := ⟨b2, o2 + q * 4, none⟩) hbB).trans d0, (hb'.cell (p := ⟨b2, o2 + q * 4 + 1, none⟩) hbB).trans d1, (hb'.cell (p := ⟨b2, o2 + q * 4 + 2, none⟩) hbB).trans d2⟩
              have HC0 : ∀ W', Below wr.heap.size wr W' → Calls Try.prog 30 #[.agg #[.string e0.m.k, .int .u64 (e0.m.s : Int), .bool e0.m.g], .agg #[.string e1.m.k, .int .u64 (e1.m.s : Int), .bool e1.m.g]] W' fun e w' => e = .returned (.int .i64 (cmpM e0.m e1.m)) ∧ Below wr.heap.size wr w' := fun W' hb' => (cmp_any e0.m e1.m W').mono fun e w' ⟨he, hb2⟩ => ⟨he, hb'.trans (hb2.mono hb'.size)⟩
              obtain ⟨z, hz⟩ : ∃ z, cmpM e0.m e1.m = z := ⟨_, rfl⟩
              rw [hz] at hz0 HC0
              have z1 : ¬ (0 : Int) ≤ z := by omega
              have HC := Lib.hid HC0
              have hd0 : Below wr.heap.size wr wr.drew := (Below.refl _ _).drew
              clear hz HC0 hu hu1 c0 c1 c2 d0 d1 d2 hL hp hz0
              go_wp2_with fail
              go_region_held3 (fun W' => (W'.cell? ⟨b2, o2 + p * 4, none⟩ = some (.string e0.m.k) ∧ W'.cell? ⟨b2, o2 + p * 4 + 1, none⟩ = some (.int .u64 (e0.m.s : Int)) ∧ W'.cell? ⟨b2, o2 + p * 4 + 2, none⟩ = some (.bool e0.m.g)) ∧ W'.cell? ⟨b2, o2 + q * 4, none⟩ = some (.string e1.m.k) ∧ W'.cell? ⟨b2, o2 + q * 4 + 1, none⟩ = some (.int .u64 (e1.m.s : Int)) ∧ W'.cell? ⟨b2, o2 + q * 4 + 2, none⟩ = some (.bool e1.m.g)) (first | exact KC.out _ hd0 | exact KC.out _ hb9)
                (first
                  | (go_at_call 30; with_reducible refine Calls.mono (HC.out _ (by assumption)) ?_; rintro e w9 ⟨rfl, hb9⟩)
                  | fail)
              go_wp2_with fail
              go_roundg (nn - (q + 1))
              case measure => omega
              case rel => exact ⟨q + 1, by omega, rfl, by go_num, HBQ.out.trans (hb9.mono HBQ.out.size)⟩
            · have q2 : ¬ (q : Int) < (nn : Int) := by omega
              have HT7 := Lib.hid (HT.out.below H7.out)
              have HLN := Lib.hid (tb_len HT7.out)
              rw [HN.out] at HLN
              clear hq
              go_upto_if 132 with (go_at_call 25; refine HLN.out.mono ?_; rintro e w9 ⟨rfl, rfl⟩)
              go_cut [16] (fun s16 wx => ∃ kk : Nat, s16 = .int .i64 (kk : Int) ∧ kk ≤ nn ∧ wx = wr)
              case first =>
                by_cases h0 : 0 < nn
                · obtain ⟨j, hj, hj2⟩ : ∃ j : Nat, (fr : Int).tmod (nn : Int) = (j : Int) ∧ j < nn := ⟨fr % nn, by rw [Int.tmod_eq_emod_of_nonneg (by omega)]; exact (Int.natCast_emod fr nn).symm, Nat.mod_lt _ h0⟩
                  have w1 : IntKind.i64.wrap (fr : Int) = (fr : Int) := IntWalk.i64_in _ (by omega)
                  go_wp2_with fail
                  go_meet
                  exact ⟨j, rfl, by omega, rfl⟩
                · have h0' : decide (0 < nn) = false := decide_eq_false h0
                  go_wp2_with fail
                  go_meet
                  exact ⟨0, rfl, by omega, rfl⟩
              case rest =>
                obtain ⟨kk, rfl, hkk, rfl⟩ := hcut
                obtain ⟨i0, hi, hz0, hz1, hz2⟩ := info_parts entry_info
                have HO3 : Hid (Lies wc wc.heap.size 4 A4 nn (ecs S)) := (L4.out.below H7.out).more H7.out.size
                have LT : Hid (∀ W, Below wc.heap.size wc W → Lies W wc.heap.size 4 A4 kk (ecs (S.take kk))) := fun W h => by
                  have q := (HO3.out.below h).takeE (m := kk) (by omega)
                  rw [ecs_take] at q; exact q
                have LD : Hid (∀ W, Below wc.heap.size wc W → Lies W wc.heap.size 4 (cutE A4 c4 kk) (nn - kk) (ecs (S.drop kk))) := fun W h => by
                  have q := (HO3.out.below h).cutE (m := kk) (c := c4) (by omega) hc4
                  rw [ecs_drop] at q; exact q
                have r1 : ∀ W, (Instr.slice 57 (.slice A4 nn c4) none (some (.int .i64 (kk : Int))) none).run Try.prog W = .ok (.slice A4 kk c4) W := fun W => run_headE W _ nn c4 kk (by omega)
                have r2 : ∀ W, (Instr.slice 57 (.slice A4 nn c4) (some (.int .i64 (kk : Int))) none none).run Try.prog W = .ok (.slice (cutE A4 c4 kk) (nn - kk) (c4 - kk)) W := fun W => run_cutE W A4 nn c4 kk (by omega)
                have HDT : Hid (ecs (S.drop kk ++ S.take kk) = ecs (S.drop kk) ++ ecs (S.take kk)) := by unfold Hid; simp [ecs]
                have HMB : Hid (∀ x ∈ S.drop kk ++ S.take kk, x.m.s < 18446744073709551616 ∧ x.m.k.size ≤ 140737488351232 ∧ x.x.size ≤ 140737488351232) := fun x hx => by
                  have hxS : x ∈ S := by
                    rcases List.mem_append.1 hx with h | h
                    · exact (List.drop_sublist _ _).mem h
                    · exact (List.take_sublist _ _).mem h
                  rw [← HS.out] at hxS
                  obtain ⟨i, hF⟩ := ((built l).2 x).1 hxS
                  exact HM.out x (List.mem_of_getElem? hF.1)
                have hl0 : Below wc.heap.size wc wc.drew := (Below.refl _ wc).drew
                go_wp2_with fail
                go_region_held3 (fun W => True) (exact trivial)
                  (first
                    | (refine step_app _ (by rfl) (.const (.slice none 0 0)) (.tmp 139) 57 (by rfl) wc.heap.size 48 i0 _ 4 48 Try.underlying57 hi hz0 hz1 hz2 rfl (by decide) (.slice none 0 0) 0 [] (by rfl) (World.ownsRow_nil _ _ _ _) wc.heap.size (cutE A4 c4 kk) (nn - kk) (c4 - kk) (ecs (S.drop kk)) (by rfl) (LD.out _ hl0) (ecs_one _) (by unfold maxLen; omega) (by omega) (Nat.le_refl _) ?_; intro v5 w5 hown5 hg5 _; have hl5 : Below wc.heap.size wc w5 := hl0.grown hg5 (Nat.le_refl _) (by simp [Value.ownBlock]); rw [Nat.zero_add, List.nil_append] at hown5; obtain ⟨A5, c5, rfl, _⟩ := own_shape hown5)
                    | (refine step_app _ (by rfl) (.tmp 140) (.tmp 143) 57 (by rfl) wc.heap.size 48 i0 _ 4 48 Try.underlying57 hi hz0 hz1 hz2 rfl (by decide) (.slice A5 (nn - kk) c5) (nn - kk) (ecs (S.drop kk)) (by rfl) hown5 wc.heap.size A4 kk c4 (ecs (S.take kk)) (by rfl) (LT.out _ hl5) (ecs_one _) (by unfold maxLen; omega) (by omega) hl5.size ?_; intro v6 w6 hown6 hg6 _; have hl6 : Below wc.heap.size wc w6 := hl5.grown hg6 hl5.size (fun j hj => (hown5.lt j hj).1); rw [show nn - kk + kk = nn from (by omega), ← HDT.out] at hown6; obtain ⟨A6, c6, rfl, _⟩ := own_shape hown6)
                    | (go_at_call 28; with_reducible refine Calls.mono (put_all A6 nn c6 (S.drop kk ++ S.take kk) none 0 0 [] w6 (Lies.of_own hown6) HMB.out hSl (Lies.none_ _ _ _ _) (by decide)) ?_; rintro e w7 ⟨tb, rfl, hT7⟩)
                    | fail)
                have hb78 := hl6.trans (hT7.low.mono hl6.size)
                have H8 := Lib.hid (H7.out.trans (hb78.mono H7.out.size))
                have HTA := Lib.hid (HT7.out.below hb78)
                rw [bld_turn HSR.out HSF.out kk] at hT7
                have HTB := Lib.hid hT7
                have L8 := Lib.hid ((L4.out.below H8.out).more H8.out.size)
                have hF3 := tb_from HTB.out noM 1000
                rw [fromE_none HSF.out (by rw [HN.out]; omega), noM_v, HN.out] at hF3
                have HF3 := Lib.hid hF3
                clear hl0 hl6 hT7 hb78 LT LD HO3 r1 r2 hF3
                go_wp2_with fail
                refine HF3.out.mono ?_
                rintro e w8 ⟨v8, rfl, ho8, hb8⟩
                obtain ⟨A8, c8, rfl, hc8, hm8, _⟩ := own_shape ho8
                have L48 := Lib.hid ((L8.out.below hb8).more hb8.size)
                have HSm := Lib.hid (sameE_yes (A := A8) (A2 := A4) (c := c8) (c2 := c4) (Lies.of_own ho8) L48.out (by omega))
                have HTA := Lib.hid (HTA.out.below hb8)
                have HTB := Lib.hid (HTB.out.below hb8)
                have H9 := Lib.hid (H8.out.trans (hb8.mono H8.out.size))
                clear ho8 hb8 HF3
                go_wp2_with fail
                refine HSm.out.mono ?_
                rintro e w9 ⟨rfl, hb9⟩
                have HBA := Lib.hid (tb_bytes (HTA.out.below hb9))
                have HBB := Lib.hid (tb_bytes (HTB.out.below hb9))
                have H10 := Lib.hid (H4.out.trans ((H9.out.trans (hb9.mono H9.out.size)).mono H4.out.size))
                clear hb9
                go_wp2_with fail
                refine HBA.out.mono ?_
                rintro e wx ⟨rfl, rfl⟩
                go_wp2_with fail
                refine HBB.out.mono ?_
                rintro e wx ⟨rfl, rfl⟩
                go_wp2_with fail
                go_ret
                exact ⟨rfl, H10.out⟩
  · go_wp2_with fail
    refine HAL.out.mono ?_
    rintro e w3 ⟨rfl, hb3⟩
    have HF := Lib.hid hb3; clear hb3
    go_wp2_with fail
    go_ret
    exact ⟨rfl, HF.out⟩
end Go.Proofs.Ytopcnlophmplgaa
