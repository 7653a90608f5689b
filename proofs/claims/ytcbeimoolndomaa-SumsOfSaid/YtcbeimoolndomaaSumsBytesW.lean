/-
  The walk of SumsBytes.
-/
import Derived.Test.YtcbeimoolndomaaLaw2B
namespace Go.Proofs.Ytcbeimoolndomaa
open Go.RowKit
set_option linter.unusedVariables false

theorem arr4_info : (Try.prog.info? 27).map (·.size) = some 4 := by kernel_rfl
/-- a whole array of four, read -/
theorem wpList_load4 {ops : Array Oper} {rest : List Oper} {o : Oper} {a : Act} {w : World} {Q : Exit → Act → World → Prop} (hgd : o.guard = none) (x : Operand) (ho : o.op = .load 27 x)
    (g : Nat) (hx : a.eval x = .pointer (some ⟨g, 0, none⟩)) (T : List Nat) (hg : Tab w g 27 T) (hl : T.length = 4)
    (h : wpList Try.prog ops Q rest (a.put o.dst (.agg (arr T))) w) : wpList Try.prog ops Q (o :: rest) a w := by
  exact wpList_load_row hgd _ x ho g hx _ _ _ _ hg Try.underlying27 rfl (by rw [arr_size, hl]; exact arr4_info) h
theorem small_set {T : List Nat} (h : Crc.Small T) (k x : Nat) (hx : x < 4294967296) : Crc.Small (T.set k x) := by
  intro y hy
  rcases List.mem_or_eq_of_mem_set hy with h1 | rfl
  · exact h y h1
  · exact hx
theorem on_one (T : List Nat) (s m at_ y : Nat) (c : UInt8) (hm : m = 4294967295 - s) (ha : at_ = m % 256 ^^^ c.toNat) (hy : T[at_]? = some y) : Crc.on T s [c] = 4294967295 - (m / 256 ^^^ y) := by
  unfold Crc.on Crc.run Crc.run Crc.upd
  rw [← hm, ← ha, List.getD_eq_getElem?_getD, hy]; rfl

set_option maxHeartbeats 4000000 in
set_option maxRecDepth 100000 in
theorem sumsBytes_walk (cn : Nat) (s : Nat) (l : List Nat) (w : World) (hcn : cn < 256) (hs : s < 4294967296) (hl : l.length = 4) (hsm : Crc.Small l) :
    Calls Try.prog 8 #[.int .u8 (cn : Int), .int .u32 (s : Int), .agg (arr l)] w fun e w' => e = .returned (.bool true) ∧ Below w.heap.size w w' := by
  obtain ⟨c, hc⟩ : ∃ c : UInt8, c.toNat = cn := ⟨UInt8.ofNat cn, by rw [UInt8.toNat_ofNat']; omega⟩
  obtain ⟨T, hT⟩ : ∃ T, T = tabOf l := ⟨_, rfl⟩
  have hTl : T.length = 256 := by rw [hT]; exact tabOf_len l
  have hTs : Crc.Small T := by rw [hT]; exact tabOf_small hsm
  obtain ⟨m, hm⟩ : ∃ m, m = 4294967295 - s := ⟨_, rfl⟩
  obtain ⟨lo, hlo⟩ : ∃ z, z = m % 256 := ⟨_, rfl⟩
  obtain ⟨hi, hhi⟩ : ∃ z, z = m / 256 := ⟨_, rfl⟩
  have f1 := flip_u32 s hs
  rw [← hm] at f1
  have f2 : (m : Int) % 256 = (lo : Int) := by omega
  have f3 : (m : Int) / 256 = (hi : Int) := by omega
  have f4 := u8_xor_nat lo cn (by omega) hcn
  have hal : lo ^^^ cn < 256 := Nat.xor_lt_two_pow (n := 8) (by omega) hcn
  obtain ⟨a, ha⟩ : ∃ a, a = lo ^^^ cn := ⟨_, rfl⟩
  rw [← ha] at f4 hal
  have f5 := u8_xor_nat a 1 hal (by omega)
  have hal1 : a ^^^ 1 < 256 := Nat.xor_lt_two_pow (n := 8) hal (by omega)
  have hane : a ^^^ 1 ≠ a := by
    intro h
    have := Crc.xor_cancel a 1
    rw [h, Nat.xor_self] at this
    omega
  obtain ⟨a1, ha1⟩ : ∃ a1, a1 = a ^^^ 1 := ⟨_, rfl⟩
  rw [← ha1] at f5 hal1 hane
  have f5' : bits .xor .u8 (a : Int) 1 = (a1 : Int) := f5
  obtain ⟨y, hy⟩ : ∃ y, T[a]? = some y := ⟨_, List.getElem?_eq_getElem (by omega)⟩
  obtain ⟨z, hz⟩ : ∃ z, T[a1]? = some z := ⟨_, List.getElem?_eq_getElem (by omega)⟩
  have hyl := hTs y (List.mem_of_getElem? hy)
  have hzl := hTs z (List.mem_of_getElem? hz)
  have f6 := flip_u32 z hzl
  obtain ⟨z', hz'⟩ : ∃ z', z' = 4294967295 - z := ⟨_, rfl⟩
  rw [← hz'] at f6
  have f7 := u32_xor_nat hi y (by omega) hyl
  have hrl : hi ^^^ y < 4294967296 := Nat.xor_lt_two_pow (n := 32) (by omega) hyl
  have r1 := on_one T s m a y c hm (by rw [hc, ha, hlo]) hy
  have r2 := on_one (T.set a1 z') s m a y c hm (by rw [hc, ha, hlo]) (by rw [List.getElem?_set, if_neg hane]; exact hy)
  rw [← hhi] at r1 r2
  generalize hi ^^^ y = r at *
  have f8 := flip_u32 r hrl
  generalize 4294967295 - r = want at *
  have i1 : (a : Int) < 256 := by omega
  have i2 : (a1 : Int) < 256 := by omega
  have i3 : (0 : Int) ≤ (a : Int) := by omega
  have i4 : (0 : Int) ≤ (a1 : Int) := by omega
  have hsg : IntKind.u32.signed = false := rfl
  have hmx : IntKind.u32.max = 4294967295 := by decide
  have R1 := Lib.hid r1; have R2 := Lib.hid r2; have HY := Lib.hid hy; have HZ := Lib.hid hz; have HC := Lib.hid hc
  have hz'l : z' < 4294967296 := by omega
  have HS := Lib.hid hTs; have HTT := Lib.hid hT; have HSM := Lib.hid hsm
  clear hm hlo hhi ha ha1 hz' r1 r2 hy hz f5 hc hTs hT hsm hane
  go_enter Try.func8, Try.ntmps8
  go_wp2_with (refine wpList_load4 rfl _ rfl w.heap.size rfl l (Tab.new w _ l) hl ?_)
  refine (tableOf_any l _ hl HSM.out).mono ?_
  rintro e w1 ⟨rfl, hb1⟩
  rw [← HTT.out]
  have hb1' : Below w.heap.size w w1 := lit_below _ _ hb1
  have H1 := Lib.hid hb1'
  clear hb1 hb1'
  have TA := ((lay_tab w1 T).lay T)
  have TB := lay_tab (lay w1 T) T
  have hsz : (lay w1 T).heap.size = w1.heap.size + 1 := lay_size _ _
  have hsz2 : (lay (lay w1 T) T).heap.size = w1.heap.size + 1 + 1 := by rw [lay_size, lay_size]
  rw [hsz] at TB
  have HB := Lib.hid (lay_below (lay_below H1.out H1.out.size T) (by rw [lay_size]; have := H1.out.size; omega) T)
  have T0 := lay_tab w1 T
  have c1 := TB.cell HZ.out
  have c2 := TB.frozen a1
  have hne : w1.heap.size ≠ w1.heap.size + 1 := by omega
  have c3 : ((lay (lay w1 T) T).setCell ⟨w1.heap.size + 1, a1, none⟩ (nv z')).cell? ⟨w1.heap.size, a, none⟩ = some (nv y) := (TA.far (p := ⟨w1.heap.size + 1, a1, none⟩) hne (nv z')).cell HY.out
  have HA := Lib.hid (TA.far (p := ⟨w1.heap.size + 1, a1, none⟩) hne (nv z'))
  have HV := Lib.hid (TB.set a1 z')
  have HB2 := Lib.hid (HB.out.setCell (p := ⟨w1.heap.size + 1, a1, none⟩) (by simp; have := H1.out.size; omega) (nv z'))
  have H0 := Lib.hid T0
  clear TA TB T0 HB H1
  go_wp2_with (first
    | refine wpList_lay rfl rfl ?_
    | refine wpList_laid rfl _ _ rfl noughts T rfl rfl noughts_len hTl ?_
    | refine wpList_loadTab rfl _ rfl w1.heap.size rfl T H0.out hTl ?_)
  refine (alive2_any _).mono ?_
  rintro e w2 ⟨rfl, hb2⟩
  have hA2 := HA.out.below hb2 HA.out.lt
  have hV2 := HV.out.below hb2 HV.out.lt
  have hB2 := HB2.out.trans (hb2.mono HB2.out.size)
  have HA2 := Lib.hid hA2; have HV2 := Lib.hid hV2; have HB3 := Lib.hid hB2
  clear hA2 hV2 hB2 hb2 HA HV HB2 H0 c1 c2 c3 hsz hsz2 hne f1 f2 f3 f4 f5' f6 f7 f8
  generalize w1.heap.size = g at *
  obtain rfl := HC.out
  go_wp2_with fail
  refine (on_lit [c] g s want T w2 (0, 0) HA2.out hTl HS.out hs (by simp) R1.out).mono ?_
  rintro e w3 ⟨rfl, hb3⟩
  have HV4 := Lib.hid (HV2.out.below hb3 HV2.out.lt)
  have HB4 := Lib.hid (HB3.out.trans (hb3.mono HB3.out.size))
  clear hb3 HA2 HV2 HB3
  go_wp2_with fail
  refine (on_lit [c] (g + 1) s want (T.set a1 z') w3 (0, 0) HV4.out (by rw [List.length_set]; exact hTl) (small_set HS.out a1 z' hz'l) hs (by simp) R2.out).mono ?_
  rintro e w4 ⟨rfl, hb4⟩
  have HB5 := Lib.hid (HB4.out.trans (hb4.mono HB4.out.size))
  clear hb4 HB4 HV4
  go_wp2
  go_ret
  exact ⟨by simp, HB5.out⟩
end Go.Proofs.Ytcbeimoolndomaa
