/-
  The walk of SumsOf.
-/
import Derived.Test.YtcbeimoolndomaaSumsBytesW
import Derived.Test.YtcbeimoolndomaaHelpB
import Derived.Test.YtcbeimoolndomaaLaw2C
import Derived.Test.YtcbeimoolndomaaRef2
namespace Go.Proofs.Ytcbeimoolndomaa
open Go.RowKit
set_option linter.unusedVariables false

/-- a whole table, read behind a guard -/
theorem wp_loadTab {o : Oper} {a : Act} {w : World} {K : Act → World → Prop} {Q : Exit → Act → World → Prop} (x : Operand) (ho : o.op = .load 23 x)
    (g : Nat) (hx : a.eval x = .pointer (some ⟨g, 0, none⟩)) (T : List Nat) (hg : Tab w g 23 T) (hl : T.length = 256)
    (h : K (a.put o.dst (.agg (arr T))) w) : o.wp Try.prog a w K Q :=
  wp_load_row _ x ho g hx _ _ _ _ hg Try.underlying23 rfl (arr_info2 hl) h

theorem wpList_loadTabG {ops : Array Oper} {rest : List Oper} {o : Oper} {a : Act} {w : World} {Q : Exit → Act → World → Prop} (x : Operand) (ho : o.op = .load 23 x) (hw : Region.wanted o (yielded ops a.tmps) = true)
    (g : Nat) (hx : a.eval x = .pointer (some ⟨g, 0, none⟩)) (T : List Nat) (hg : Tab w g 23 T) (hl : T.length = 256)
    (h : wpList Try.prog ops Q rest (a.put o.dst (.agg (arr T))) w) : wpList Try.prog ops Q (o :: rest) a w := by
  unfold wpList
  rw [if_pos hw]
  exact .inl (wp_loadTab x ho g hx T hg hl h)

set_option maxHeartbeats 8000000 in
set_option maxRecDepth 100000 in
theorem sumsOf_walk (A : Option Addr) (n c : Nat) (b : List UInt8) (s : Nat) (l : List Nat) (w : World) (L : Lies w w.heap.size 1 A n (b.map bv)) (hnc : n ≤ c) (hc : c ≤ 140737488351232) (hs : s < 4294967296) (hl : l.length = 4) (hsm : Crc.Small l) :
    Calls Try.prog 4 #[.slice A n c, .int .u32 (s : Int), .agg (arr l)] w fun e w' => e = .returned (.bool true) ∧ Below w.heap.size w w' := by
  have HL := Lib.hid ((L.alloc (Nat.le_refl _) (.cells (arr l) 27)).more (B' := (w.alloc (.cells (arr l) 27)).heap.size) (by simp)); clear L
  have hb0 : Below w.heap.size w (w.alloc (.cells (arr l) 27)) := (Below.refl _ _).alloc (Nat.le_refl _) _
  have HB0 := Lib.hid hb0; clear hb0
  by_cases hbig : 100000 < n
  · have hg : decide ((100000 : Int) < (n : Int)) = true := by simp; omega
    go_enter Try.func4, Try.ntmps4
    go_wp2
    go_ret
    exact ⟨rfl, HB0.out⟩
  · have hg : decide ((100000 : Int) < (n : Int)) = false := by simp; omega
    obtain ⟨T, hT⟩ : ∃ T, T = tabOf l := ⟨_, rfl⟩
    have hTl : T.length = 256 := by rw [hT]; exact tabOf_len l
    have HS := Lib.hid (show Crc.Small T by rw [hT]; exact tabOf_small hsm)
    have HTT := Lib.hid hT; have HSM := Lib.hid hsm
    clear hT hsm
    have HP0 := Lib.hid (Tab.new w 27 l)
    go_enter Try.func4, Try.ntmps4
    go_wp2_with fail
    refine (twin_any A n c b _ HL.out (by omega)).mono ?_
    rintro e w1 ⟨gc, cc, rfl, hown1, hb1⟩
    have HB1 := Lib.hid (HB0.out.trans (hb1.mono HB0.out.size))
    have HP1 := Lib.hid (HP0.out.below hb1 HP0.out.lt)
    have HL1 := Lib.hid (HL.out.below hb1)
    have hcc : n + 1 ≤ cc ∧ cc ≤ maxLen := by
      obtain ⟨_, c', hsl, h1, h2, _⟩ := own_shape hown1
      injection hsl with _ _ e3
      rw [e3]; exact ⟨h1, h2⟩
    have hw0 : (w.alloc (.cells (arr l) 27)).heap.size ≤ w1.heap.size := hb1.size
    have HT1 := Lib.hid (Lies.of_own hown1)
    have HL1' := Lib.hid (HL1.out.more hw0)
    clear hown1 hb1 HL HB0 HP0 HL1
    go_wp2_with fail
    refine (table_any w1).mono ?_
    rintro e w2 ⟨rfl, hb2⟩
    have HB2 := Lib.hid (lay_below (HB1.out.trans (hb2.mono HB1.out.size)) (Nat.le_trans HB1.out.size hb2.size) Crc.tab)
    have HP2 := Lib.hid ((HP1.out.below hb2 HP1.out.lt).lay Crc.tab)
    have HL2 := Lib.hid (((HL1'.out.below hb2).more hb2.size).lay (Nat.le_refl _) Crc.tab)
    have HT2 := Lib.hid (((HT1.out.below hb2).more hb2.size).lay (Nat.le_refl _) Crc.tab)
    have HA2 := Lib.hid (lay_tab w2 Crc.tab)
    have hz2 : (lay w2 Crc.tab).heap.size = w2.heap.size + 1 := lay_size _ _
    clear hb2 HB1 HP1 HL1' HT1 hw0
    go_wp2_with (first
      | refine wpList_lay rfl rfl ?_
      | refine wpList_laid rfl _ _ rfl noughts Crc.tab rfl rfl noughts_len Crc.tab_len ?_)
    refine (rtable_any _).mono ?_
    rintro e w3 ⟨rfl, hb3⟩
    have hb3' := HB2.out.trans (hb3.mono HB2.out.size)
    have HB3 := Lib.hid (lay_below hb3' hb3'.size Crc.tab)
    have HP3 := Lib.hid ((HP2.out.below hb3 HP2.out.lt).lay Crc.tab)
    have HL3 := Lib.hid (((HL2.out.below (hb3.mono (by rw [hz2]; omega))).more (Nat.le_trans (by rw [hz2]; omega) hb3.size)).lay (Nat.le_refl _) Crc.tab)
    have HT3 := Lib.hid (((HT2.out.below (hb3.mono (by rw [hz2]; omega))).more (Nat.le_trans (by rw [hz2]; omega) hb3.size)).lay (Nat.le_refl _) Crc.tab)
    have HA3 := Lib.hid ((HA2.out.below hb3 HA2.out.lt).lay Crc.tab)
    have HBt3 := Lib.hid (lay_tab w3 Crc.tab)
    have hz3 : (lay w3 Crc.tab).heap.size = w3.heap.size + 1 := lay_size _ _
    clear hb3 hb3' HB2 HP2 HL2 HT2 hz2 HA2
    go_wp2_with (first
      | refine wpList_lay rfl rfl ?_
      | refine wpList_laid rfl _ _ rfl noughts Crc.tab rfl rfl noughts_len Crc.tab_len ?_
      | refine wpList_load4 rfl _ rfl w.heap.size rfl l HP3.out hl ?_)
    refine (tableOf_any l _ hl HSM.out).mono ?_
    rintro e w4 ⟨rfl, hb4⟩
    rw [← HTT.out]
    have hb4' := HB3.out.trans (hb4.mono HB3.out.size)
    have HB4 := Lib.hid (lay_below hb4' hb4'.size T)
    have HP4 := Lib.hid ((HP3.out.below hb4 HP3.out.lt).lay T)
    have HL4 := Lib.hid (((HL3.out.below (hb4.mono (by rw [hz3]; omega))).more (Nat.le_trans (by rw [hz3]; omega) hb4.size)).lay (Nat.le_refl _) T)
    have HT4 := Lib.hid (((HT3.out.below (hb4.mono (by rw [hz3]; omega))).more (Nat.le_trans (by rw [hz3]; omega) hb4.size)).lay (Nat.le_refl _) T)
    have HA4 := Lib.hid ((HA3.out.below hb4 HA3.out.lt).lay T)
    have HBt4 := Lib.hid ((HBt3.out.below hb4 HBt3.out.lt).lay T)
    have HC4 := Lib.hid (lay_tab w4 T)
    have hz4 : (lay w4 T).heap.size = w4.heap.size + 1 := lay_size _ _
    clear hb4 hb4' HB3 HP3 HL3 HT3 hz3 HA3 HBt3
    go_wp2_with (first
      | refine wpList_lay rfl rfl ?_
      | refine wpList_laid rfl _ _ rfl noughts T rfl rfl noughts_len hTl ?_
      | refine wpList_load4 rfl _ rfl w.heap.size rfl l HP4.out hl ?_)
    refine (tableOf_any l _ hl HSM.out).mono ?_
    rintro e w5 ⟨rfl, hb5⟩
    rw [← HTT.out]
    have hb5' := HB4.out.trans (hb5.mono HB4.out.size)
    have HB5 := Lib.hid (lay_below hb5' hb5'.size T)
    have HP5 := Lib.hid ((HP4.out.below hb5 HP4.out.lt).lay T)
    have HL5 := Lib.hid (((HL4.out.below (hb5.mono (by rw [hz4]; omega))).more (Nat.le_trans (by rw [hz4]; omega) hb5.size)).lay (Nat.le_refl _) T)
    have HT5 := Lib.hid (((HT4.out.below (hb5.mono (by rw [hz4]; omega))).more (Nat.le_trans (by rw [hz4]; omega) hb5.size)).lay (Nat.le_refl _) T)
    have HA5 := Lib.hid ((HA4.out.below hb5 HA4.out.lt).lay T)
    have HBt5 := Lib.hid ((HBt4.out.below hb5 HBt4.out.lt).lay T)
    have HC5 := Lib.hid ((HC4.out.below hb5 HC4.out.lt).lay T)
    have HD5 := Lib.hid (lay_tab w5 T)
    have hz5 : (lay w5 T).heap.size = w5.heap.size + 1 := lay_size _ _
    clear hb5 hb5' HB4 HP4 HL4 HT4 hz4 HA4 HBt4 HC4
    go_wp2_with (first
      | refine wpList_lay rfl rfl ?_
      | refine wpList_laid rfl _ _ rfl noughts T rfl rfl noughts_len hTl ?_)
    have lt := lies_take HT5.out (Nat.le_succ n)
    have hbl := HL5.out.blen
    rw [List.take_append_of_le_length (by omega), List.take_of_length_le (by omega)] at lt
    have HG := Lib.hid lt
    clear lt HP5 HTT HSM hz5
    obtain ⟨g1, h1⟩ : ∃ g, w2.heap.size = g := ⟨_, rfl⟩
    obtain ⟨g2, h2⟩ : ∃ g, w3.heap.size = g := ⟨_, rfl⟩
    obtain ⟨g3, h3⟩ : ∃ g, w4.heap.size = g := ⟨_, rfl⟩
    obtain ⟨g4, h4⟩ : ∃ g, w5.heap.size = g := ⟨_, rfl⟩
    rw [h1] at HA5
    rw [h2] at HBt5
    rw [h3] at HC5
    rw [h4] at HD5 HL5 HT5 HG
    rw [h1, h2, h3, h4]
    generalize lay w5 T = W at *
    clear h1 h2 h3 h4
    refine (of_any g1 n cc _ _ b Crc.tab _ HA5.out Crc.tab_len Crc.small_tab HG.out (by omega)).mono ?_
    rintro e w6 ⟨rfl, rfl⟩
    go_wp2_with fail
    refine (rof_any g2 n c _ _ b Crc.tab _ HBt5.out Crc.tab_len Crc.small_tab HL5.out (by omega)).mono ?_
    rintro e w7 ⟨rfl, rfl⟩
    go_wp2_with fail
    refine (on_any g1 s n cc _ _ b Crc.tab _ HA5.out Crc.tab_len Crc.small_tab hs HG.out (by omega)).mono ?_
    rintro e w8 ⟨rfl, rfl⟩
    go_wp2_with fail
    refine (ron_any g2 s n c _ _ b Crc.tab _ HBt5.out Crc.tab_len Crc.small_tab hs HL5.out (by omega)).mono ?_
    rintro e w9 ⟨rfl, rfl⟩
    go_wp2_with fail
    refine (of_any g3 n cc _ _ b T _ HC5.out hTl HS.out HG.out (by omega)).mono ?_
    rintro e w10 ⟨rfl, rfl⟩
    go_wp2_with fail
    refine (rof_any g4 n c _ _ b T _ HD5.out hTl HS.out HL5.out (by omega)).mono ?_
    rintro e w11 ⟨rfl, rfl⟩
    go_wp2_with fail
    refine (on_any g3 s n cc _ _ b T _ HC5.out hTl HS.out hs HG.out (by omega)).mono ?_
    rintro e w12 ⟨rfl, rfl⟩
    go_wp2_with fail
    refine (ron_any g4 s n c _ _ b T _ HD5.out hTl HS.out hs HL5.out (by omega)).mono ?_
    rintro e w13 ⟨rfl, rfl⟩
    go_wp2_with fail
    refine (of_none _ _).mono ?_
    rintro e w14 ⟨rfl, rfl⟩
    go_wp2_with fail
    refine (on_none s _ _).mono ?_
    rintro e w15 ⟨rfl, rfl⟩
    have htb := Crc.tab_len
    generalize Crc.tab = Tb at *
    have eq1 := fun W => eq_tab Tb W htb
    have eq2 := fun W => eq_tab T W hTl
    have hcm := hcc.2
    unfold maxLen at hcm
    go_wp2_with (first
      | refine wpList_loadTabG (.tmp 10) (by rfl) (by rfl) g3 (by rfl) T HC5.out hTl ?_
      | refine wpList_loadTabG (.tmp 11) (by rfl) (by rfl) g4 (by rfl) T HD5.out hTl ?_
      | refine wpList_loadTabG (.tmp 8) (by rfl) (by rfl) g1 (by rfl) Tb HA5.out htb ?_
      | refine wpList_loadTabG (.tmp 9) (by rfl) (by rfl) g2 (by rfl) Tb HBt5.out htb ?_
      | fail)
    refine (left_any A gc 0 n cc c g4 b _ HT5.out hcc.1 hcc.2 HL5.out).mono ?_
    rintro e w17 ⟨rfl, q, rfl⟩
    go_wp2
    go_ret
    exact ⟨rfl, below_drewN HB5.out _⟩
end Go.Proofs.Ytcbeimoolndomaa
