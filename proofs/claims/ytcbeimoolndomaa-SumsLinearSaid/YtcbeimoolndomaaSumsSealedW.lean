/-
  The walk of SumsSealed.
-/
import Derived.Test.YtcbeimoolndomaaLaw2B
namespace Go.Proofs.Ytcbeimoolndomaa
open Go.RowKit
set_option linter.unusedVariables false

theorem Tab.grown {w w' : World} {g : Nat} {t : TypeId} {T : List Nat} {row : Option Nat} (h : Tab w g t T) (hb : w.grownBy w' row) (hg : some g ≠ row) : Tab w' g t T := (hb.block g h.lt hg).trans h
theorem Tab.not_own {w : World} {g : Nat} {t : TypeId} {T : List Nat} {base e k n : Nat} {x : Value} {xs : List Value} (h : Tab w g t T) (ho : w.ownsRow base e k x n xs) (hne : e ≠ t) : some g ≠ x.ownBlock := by
  rcases ho.2 with ⟨rfl, _⟩ | ⟨g', cap, cur, rfl, _, hh, _⟩
  · simp [Value.ownBlock]
  · intro he
    have : g = g' := by simpa [Value.ownBlock] using he
    subst this
    unfold Tab at h
    rw [hh] at h
    injection h with h
    injection h with _ h
    exact hne h
theorem own_nil (w : World) (base e : Nat) : w.ownsRow base e 1 (.slice none 0 0) 0 [] := ⟨rfl, .inl ⟨rfl, rfl⟩⟩
/-- the four values that are laid behind -/
theorem four_vals (m a b c d : Nat) (h0 : a = m % 256) (h1 : b = m / 256 % 256) (h2 : c = m / 65536 % 256) (h3 : d = m / 16777216 % 256) :
    [Value.int .u8 (a : Int), .int .u8 (b : Int), .int .u8 (c : Int), .int .u8 (d : Int)] = (Crc.fourLow m).map bv := by
  unfold Crc.fourLow
  simp only [List.map_cons, List.map_nil]
  rw [bv_ofNat _ (by omega), bv_ofNat _ (by omega), bv_ofNat _ (by omega), bv_ofNat _ (by omega), h0, h1, h2, h3]

set_option maxHeartbeats 4000000 in
set_option maxRecDepth 100000 in
theorem sumsSealed_walk (A : Option Addr) (n c : Nat) (a : List UInt8) (A2 : Option Addr) (n2 c2 : Nat) (b : List UInt8) (w : World) (L : Lies w w.heap.size 1 A n (a.map bv)) (hnc : n ≤ c) (hc : c ≤ 140737488351232) (L2 : Lies w w.heap.size 1 A2 n2 (b.map bv)) (hnc2 : n2 ≤ c2) (hc2 : c2 ≤ 140737488351232) :
    Calls Try.prog 9 #[.slice A n c, .slice A2 n2 c2] w fun e w' => e = .returned (.bool true) ∧ Below w.heap.size w w' := by
  have HL := Lib.hid L; clear L
  have HL2 := Lib.hid L2; clear L2
  by_cases hbig : 100000 < n + n2
  · have hg : decide ((100000 : Int) < (n : Int) + (n2 : Int)) = true := by simp; omega
    go_enter Try.func9, Try.ntmps9
    go_wp2_with fail
    refine (alive2_any w).mono ?_
    rintro e w1 ⟨rfl, hb1⟩
    have H1 := Lib.hid hb1; clear hb1
    go_wp2_with fail
    refine (alive2_any w1).mono ?_
    rintro e w2 ⟨rfl, hb2⟩
    have H2 := Lib.hid (H1.out.trans (hb2.mono H1.out.size)); clear hb2
    go_wp2
    go_ret
    exact ⟨rfl, H2.out⟩
  · have hg : decide ((100000 : Int) < (n : Int) + (n2 : Int)) = false := by simp; omega
    obtain ⟨i0, hi, hz0, hz1, hz2⟩ := info_parts byte_info
    go_enter Try.func9, Try.ntmps9
    go_wp2_with fail
    refine (alive2_any w).mono ?_
    rintro e w1 ⟨rfl, hb1⟩
    have H1 := Lib.hid hb1; clear hb1
    go_wp2_with fail
    refine (table_any w1).mono ?_
    rintro e w2 ⟨rfl, hb2⟩
    have hb2' := H1.out.trans (hb2.mono H1.out.size)
    have HT := Lib.hid (lay_tab w2 Crc.tab)
    have HB := Lib.hid (lay_below hb2' hb2'.size Crc.tab)
    have HA := Lib.hid (HL.out.below HB.out); have HA2 := Lib.hid (HL2.out.below HB.out)
    have hsz : w.heap.size ≤ (lay w2 Crc.tab).heap.size := HB.out.size
    clear hb2 hb2' H1 HL HL2
    go_wp2_with (first
      | refine wpList_lay rfl rfl ?_
      | refine wpList_laid rfl _ _ rfl noughts Crc.tab rfl rfl noughts_len Crc.tab_len ?_)
    obtain ⟨g, hg0⟩ : ∃ g, w2.heap.size = g := ⟨_, rfl⟩
    rw [hg0] at HT ⊢
    generalize lay w2 Crc.tab = W at *
    clear hg0
    refine (of_any g n c _ A a Crc.tab W HT.out Crc.tab_len Crc.small_tab HA.out (by omega)).mono ?_
    rintro e w3 ⟨rfl, rfl⟩
    go_wp2_with fail
    refine (of_any g n2 c2 _ A2 b Crc.tab w3 HT.out Crc.tab_len Crc.small_tab HA2.out (by omega)).mono ?_
    rintro e w4 ⟨rfl, rfl⟩
    have S1 := Lib.hid (Crc.on_sealed a); have S2 := Lib.hid (Crc.on_sealed b)
    have hl1 := Crc.on_lt Crc.tab 0 a; have hl2 := Crc.on_lt Crc.tab 0 b
    generalize Crc.on Crc.tab 0 a = p at S1 hl1 ⊢
    generalize Crc.on Crc.tab 0 b = q at S2 hl2 ⊢
    obtain ⟨p0, hp0⟩ : ∃ z, z = p % 256 := ⟨_, rfl⟩
    obtain ⟨pd1, hpd1⟩ : ∃ z, z = p / 256 := ⟨_, rfl⟩
    obtain ⟨pd2, hpd2⟩ : ∃ z, z = p / 65536 := ⟨_, rfl⟩
    obtain ⟨p1, hp1⟩ : ∃ z, z = pd1 % 256 := ⟨_, rfl⟩
    obtain ⟨p2, hp2⟩ : ∃ z, z = pd2 % 256 := ⟨_, rfl⟩
    obtain ⟨p3, hp3⟩ : ∃ z, z = p / 16777216 := ⟨_, rfl⟩
    have Fp := Lib.hid (four_vals p p0 p1 p2 p3 hp0 (by rw [hp1, hpd1]) (by rw [hp2, hpd2]) (by omega))
    have ep0 : (p : Int) % 256 = (p0 : Int) := by omega
    have ep1 : (p : Int) / 256 = (pd1 : Int) := by omega
    have ep2 : (p : Int) / 65536 = (pd2 : Int) := by omega
    have ep3 : (p : Int) / 16777216 = (p3 : Int) := by omega
    have ep4 : (pd1 : Int) % 256 = (p1 : Int) := by omega
    have ep5 : (pd2 : Int) % 256 = (p2 : Int) := by omega
    have ep6 : p3 < 256 := by omega
    clear hp0 hp1 hp2 hp3 hpd1 hpd2
    obtain ⟨q0, hq0⟩ : ∃ z, z = q % 256 := ⟨_, rfl⟩
    obtain ⟨qd1, hqd1⟩ : ∃ z, z = q / 256 := ⟨_, rfl⟩
    obtain ⟨qd2, hqd2⟩ : ∃ z, z = q / 65536 := ⟨_, rfl⟩
    obtain ⟨q1, hq1⟩ : ∃ z, z = qd1 % 256 := ⟨_, rfl⟩
    obtain ⟨q2, hq2⟩ : ∃ z, z = qd2 % 256 := ⟨_, rfl⟩
    obtain ⟨q3, hq3⟩ : ∃ z, z = q / 16777216 := ⟨_, rfl⟩
    have Fq := Lib.hid (four_vals q q0 q1 q2 q3 hq0 (by rw [hq1, hqd1]) (by rw [hq2, hqd2]) (by omega))
    have eq0 : (q : Int) % 256 = (q0 : Int) := by omega
    have eq1 : (q : Int) / 256 = (qd1 : Int) := by omega
    have eq2 : (q : Int) / 65536 = (qd2 : Int) := by omega
    have eq3 : (q : Int) / 16777216 = (q3 : Int) := by omega
    have eq4 : (qd1 : Int) % 256 = (q1 : Int) := by omega
    have eq5 : (qd2 : Int) % 256 = (q2 : Int) := by omega
    have eq6 : q3 < 256 := by omega
    clear hq0 hq1 hq2 hq3 hqd1 hqd2
    go_wp2_with (at_builtin; refine wpList_app _ rfl (.const (.slice none 0 0)) (.tmp 26) 26 rfl w.heap.size 5 i0 _ 1 1 Try.underlying26 hi hz0 hz1 hz2 rfl (by decide) (.slice none 0 0) 0 [] rfl (own_nil _ _ _) w.heap.size A n c (a.map bv) rfl ?c1 ?c2 ?c3 ?c4 ?c5 ?_)
    case c1 => exact HA.out
    case c2 => exact bv_one _
    case c3 => unfold maxLen; omega
    case c4 => omega
    case c5 => exact hsz
    intro v5 w5 hown5 hg5 _
    have HB5 := Lib.hid (HB.out.grown hg5 hsz (by simp [Value.ownBlock]))
    have HT5 := Lib.hid (HT.out.grown hg5 (by simp [Value.ownBlock]))
    have HA5 := Lib.hid (HA2.out.below (Below.grown (Below.refl w.heap.size _) hg5 hsz (by simp [Value.ownBlock])))
    obtain ⟨A5, c5, rfl, _, _, _⟩ := own_shape hown5
    have HO5 := Lib.hid hown5
    clear hg5 HB HT HA HA2 hown5 hsz
    have hsz5 := HB5.out.size
    go_wp2_with (at_builtin; refine wpList_app _ rfl (.tmp 27) (.tmp 39) 26 rfl w.heap.size 5 i0 _ 1 1 Try.underlying26 hi hz0 hz1 hz2 rfl (by decide) (.slice A5 n c5) n (a.map bv) rfl (HO5.out.alloc _) (w5.heap.size + 1) (some ⟨w5.heap.size, 0, none⟩) 4 4 [.int .u8 (p0 : Int), .int .u8 (p1 : Int), .int .u8 (p2 : Int), .int .u8 (p3 : Int)] rfl ?d1 ?d2 ?d3 ?d4 ?d5 ?_)
    case d1 => exact lits_lie (w := w5) rfl [.int .u8 (p0 : Int), .int .u8 (p1 : Int), .int .u8 (p2 : Int), .int .u8 (p3 : Int)] 5
    case d2 => rw [Fp.out]; exact bv_one _
    case d3 => unfold maxLen; omega
    case d4 => omega
    case d5 => simp; omega
    intro v6 w6 hown6 hg6 _
    have hown6' : w6.ownsRow w.heap.size 5 1 v6 (n + 4) ((a ++ Crc.fourLow p).map bv) := by rw [List.map_append, ← Fp.out]; exact hown6
    have HB6 := Lib.hid ((HB5.out.alloc hsz5 _).grown hg6 (by simp; omega) (fun k hk => (HO5.out.lt k hk).1))
    have HT6 := Lib.hid ((HT5.out.alloc _).grown hg6 (HT5.out.not_own HO5.out (by decide)))
    have HA6 := Lib.hid (HA5.out.below ((((Below.refl w.heap.size _)).alloc hsz5 _).grown hg6 (by simp; omega) (fun k hk => (HO5.out.lt k hk).1)))
    obtain ⟨A6, c6, rfl, _, _, _⟩ := own_shape hown6'
    have HO6 := Lib.hid hown6'
    clear hg6 HB5 HT5 HA5 HO5 hown6 hown6' hsz5 Fp
    have hsz6 := HB6.out.size
    clear ep0 ep1 ep2 ep3 ep4 ep5 ep6
    go_wp2_with (at_builtin; refine wpList_app _ rfl (.const (.slice none 0 0)) (.tmp 41) 26 rfl w6.heap.size 5 i0 _ 1 1 Try.underlying26 hi hz0 hz1 hz2 rfl (by decide) (.slice none 0 0) 0 [] rfl (own_nil _ _ _) w.heap.size A2 n2 c2 (b.map bv) rfl ?e1 ?e2 ?e3 ?e4 ?e5 ?_)
    case e1 => exact HA6.out
    case e2 => exact bv_one _
    case e3 => unfold maxLen; omega
    case e4 => omega
    case e5 => exact Nat.le_refl _
    intro v7 w7 hown7 hg7 _
    have hb7 : Below w6.heap.size w6 w7 := (Below.refl _ _).grown hg7 (Nat.le_refl _) (by simp [Value.ownBlock])
    have HB7 := Lib.hid (HB6.out.trans (hb7.mono hsz6))
    have HT7 := Lib.hid (HT6.out.below hb7 HT6.out.lt)
    have HX7 := Lib.hid ((Lies.of_own HO6.out).below hb7)
    obtain ⟨A7, c7, rfl, _, _, _⟩ := own_shape hown7
    have HO7 := Lib.hid hown7
    have hsz7 := hb7.size
    clear hg7 hb7 HB6 HT6 HA6 HO6 hown7
    go_wp2_with (at_builtin; refine wpList_app _ rfl (.tmp 42) (.tmp 54) 26 rfl w6.heap.size 5 i0 _ 1 1 Try.underlying26 hi hz0 hz1 hz2 rfl (by decide) (.slice A7 n2 c7) n2 (b.map bv) rfl (HO7.out.alloc _) (w7.heap.size + 1) (some ⟨w7.heap.size, 0, none⟩) 4 4 [.int .u8 (q0 : Int), .int .u8 (q1 : Int), .int .u8 (q2 : Int), .int .u8 (q3 : Int)] rfl ?f1 ?f2 ?f3 ?f4 ?f5 ?_)
    case f1 => exact lits_lie (w := w7) rfl [.int .u8 (q0 : Int), .int .u8 (q1 : Int), .int .u8 (q2 : Int), .int .u8 (q3 : Int)] 5
    case f2 => rw [Fq.out]; exact bv_one _
    case f3 => unfold maxLen; omega
    case f4 => omega
    case f5 => simp; omega
    intro v8 w8 hown8 hg8 _
    have hown8' : w8.ownsRow w6.heap.size 5 1 v8 (n2 + 4) ((b ++ Crc.fourLow q).map bv) := by rw [List.map_append, ← Fq.out]; exact hown8
    have hb8 : Below w6.heap.size w7 w8 := ((Below.refl _ _).alloc hsz7 _).grown hg8 (by simp; omega) (fun k hk => (HO7.out.lt k hk).1)
    have HB8 := Lib.hid (HB7.out.trans (hb8.mono hsz6))
    have HT8 := Lib.hid ((HT7.out.alloc _).grown hg8 (HT7.out.not_own HO7.out (by decide)))
    obtain ⟨A8, c8, rfl, _, _, _⟩ := own_shape hown8'
    have L8 := Lib.hid (Lies.of_own hown8')
    have L7 := Lib.hid (HX7.out.below hb8)
    clear hg8 hb8 HB7 HT7 HX7 HO7 hown8 hown8' eq0 eq1 eq2 eq3 eq4 eq5 eq6 Fq
    go_wp2_with fail
    refine (of_any g (n + 4) c6 _ A6 (a ++ Crc.fourLow p) Crc.tab w8 HT8.out Crc.tab_len Crc.small_tab L7.out (by omega)).mono ?_
    rintro e w9 ⟨rfl, rfl⟩
    rw [S1.out]
    go_wp2_with fail
    refine (of_any g (n2 + 4) c8 _ A8 (b ++ Crc.fourLow q) Crc.tab w9 HT8.out Crc.tab_len Crc.small_tab L8.out (by omega)).mono ?_
    rintro e w10 ⟨rfl, rfl⟩
    rw [S2.out]
    generalize (4294967295 - Crc.sts 32 4294967295) = k at *
    go_wp2
    go_ret
    exact ⟨by simp, HB8.out⟩
end Go.Proofs.Ytcbeimoolndomaa
