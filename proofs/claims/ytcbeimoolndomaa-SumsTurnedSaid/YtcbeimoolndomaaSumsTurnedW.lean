/-
  The walk of SumsTurned.
-/
import Derived.Test.YtcbeimoolndomaaSumsSealedW
import Derived.Laws.OwnMore
namespace Go.Proofs.Ytcbeimoolndomaa
open Go.RowKit
set_option linter.unusedVariables false

set_option maxHeartbeats 4000000 in
set_option maxRecDepth 100000 in
theorem sumsTurned_walk (A : Option Addr) (n c : Nat) (b : List UInt8) (at_ : Nat) (bs : Nat) (w : World) (L : Lies w w.heap.size 1 A n (b.map bv)) (hnc : n ≤ c) (hc : c ≤ 140737488351232) (hat : at_ < 4294967296) (hbs : bs < 4294967296) :
    Calls Try.prog 6 #[.slice A n c, .int .u32 (at_ : Int), .int .u32 (bs : Int)] w fun e w' => e = .returned (.bool true) ∧ Below w.heap.size w w' := by
  have HL := Lib.hid L; clear L
  by_cases hbig : 100000 < n ∨ n = 0
  · have hg : decide ((100000 : Int) < (n : Int)) = true ∨ (decide ((100000 : Int) < (n : Int)) = false ∧ n = 0) := by
      rcases hbig with h | h
      · exact .inl (by simp; omega)
      · exact .inr ⟨by simp; omega, h⟩
    clear hbig
    rcases hg with hg | ⟨hg, rfl⟩
    · go_enter Try.func6, Try.ntmps6
      go_wp2_with fail
      refine (alive2_any w).mono ?_
      rintro e w1 ⟨rfl, hb1⟩
      have H1 := Lib.hid hb1; clear hb1
      go_wp2_with fail
      refine (alive2_any w1).mono ?_
      rintro e w2 ⟨rfl, hb2⟩
      have H2 := Lib.hid (H1.out.trans (hb2.mono H1.out.size)); clear hb2
      go_wp2
      go_ret
      exact ⟨rfl, H2.out⟩
    · go_enter Try.func6, Try.ntmps6
      go_wp2_with fail
      refine (alive2_any w).mono ?_
      rintro e w1 ⟨rfl, hb1⟩
      have H1 := Lib.hid hb1; clear hb1
      go_wp2_with fail
      refine (alive2_any w1).mono ?_
      rintro e w2 ⟨rfl, hb2⟩
      have H2 := Lib.hid (H1.out.trans (hb2.mono H1.out.size)); clear hb2
      go_wp2
      go_ret
      exact ⟨rfl, H2.out⟩
  · have hg : decide ((100000 : Int) < (n : Int)) = false := by simp; omega
    have hn0 : ((n : Int) == 0) = false := by simp; omega
    have hnp : 0 < n := by omega
    have hnl : n ≤ 100000 := by omega
    clear hbig
    obtain ⟨i0, hi, hz0, hz1, hz2⟩ := info_parts byte_info
    obtain ⟨N, hN⟩ : ∃ N, N = 8 * n := ⟨_, rfl⟩
    obtain ⟨f, hf⟩ : ∃ f, f = at_ % N := ⟨_, rfl⟩
    have hfl : f < N := by rw [hf]; exact Nat.mod_lt _ (by omega)
    have eN : (8 : Int) * (n : Int) = (N : Int) := by omega
    have eN2 : (N : Int) % 4294967296 = (N : Int) := by omega
    have eN3 : ((N : Int) == 0) = false := by simp; omega
    have eN4 : (N : Int) ≠ 0 := by omega
    have ef : (at_ : Int) % (N : Int) = (f : Int) := by rw [hf]; rfl
    have hor := u32_or_nat bs 1 hbs (by omega)
    have hodd : (bs ||| 1) % 2 = 1 := by
      exact Nat.or_mod_two_eq_one.2 (.inr rfl)
    have htl : bs ||| 1 < 4294967296 := Nat.or_lt_two_pow (n := 32) hbs (by omega)
    generalize (bs ||| 1) = t at hor hodd htl
    have hor2 : bits .or .u32 (bs : Int) 1 = (t : Int) := hor
    have hNl : N ≤ 800000 := by omega
    have HN := Lib.hid hN
    clear hor hf hN
    go_enter Try.func6, Try.ntmps6
    go_wp2_with fail
    refine (alive2_any w).mono ?_
    rintro e w1 ⟨rfl, hb1⟩
    have H1 := Lib.hid hb1; clear hb1
    go_wp2_with fail
    refine (table_any w1).mono ?_
    rintro e w2 ⟨rfl, hb2⟩
    have hb2' := H1.out.trans (hb2.mono H1.out.size)
    have HT := Lib.hid (lay_tab w2 Crc.tab)
    have HB := Lib.hid (lay_below hb2' hb2'.size Crc.tab)
    have HA := Lib.hid (HL.out.below HB.out)
    have hsz : w.heap.size ≤ (lay w2 Crc.tab).heap.size := HB.out.size
    clear hb2 hb2' H1 HL
    go_wp2_with (first
      | refine wpList_lay rfl rfl ?_
      | refine wpList_laid rfl _ _ rfl noughts Crc.tab rfl rfl noughts_len Crc.tab_len ?_
      | (at_builtin; refine wpList_app _ rfl (.const (.slice none 0 0)) (.tmp 25) 26 rfl (lay w2 Crc.tab).heap.size 5 i0 _ 1 1 Try.underlying26 hi hz0 hz1 hz2 rfl (by decide) (.slice none 0 0) 0 [] rfl (own_nil _ _ _) w.heap.size A n c (b.map bv) rfl ?c1 ?c2 ?c3 ?c4 ?c5 ?_))
    case c1 => exact HA.out
    case c2 => exact bv_one _
    case c3 => unfold maxLen; omega
    case c4 => omega
    case c5 => exact Nat.le_refl _
    intro v5 w5 hown5 hg5 _
    have hb5 : Below (lay w2 Crc.tab).heap.size (lay w2 Crc.tab) w5 := (Below.refl _ _).grown hg5 (Nat.le_refl _) (by simp [Value.ownBlock])
    have HB5 := Lib.hid (HB.out.trans (hb5.mono hsz))
    have HT5 := Lib.hid (HT.out.below hb5 HT.out.lt)
    have HA5 := Lib.hid (HA.out.below (hb5.mono hsz))
    obtain ⟨gc, cc, rfl, hncc, hccm⟩ : ∃ gc cc, v5 = .slice (some ⟨gc, 0, none⟩) n cc ∧ n ≤ cc ∧ cc ≤ maxLen := by
      rcases hown5.2 with ⟨_, h0⟩ | ⟨g, cap, cur, rfl, _, _, h1, h2, _⟩
      · omega
      · exact ⟨g, cap, by simp, by simpa using h1, h2⟩
    have hown5' : w5.ownsRow w.heap.size 5 1 (.slice (some ⟨gc, 0, none⟩) n cc) n (b.map bv) := own_base (by simpa using hown5) hsz
    have HO5 := Lib.hid hown5'
    obtain ⟨g, hg0⟩ : ∃ g, w2.heap.size = g := ⟨_, rfl⟩
    rw [hg0] at HT5 ⊢
    have hgc : g ≠ gc := by
      have := HT5.out.not_own hown5' (by decide)
      intro e; apply this; rw [e]; rfl
    have hgcb : w.heap.size ≤ gc := (hown5'.lt gc rfl).1
    clear hg5 hb5 HB HT HA hown5 hown5' hsz hg0
    go_wp2
    rw [ef]
    go_loopw [10] (fun i wr => ∃ (k : Nat) (cs : List UInt8), k ≤ 32 ∧ f + k ≤ N ∧ i = .int .i64 (k : Int) ∧ wr.ownsRow w.heap.size 5 1 (.slice (some ⟨gc, 0, none⟩) n cc) n (cs.map bv) ∧ Crc.le cs = Crc.le b ^^^ 2 ^ f * (t % 2 ^ k) ∧ Tab wr g 23 Crc.tab ∧ Lies wr w.heap.size 1 A n (b.map bv) ∧ Below w.heap.size w wr) (fun i _ => 32 - (intOf i).toNat)
    case atStart => exact ⟨0, b, Nat.zero_le _, by omega, rfl, HO5.out, by simp [Nat.mod_one], HT5.out, HA5.out, HB5.out⟩
    case round =>
      clear HO5 HT5 HA5 HB5
      obtain ⟨k, cs, hk, hkN, rfl, hown, hle, hT, hA, hB⟩ := hrel
      have HO := Lib.hid hown; have HE := Lib.hid hle; have HT := Lib.hid hT; have HA := Lib.hid hA; have HB := Lib.hid hB
      clear hown hle hT hA hB
      have hcl : cs.length = n := by have := HO.out.1; simp at this; exact this
      by_cases hlt : k < 32
      · by_cases hlt2 : f + k < N
        · obtain ⟨u, hu⟩ : ∃ u, u = t / 2 ^ k := ⟨_, rfl⟩
          have hul : u < 4294967296 := by rw [hu]; exact Nat.lt_of_le_of_lt (Nat.div_le_self _ _) htl
          have hsh : (t : Int) / 2 ^ k = (u : Int) := by rw [hu, Int.natCast_ediv]; simp
          have hand := u32_and_nat u 1 hul (by omega)
          rw [Nat.and_one_is_mod] at hand
          have hc2 : decide ((f : Int) + (k : Int) < (N : Int)) = true := by simp; omega
          by_cases hu1 : u % 2 = 1
          · rw [hu1] at hand
            have hand2 : bits .and .u32 (u : Int) 1 = 1 := hand
            obtain ⟨i, hi0⟩ : ∃ i, i = (f + k) / 8 := ⟨_, rfl⟩
            obtain ⟨j, hj0⟩ : ∃ j, j = (f + k) % 8 := ⟨_, rfl⟩
            have hil : i < n := by have := HN.out; omega
            have hj8 : j < 8 := by omega
            have e1 : ((f : Int) + (k : Int)) / 8 = (i : Int) := by omega
            have e2 : ((f : Int) + (k : Int)) % 8 = (j : Int) := by omega
            obtain ⟨x, hx⟩ : ∃ x, cs[i]? = some x := ⟨_, List.getElem?_eq_getElem (by omega)⟩
            have hcell : wr.cell? ⟨gc, i, none⟩ = some (.int .u8 (x.toNat : Int)) := by
              rw [HO.out.cellAt i (by omega), List.getElem?_map, hx]; rfl
            have hfr := HO.out.frozenAt i
            obtain ⟨q, hq⟩ : ∃ q, q = 2 ^ j := ⟨_, rfl⟩
            have hql : q < 256 := by rw [hq]; exact Nat.pow_lt_pow_right (a := 2) (n := 8) (by omega) hj8
            have eq1 : (2 : Int) ^ j = (q : Int) := by rw [hq]; simp
            have eq2 : (q : Int) % 256 = (q : Int) := by omega
            have hxl := x.toNat_lt
            have hxor := u8_xor_nat x.toNat q hxl hql
            have hyl : x.toNat ^^^ q < 256 := Nat.xor_lt_two_pow (n := 8) hxl hql
            obtain ⟨y, hy⟩ : ∃ y : UInt8, y.toNat = x.toNat ^^^ q := ⟨UInt8.ofNat (x.toNat ^^^ q), by rw [UInt8.toNat_ofNat']; omega⟩
            have hset := Crc.le_set cs i j x hx y (by rw [hy, hq]) hj8
            have HS := Lib.hid (show Crc.le (cs.set i y) = Crc.le b ^^^ 2 ^ f * (t % 2 ^ (k + 1)) from by
              rw [hset, HE.out, Crc.turn_odd t f k (by rw [← hu]; exact hu1), Nat.xor_assoc, show 8 * i + j = f + k from by omega])
            have HO2 := Lib.hid (HO.out.stored i (bv y))
            rw [← hy] at hxor
            have HY := Lib.hid hy
            generalize x.toNat = xn at *
            have hnum : (i : Int) < (n : Int) := by omega
            clear hand hu hu1 hi0 hj0 hx hq hset hy HE hk hkN hcl
            go_wp2
            go_roundw
            case rel => exact ⟨k + 1, cs.set i y, hlt, hlt2, by go_num, by rw [List.map_set]; exact HO2.out.1, HS.out, HT.out.far (p := ⟨gc, i, none⟩) hgc _, HA.out.setCell (p := ⟨gc, i, none⟩) hgcb _, HB.out.setCell (p := ⟨gc, i, none⟩) hgcb _⟩
            case measure => simp [intOf]; omega
          · have hu0 : u % 2 = 0 := by omega
            rw [hu0] at hand
            have hand2 : bits .and .u32 (u : Int) 1 = 0 := hand
            have HS := Lib.hid (show Crc.le cs = Crc.le b ^^^ 2 ^ f * (t % 2 ^ (k + 1)) from by
              rw [HE.out, Crc.turn_even t k (by rw [← hu]; exact hu0)])
            clear hand hu hu1 hu0 HE hk hkN hcl
            go_wp2
            go_roundw
            case rel => exact ⟨k + 1, cs, hlt, hlt2, by go_num, HO.out, HS.out, HT.out, HA.out, HB.out⟩
            case measure => simp [intOf]; omega
        · have hc2 : decide ((f : Int) + (k : Int) < (N : Int)) = false := by simp; omega
          have hodd2 : t % 2 ^ k ≠ 0 := by
            intro h0
            obtain ⟨k', rfl⟩ : ∃ k', k = k' + 1 := ⟨k - 1, by omega⟩
            have h2 : t % 2 ^ (k' + 1) % 2 = t % 2 := Nat.mod_mod_of_dvd _ (by rw [Nat.pow_succ]; exact Nat.dvd_mul_left _ _)
            rw [h0] at h2
            omega
          have hxl2 : t % 2 ^ k < 4294967296 := Nat.lt_of_le_of_lt (Nat.mod_le _ _) htl
          have hbl := HA.out.blen
          have hne0 := Crc.on_turned 0 (a := cs) (b := b) (by omega) (t % 2 ^ k) f hxl2 hodd2 (by have := HN.out; omega) HE.out
          have C1 := Lib.hid (of_any g n cc _ (some ⟨gc, 0, none⟩) cs Crc.tab wr HT.out Crc.tab_len Crc.small_tab (Lies.of_own HO.out) (by omega))
          have C2 := Lib.hid (of_any g n c _ A b Crc.tab wr HT.out Crc.tab_len Crc.small_tab HA.out (by omega))
          generalize Crc.on Crc.tab 0 cs = r1 at *
          generalize Crc.on Crc.tab 0 b = r2 at *
          have hne : ((r1 : Int) != (r2 : Int)) = true := by simp; omega
          clear hne0 hodd2 hxl2 HE HT HA HO hkN hk hcl hbl
          go_wp2_with fail
          refine C1.out.mono ?_
          rintro e w6 ⟨rfl, rfl⟩
          go_wp2_with fail
          refine C2.out.mono ?_
          rintro e w7 ⟨rfl, rfl⟩
          go_wp2
          go_ret
          exact ⟨rfl, HB.out⟩
      · have hk32 : k = 32 := by omega
        have hodd2 : t % 2 ^ k ≠ 0 := by
          intro h0
          obtain ⟨k', rfl⟩ : ∃ k', k = k' + 1 := ⟨k - 1, by omega⟩
          have h2 : t % 2 ^ (k' + 1) % 2 = t % 2 := Nat.mod_mod_of_dvd _ (by rw [Nat.pow_succ]; exact Nat.dvd_mul_left _ _)
          rw [h0] at h2
          omega
        have hxl2 : t % 2 ^ k < 4294967296 := Nat.lt_of_le_of_lt (Nat.mod_le _ _) htl
        have hbl := HA.out.blen
        have hne0 := Crc.on_turned 0 (a := cs) (b := b) (by omega) (t % 2 ^ k) f hxl2 hodd2 (by have := HN.out; omega) HE.out
        have C1 := Lib.hid (of_any g n cc _ (some ⟨gc, 0, none⟩) cs Crc.tab wr HT.out Crc.tab_len Crc.small_tab (Lies.of_own HO.out) (by omega))
        have C2 := Lib.hid (of_any g n c _ A b Crc.tab wr HT.out Crc.tab_len Crc.small_tab HA.out (by omega))
        generalize Crc.on Crc.tab 0 cs = r1 at *
        generalize Crc.on Crc.tab 0 b = r2 at *
        have hne : ((r1 : Int) != (r2 : Int)) = true := by simp; omega
        clear hne0 hodd2 hxl2 HE HT HA HO hkN hk hcl hbl
        go_wp2_with fail
        refine C1.out.mono ?_
        rintro e w6 ⟨rfl, rfl⟩
        go_wp2_with fail
        refine C2.out.mono ?_
        rintro e w7 ⟨rfl, rfl⟩
        go_wp2
        go_ret
        exact ⟨rfl, HB.out⟩
end Go.Proofs.Ytcbeimoolndomaa
