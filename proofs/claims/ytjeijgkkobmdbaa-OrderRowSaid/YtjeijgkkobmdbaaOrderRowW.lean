/-
  The walk of OrderRow.
-/
import Derived.Test.YtjeijgkkobmdbaaOrderBackW
import Derived.Test.YtjeijgkkobmdbaaEntries
namespace Go.Proofs.Ytjeijgkkobmdbaa
open Go.RowKit
set_option linter.unusedVariables false
set_option maxRecDepth 100000

/-- bytes stand in memory as a value -/
def Bs (w : World) (l : List UInt8) (v : Value) : Prop := ∃ A c, v = .slice A l.length c ∧ l.length ≤ c ∧ c ≤ maxLen ∧ Lies w w.heap.size 1 A l.length (l.map bv)
theorem Bs.of_put {w w' : World} {l : List UInt8} {e : Ending} (h : PutAns w l e w') : ∃ v, e = .returned v ∧ Bs w' l v ∧ Below w.heap.size w w' := by
  obtain ⟨v, rfl, ho, hb⟩ := h
  obtain ⟨A, c, rfl, h1, h2, _⟩ := own_shape ho
  exact ⟨_, rfl, ⟨A, c, rfl, h1, h2, Lies.of_own ho⟩, hb⟩
def W1 (w0 : World) (l : List En) (n : Nat) (v i : Value) (w : World) : Prop := ∃ k : Nat, k ≤ n ∧ i = .int .i64 (k : Int) ∧ Kept w0 w ∧ Bs w (rowE (l.take k)) v ∧ ∀ x ∈ l.take k, Good x
def W2 (w0 : World) (l : List En) (n : Nat) (v i : Value) (w : World) : Prop := ∃ k : Nat, k ≤ n ∧ i = .int .i64 (k : Int) ∧ Kept w0 w ∧ Bs w (rowE (l.drop k)) v

set_option maxHeartbeats 400000 in
theorem orderRow_long (A : Option Addr) (n c : Nat) (w : World) (h : 60 < n) (hc : n ≤ 140737488351232) :
    Calls Try.prog 10 #[.slice A n c] w fun e w' => e = .returned (.bool true) ∧ Below w.heap.size w w' := by
  have hd : decide ((60 : Int) < (n : Int)) = true := by simp; omega
  go_enter Try.func10, Try.ntmps10
  go_wp2_with fail
  refine (alive4_any w).mono ?_
  rintro e w1 ⟨rfl, hb1⟩
  have HB1 : Hid (Kept w w1) := hb1
  clear hb1
  go_wp2_with fail
  refine (alive4_any w1).mono ?_
  rintro e w3 ⟨rfl, hb3⟩
  have HB3 := Lib.hid (HB1.out.on hb3)
  clear hb3 HB1
  go_wp2
  go_ret
  exact ⟨rfl, HB3.out⟩

set_option maxHeartbeats 4000000 in
theorem orderRow_small (A : Option Addr) (n c : Nat) (l : List En) (w : World) (y : Lies w w.heap.size 4 A n (ecs l)) (hm : ∀ x ∈ l, x.m.s < 18446744073709551616 ∧ x.m.k.size ≤ 140737488351232 ∧ x.x.size ≤ 140737488351232) (hn : n ≤ 60) :
    Calls Try.prog 10 #[.slice A n c] w fun e w' => e = .returned (.bool true) ∧ Below w.heap.size w w' := by
  have hll := y.elen
  have Y := Lib.hid y; have HM := Lib.hid hm
  clear y hm
  have hd : decide ((60 : Int) < (n : Int)) = false := by simp; omega
  go_enter Try.func10, Try.ntmps10
  go_wp2_with fail
  refine (alive4_any w).mono ?_
  rintro e w1 ⟨rfl, hb1⟩
  have HB1 : Hid (Kept w w1) := hb1
  clear hb1
  go_wp2_with fail
  refine (entriesSize_any A n c l w1 ((Y.out.below HB1.out).more HB1.out.size) HM.out (by omega)).mono ?_
  rintro e w2 ⟨z, q, rfl, rfl, hz⟩
  have HB2 : Hid (Kept w (w1.drewN q)) := below_drewN HB1.out q
  clear HB1
  generalize w1.drewN q = w2 at *
  by_cases hbig : 40000 < z
  · have hd2 : decide ((40000 : Int) < (z : Int)) = true := by simp; omega
    go_wp2_with fail
    refine (alive4_any w2).mono ?_
    rintro e w3 ⟨rfl, hb3⟩
    have HB3 := Lib.hid (HB2.out.on hb3)
    clear hb3 HB2
    go_wp2
    go_ret
    exact ⟨rfl, HB3.out⟩
  · have hd2 : decide ((40000 : Int) < (z : Int)) = false := by simp; omega
    have hsum : esum l ≤ 40000 := by have := hz (by omega); omega
    have HR0 : Hid (W1 w l n (.slice none 0 0) (.int .i64 0) w2) := ⟨0, Nat.zero_le _, rfl, HB2.out, ⟨none, 0, rfl, Nat.le_refl _, Nat.zero_le _, Lies.none_ _ _ _ _⟩, by simp⟩
    have HLT : Hid (∀ k, (rowE (l.take k)).length ≤ 42000) := fun k => by
      have h1 := rowE_len (l.take k)
      have h2 := esum_take_le l k
      have h3 : (l.take k).length ≤ l.length := by rw [List.length_take]; exact Nat.min_le_right _ _
      omega
    have HLD : Hid (∀ k, (rowE (l.drop k)).length ≤ 42000) := fun k => by
      have h1 := rowE_len (l.drop k)
      have h2 := esum_drop_le l k
      have h3 : (l.drop k).length ≤ l.length := by rw [List.length_drop]; exact Nat.sub_le _ _
      omega
    clear hz
    go_wp2
    go_loopw [3, 4] (fun v i wr => W1 w l n v i wr) (fun _ i _ => n - (intOf i).toNat)
    case atStart => exact HR0.out
    case round =>
      clear HR0 HB2
      obtain ⟨k, hk, rfl, hkw, ⟨A5, c5, rfl, hnc5, hcm5, hl5⟩, hgood⟩ := hrel
      have HK := Lib.hid hkw; have HL5 := Lib.hid hl5; have HGD := Lib.hid hgood
      have hlen := HLT.out k
      clear hkw hl5 hgood
      by_cases hlt : k < n
      · obtain ⟨b, o, x, rfl, hbB, hu, c0, c1, c2, c3⟩ := Y.out.entry hlt
        have hmem := List.mem_of_getElem? hu
        have hxs := Nat.le_trans (esum_mem l x hmem) hsum
        have hx64 := (HM.out x hmem).1
        have hks : x.m.k.size ≤ 40000 := by omega
        have HC : Hid (∀ W, Kept w W → W.cell? ⟨b, o + k * 4, none⟩ = some (.string x.m.k) ∧ W.cell? ⟨b, o + k * 4 + 1, none⟩ = some (.int .u64 (x.m.s : Int)) ∧ W.cell? ⟨b, o + k * 4 + 2, none⟩ = some (.bool x.m.g) ∧ W.cell? ⟨b, o + k * 4 + 3, none⟩ = some (.string x.x)) := fun W h => ⟨(h.cell hbB).trans c0, (h.cell hbB).trans c1, (h.cell hbB).trans c2, (h.cell hbB).trans c3⟩
        have HSN := Lib.hid (rowE_take l k x hu)
        have HTK : Hid (l.take (k + 1) = l.take k ++ [x]) := by unfold Hid; rw [List.take_add_one, hu]; rfl
        have HPut := Lib.hid (oput_any A5 (rowE (l.take k)).length c5 (rowE (l.take k)) x wr HL5.out hx64 (by omega))
        have HCH := Lib.hid (chk_any x.m.k wr (by omega))
        have hi0 : (0 : Int) ≤ (k : Int) := by omega
        have hi1 : (k : Int) < (n : Int) := by omega
        clear c0 c1 c2 c3 hu hmem HL5
        obtain ⟨⟨ky, s, g⟩, v⟩ := x
        obtain ⟨q0, q1, q2, q3⟩ := HC.out wr HK.out
        dsimp only at q0 q1 q2 q3 HCH
        go_wp2_with fail
        cases hck : chk ky
        · rw [hck] at HCH
          refine HCH.out.mono ?_
          rintro e w3 ⟨rfl, rfl⟩
          go_wp2
          go_ret
          exact ⟨rfl, HK.out⟩
        · rw [hck] at HCH
          refine HCH.out.mono ?_
          rintro e w3 ⟨rfl, rfl⟩
          by_cases hsz : 256 < v.size
          · have d1 : decide ((256 : Int) < (v.size : Int)) = true := by simp; omega
            go_wp2
            go_ret
            exact ⟨rfl, HK.out⟩
          · have d1 : decide ((256 : Int) < (v.size : Int)) = false := by simp; omega
            cases g
            · go_wp2_with fail
              refine HPut.out.mono ?_
              rintro e w4 hp
              obtain ⟨v4, rfl, hbs, hb4⟩ := Bs.of_put hp
              have R : Hid (W1 w l n v4 (.int .i64 ((k : Int) + 1)) w4) := ⟨k + 1, hlt, by simp, HK.out.on hb4, by rw [HSN.out]; exact hbs, by
                rw [HTK.out]
                intro y hy
                rcases List.mem_append.1 hy with hy | hy
                · exact HGD.out y hy
                · rw [List.mem_singleton.1 hy]; exact ⟨hck, by show v.size ≤ 256; omega, fun h => by cases h⟩⟩
              clear hp hbs hb4
              go_wp2
              go_roundw
              case rel => exact R.out
              case measure => simp [intOf]; omega
            · by_cases hv : v = ByteArray.empty
              · subst hv
                go_wp2_with fail
                refine HPut.out.mono ?_
                rintro e w4 hp
                obtain ⟨v4, rfl, hbs, hb4⟩ := Bs.of_put hp
                have R : Hid (W1 w l n v4 (.int .i64 ((k : Int) + 1)) w4) := ⟨k + 1, hlt, by simp, HK.out.on hb4, by rw [HSN.out]; exact hbs, by
                  rw [HTK.out]
                  intro y hy
                  rcases List.mem_append.1 hy with hy | hy
                  · exact HGD.out y hy
                  · rw [List.mem_singleton.1 hy]; exact ⟨hck, Nat.zero_le _, fun _ => rfl⟩⟩
                clear hp hbs hb4
                go_wp2
                go_roundw
                case rel => exact R.out
                case measure => simp [intOf]; omega
              · have hv2 : v.toList.isEmpty = false := by
                  rw [Lib.toList_data]
                  cases hl : v.data.toList with
                  | nil => exact absurd (by obtain ⟨⟨d⟩⟩ := v; simp at hl; subst hl; rfl) hv
                  | cons a t => rfl
                go_wp2
                go_ret
                exact ⟨rfl, HK.out⟩
      · have hkn : k = n := by omega
        have hfull : l.take k = l := List.take_of_length_le (by omega)
        rw [hfull] at HL5 hnc5 hlen HGD ⊢
        have HR1 : Hid (W2 w l n (.slice A5 (rowE l).length c5) (.int .i64 0) wr) := ⟨0, Nat.zero_le _, rfl, HK.out, ⟨A5, c5, by rw [List.drop_zero], by rw [List.drop_zero]; exact hnc5, hcm5, by rw [List.drop_zero]; exact HL5.out⟩⟩
        clear hkn hfull HLT HK HL5
        go_wp2
        go_loopw [3, 5] (fun v i wr => W2 w l n v i wr) (fun _ i _ => n - (intOf i).toNat)
        case atStart => exact HR1.out
        case round =>
          clear HR1
          obtain ⟨k2, hk2, rfl, hkw, ⟨A6, c6, rfl, hnc6, hcm6, hl6⟩⟩ := hrel
          have HK := Lib.hid hkw; have HL6 := Lib.hid hl6
          have hlen2 := HLD.out k2
          clear hkw hl6
          by_cases hlt2 : k2 < n
          · obtain ⟨b, o, x, rfl, hbB, hu, c0, c1, c2, c3⟩ := Y.out.entry hlt2
            have hmem := List.mem_of_getElem? hu
            have hxs := Nat.le_trans (esum_mem l x hmem) hsum
            have hx64 := (HM.out x hmem).1
            have HC : Hid (∀ W, Kept w W → W.cell? ⟨b, o + k2 * 4, none⟩ = some (.string x.m.k) ∧ W.cell? ⟨b, o + k2 * 4 + 1, none⟩ = some (.int .u64 (x.m.s : Int)) ∧ W.cell? ⟨b, o + k2 * 4 + 2, none⟩ = some (.bool x.m.g) ∧ W.cell? ⟨b, o + k2 * 4 + 3, none⟩ = some (.string x.x)) := fun W h => ⟨(h.cell hbB).trans c0, (h.cell hbB).trans c1, (h.cell hbB).trans c2, (h.cell hbB).trans c3⟩
            have HDR := Lib.hid (rowE_drop l k2 x hu)
            have hel := encE_len x
            have HG := oget_any A6 (rowE (l.drop k2)).length c6 (rowE (l.drop k2)) wr HL6.out hnc6 hcm6
            rw [HDR.out, got_good x _ (by omega) hx64 (HGD.out x hmem)] at HG
            obtain ⟨X, hX⟩ : ∃ X, rowE (l.drop (k2 + 1)) = X := ⟨_, rfl⟩
            obtain ⟨E, hE⟩ : ∃ E, encE x = E := ⟨_, rfl⟩
            rw [HDR.out, hX, hE] at HL6 hnc6 hlen2
            rw [hX, hE] at HG
            rw [HDR.out, hX, hE]
            rw [hE] at hel
            obtain ⟨M, hM⟩ : ∃ M, X.length = M := ⟨_, rfl⟩
            obtain ⟨m, hm⟩ : ∃ m, E.length = m := ⟨_, rfl⟩
            rw [List.length_append, hM, hm] at HL6 hnc6 hlen2 HG ⊢
            rw [hm] at hel
            have HGG := Lib.hid HG
            have HX := Lib.hid hX; have HMM := Lib.hid hM; have Hm := Lib.hid hm
            have hi0 : (0 : Int) ≤ (k2 : Int) := by omega
            have hi1 : (k2 : Int) < (n : Int) := by omega
            have d1 : decide ((m : Int) < 3) = false := by simp; omega
            have d2 : decide ((m : Int) + (M : Int) < (m : Int)) = false := by simp; omega
            have d3 : decide (m + M < m) = false := by simp
            have cutk : ∀ W, (Instr.slice 28 (.slice A6 (m + M) c6) (some (.int .i64 (m : Int))) none none).run Try.prog W = .ok (.slice (cutA A6 c6 m) M (c6 - m)) W := fun W => by
              have h := run_cut W A6 (m + M) c6 m (by omega)
              rw [Nat.add_sub_cancel_left] at h; exact h
            clear c0 c1 c2 c3 hu hmem HG hX hM hm hE HDR hxs
            obtain ⟨⟨ky, s, g⟩, v⟩ := x
            unfold GotE En.v at HGG
            dsimp only at HGG HC
            go_wp2_with fail
            refine HGG.out.mono ?_
            rintro e w7 ⟨rfl, hb7⟩
            have HK7 := Lib.hid (HK.out.on hb7)
            have HL7 := Lib.hid (Kept.lies hb7 HL6.out)
            have HK8 := Lib.hid (HK7.out.new (.cells #[.string ky, .int .u64 (s : Int), .bool g, .string v] 32))
            have HL8 := Lib.hid (Kept.lies (((Kept.self w7).new (.cells #[.string ky, .int .u64 (s : Int), .bool g, .string v] 32))) HL7.out)
            have HZ8 := Lib.hid (EnIn.new w7 ⟨⟨ky, s, g⟩, v⟩)
            clear hb7 HK HL6 HK7 HL7 HGG
            go_wp2_with fail
            generalize (w7.alloc (.cells #[.string ky, .int .u64 (s : Int), .bool g, .string v] 32)) = w8 at *
            have z8 := HZ8.out.1.cell
            obtain ⟨q0, q1, q2, q3⟩ := HC.out w8 HK8.out
            go_quiet (fail)
            go_wp2
            have R : Hid (∀ nq, W2 w l n (.slice (cutA A6 c6 m) M (c6 - m)) (.int .i64 ((k2 : Int) + 1)) (w8.drewN nq)) := by
              intro nq
              refine ⟨k2 + 1, hlt2, by simp, below_drewN HK8.out nq, ?_⟩
              rw [HX.out]
              have h1 := (HL8.out.drewN nq).cutA (m := m) (c := c6) (by omega) hnc6
              rw [List.drop_left' Hm.out, Nat.add_sub_cancel_left] at h1
              have hMM := HMM.out
              subst hMM
              exact ⟨_, _, rfl, by omega, by omega, h1⟩
            go_roundw
            case rel => exact R.out _
            case measure => simp [intOf]; omega
          · have hk2n : k2 = n := by omega
            have hnil : l.drop k2 = [] := List.drop_eq_nil_of_le (by omega)
            rw [hnil] at HL6 hnc6 ⊢
            have HG := oget_any A6 0 c6 [] wr HL6.out hnc6 hcm6
            rw [got_nil] at HG
            unfold GotE En.zero En.v at HG
            dsimp only at HG
            have HGG := Lib.hid HG
            clear HG HL6 hk2n hnil
            go_wp2_with fail
            refine HGG.out.mono ?_
            rintro e w7 ⟨rfl, hb7⟩
            have HK8 := Lib.hid ((HK.out.on hb7).new (.cells #[.string ByteArray.empty, .int .u64 (0 : Int), .bool false, .string ByteArray.empty] 32))
            clear hb7 HGG HK
            go_wp2
            go_ret
            exact ⟨rfl, HK8.out⟩

theorem orderRow_walk (A : Option Addr) (n c : Nat) (l : List En) (w : World) (y : Lies w w.heap.size 4 A n (ecs l)) (hm : ∀ x ∈ l, x.m.s < 18446744073709551616 ∧ x.m.k.size ≤ 140737488351232 ∧ x.x.size ≤ 140737488351232) (hll : l.length = n) (hnc : n ≤ c) (hc : c ≤ 140737488351232) :
    Calls Try.prog 10 #[.slice A n c] w fun e w' => e = .returned (.bool true) ∧ Below w.heap.size w w' := by
  by_cases h : 60 < n
  · exact orderRow_long A n c w h (by omega)
  · exact orderRow_small A n c l w y hm (by omega)
end Go.Proofs.Ytjeijgkkobmdbaa
