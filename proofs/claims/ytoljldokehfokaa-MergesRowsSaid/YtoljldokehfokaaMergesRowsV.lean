/-
  The walk of MergesRows.
-/
import Derived.Test.YtoljldokehfokaaLaw12
import Derived.Test.YtoljldokehfokaaMgST
import Derived.Test.YtoljldokehfokaaHelp12
import Derived.Deep.Cut
namespace Go.Proofs.Ytoljldokehfokaa
open Go.RowKit
set_option linter.unusedVariables false
set_option maxRecDepth 100000

theorem at_worldM {Q : Exit → Act → World → Prop} {e : Exit} {a : Act} {W : World} (P : World → Prop) (hP : P W) (h : ∀ W5, P W5 → Q e a W5) : Q e a W := h W hP
def RowI (w2 : World) (S : List En) (s : Nat) (v n last i : Value) (wr : World) : Prop :=
  ∃ k : Nat, k ≤ S.length ∧ i = .int .i64 (k : Int) ∧ n = .int .i64 (((rowsV s (S.take k)).length : Nat) : Int) ∧ last = .string (endK (upto s (S.take k))) ∧
    wr.ownsRow w2.heap.size 31 4 v (upto s (S.take k)).length (ecs (upto s (S.take k))) ∧ Below w2.heap.size w2 wr
theorem ecs_app12 (a b : List En) : ecs a ++ ecs b = ecs (a ++ b) := by unfold ecs; rw [List.flatMap_append]
theorem upto_size {s : Nat} {S : List En} {k : Nat} (h : S.length ≤ 150) : (upto s (S.take k)).length ≤ 150 := by
  have := upto_len s (S.take k)
  have : (S.take k).length ≤ S.length := by rw [List.length_take]; omega
  omega

set_option maxHeartbeats 16000000 in
theorem mergesRows_walk0 (HAL : ∀ w, Calls Try.prog 6 #[] w fun e w' => e = .returned (.bool true) ∧ Below w.heap.size w w') (A : Option Addr) (n c : Nat) (l : List En) (s : Nat) (W : World) (hl : Lies W W.heap.size 4 A n (ecs l)) (hu : Fits l) (hn : l.length = n) (hnc : n ≤ c) (hc : c ≤ 140737488351232) (hs : s < 18446744073709551616) :
    Calls Try.prog 4 #[.slice A n c, .int .u64 (s : Int)] W fun e W' => e = .returned (.bool true) ∧ Below W.heap.size W W' := by
  have HEL := Lib.hid (el_of hl hu hnc hc)
  have HU := Lib.hid hu; have HN := Lib.hid hn; have HL := Lib.hid hl
  have HA := Lib.hid HAL
  clear hl hu hn HAL
  go_enter Try.func4, Try.ntmps4
  go_wp2_with fail
  with_reducible refine Calls.mono (HA.out W) ?_
  rintro e w1 ⟨rfl, hb1⟩
  have H1 := Lib.hid hb1
  have HG := Lib.hid (many12_any A n c l w1 ((HL.out.below hb1).more hb1.size) HU.out (by omega))
  clear hb1
  go_wp2_with fail
  with_reducible refine Calls.mono HG.out ?_
  rintro e w1b ⟨b, rfl, hb3, hb2⟩
  have H1 := Lib.hid (H1.out.trans (hb2.mono H1.out.size))
  clear hb2 HG
  cases b with
  | true =>
    clear hb3
    go_wp2_with fail
    with_reducible refine Calls.mono (HA.out w1b) ?_
    rintro e w2 ⟨rfl, hb2⟩
    have HF := Lib.hid (H1.out.trans (hb2.mono H1.out.size))
    clear hb2
    go_wp2
    go_ret
    exact ⟨rfl, HF.out⟩
  | false =>
    have hn150 := hb3 rfl
    have HE1 := Lib.hid (HEL.out.below H1.out)
    have HSe := Lib.hid (see_any W.heap.size n c A l s w1b HE1.out (by omega))
    clear hb3
    go_wp2_with fail
    with_reducible refine Calls.mono HSe.out ?_
    rintro e w2 ⟨hb2, hor⟩
    have H2 := Lib.hid (H1.out.trans (hb2.mono H1.out.size))
    have HE2 := Lib.hid (HE1.out.below hb2)
    clear HSe HE1
    rcases hor with ⟨hr, v, rfl, ho⟩ | ⟨hno, rfl⟩
    · obtain ⟨A2, c2, rfl, hrc, hc2, _⟩ := own_shape ho
      have HR := Lib.hid hr
      have HLr := Lib.hid (Lies.of_own ho)
      have HRf := Lib.hid (rowsV_len s l)
      have HR0 : Hid (RowI w2 l s (.slice none 0 0) (.int .i64 0) (.string ⟨#[]⟩) (.int .i64 0) w2) := ⟨0, Nat.zero_le _, rfl, rfl, rfl, ⟨rfl, .inl ⟨rfl, rfl⟩⟩, Below.refl _ _⟩
      obtain ⟨R, hR⟩ : ∃ R, rowsV s l = R := ⟨_, rfl⟩
      rw [hR] at HLr HRf hrc ⊢
      obtain ⟨r, hrr⟩ : ∃ r, R.length = r := ⟨_, rfl⟩
      rw [hrr] at HLr HRf hrc ⊢
      have hr150 : r ≤ 150 := by have := HRf.out; have := HN.out; omega
      have HRR := Lib.hid hrr; have HRV := Lib.hid hR
      clear hr ho hb2 hR hrr
      go_wp2
      go_loopw [7, 8, 9, 10] (fun v n last i wr => RowI w2 l s v n last i wr) (fun _ _ _ i _ => n - (intOf i).toNat)
      case atStart => exact HR0.out
      case round =>
        clear HR0
        obtain ⟨k, hk, rfl, rfl, rfl, ho, hb⟩ := hrel
        have HN' := HN.out
        obtain ⟨Av, cv, rfl, _⟩ := own_shape ho
        have hq150 := upto_size (s := s) (k := k) (S := l) (by omega)
        have hpre := rowsV_pre s l k
        have hm150 : (rowsV s (l.take k)).length ≤ 150 := by have := hpre.length_le; rw [HRV.out, HRR.out] at this; omega
        have HB := Lib.hid hb
        by_cases hlt : k < n
        · obtain ⟨eb, eo, x, rfl, heb, hx, c0, c1, c2, c3'⟩ := (HE2.out.below hb).lies.entry hlt
          have htk : l.take (k + 1) = l.take k ++ [x] := by rw [List.take_add_one, hx]; rfl
          have hxr : Rise (l.take k ++ [x]) := by rw [← htk]; exact HR.out.sublist (List.take_sublist _ _)
          have hsn := rowsV_snoc s (l.take k) x
          have hus := upto_snoc s (l.take k) x
          have hi0' : (0 : Int) ≤ (k : Int) := by omega
          have hi1 : (k : Int) < (n : Int) := by omega
          have hit : ((k : Int)).toNat = k := by simp
          have hebw : eb < W.heap.size := heb
          have HXe : Hid (∀ W', Below wr.heap.size wr W' → W'.cell? ⟨eb, eo + k * 4, none⟩ = some (.string x.m.k) ∧ W'.cell? ⟨eb, eo + k * 4 + 1, none⟩ = some (.int .u64 (x.m.s : Int)) ∧ W'.cell? ⟨eb, eo + k * 4 + 2, none⟩ = some (.bool x.m.g) ∧ W'.cell? ⟨eb, eo + k * 4 + 3, none⟩ = some (.string x.x)) := fun W' hb' => by
            have hlt' : eb < wr.heap.size := by have := HB.out.size; have := H2.out.size; omega
            exact ⟨(hb'.cell (p := ⟨eb, eo + k * 4, none⟩) hlt').trans c0, (hb'.cell (p := ⟨eb, eo + k * 4 + 1, none⟩) hlt').trans c1, (hb'.cell (p := ⟨eb, eo + k * 4 + 2, none⟩) hlt').trans c2, (hb'.cell (p := ⟨eb, eo + k * 4 + 3, none⟩) hlt').trans c3'⟩
          by_cases hss : x.m.s ≤ s
          · have hgt : ¬ ((x.m.s : Int) > (s : Int)) := by omega
            have hsb := seenB_old hxr hss
            rw [if_pos hss] at hus
            have hpre1 := rowsV_pre s l (k + 1)
            rw [htk, hsn, HRV.out] at hpre1
            have HKs : Hid (∀ W' w3 v3, Below wr.heap.size wr W' → w3.ownsRow w2.heap.size 31 4 v3 ((upto s (l.take k)).length + 1) (ecs (upto s (l.take k)) ++ ecs [x]) → (W'.alloc (.cells #[.string x.m.k, .int .u64 (x.m.s : Int), .bool x.m.g, .string x.x] 31)).grownBy w3 (Value.slice Av (upto s (l.take k)).length cv).ownBlock →
                w3.ownsRow w2.heap.size 31 4 v3 (upto s (l.take (k + 1))).length (ecs (upto s (l.take (k + 1)))) ∧ Below w2.heap.size w2 w3 ∧ endK (upto s (l.take (k + 1))) = x.m.k) := fun W' w3 v3 hb' ho3 hg3 => by
              have hal := al_belowM W' (.cells #[.string x.m.k, .int .u64 (x.m.s : Int), .bool x.m.g, .string x.x] 31)
              have hB := HB.out.trans ((hb'.trans (hal.mono hb'.size)).mono HB.out.size)
              have hou := own_below ho (hb'.trans (hal.mono hb'.size))
              rw [htk, hus]
              refine ⟨by rw [List.length_append, ← ecs_app12]; exact ho3, hB.grown hg3 hB.size (fun k hk => (hou.lt k hk).1), endK_snoc _ _⟩
            have HOw : Hid (∀ W', Below wr.heap.size wr W' → w2.heap.size ≤ W'.heap.size ∧ ∀ ob : Obj, (W'.alloc ob).ownsRow w2.heap.size 31 4 (.slice Av (upto s (l.take k)).length cv) (upto s (l.take k)).length (ecs (upto s (l.take k)))) := fun W' hb' =>
              ⟨Nat.le_trans HB.out.size hb'.size, fun ob => own_below ho (hb'.trans ((al_belowM W' ob).mono hb'.size))⟩
            have HEnl := Lib.hid (fun W' => en_lies W' x)
            unfold enW at HEnl
            obtain ⟨i0, hi, hz0, hz1, hz2⟩ := info_parts entry_info
            have HRL : Hid (Lies wr wr.heap.size 2 A2 r (rcs R)) := by
              have h := HLr.out
              have hb9 := HB.out
              exact ((h.more (by omega)).below HB.out).more HB.out.size
            obtain ⟨m, hm⟩ : ∃ m, (rowsV s (l.take k)).length = m := ⟨_, rfl⟩
            rw [hm] at hm150 ⊢
            have HNy : Hid (seenB s (l.take k) x = true → x.m.g = false → m < r ∧ R[m]? = some (x.m.k, x.x) ∧ (rowsV s (l.take (k + 1))).length = m + 1) := fun h1 h2 => by
              have e : rowsV s (l.take k) ++ [(x.m.k, x.x)] <+: R := by have := hpre1; rw [h1, h2] at this; simpa using this
              obtain ⟨T, hT⟩ := e
              have hl1 := congrArg List.length hT
              rw [List.length_append, List.length_append, hm, HRR.out] at hl1
              simp only [List.length_cons, List.length_nil] at hl1
              refine ⟨by omega, ?_, ?_⟩
              · rw [← hT, List.append_assoc, List.getElem?_append_right (by omega), hm]; simp
              · rw [htk, hsn, h1, h2]; simp [hm]
            have HNn : Hid ((seenB s (l.take k) x && !x.m.g) = false → (rowsV s (l.take (k + 1))).length = m) := fun h1 => by
              rw [htk, hsn, h1]
              simp [hm]
            have HSB := Lib.hid hsb
            have HKk := Lib.hid htk
            obtain ⟨F, hF⟩ : ∃ F, upto s (l.take k) = F := ⟨_, rfl⟩
            rw [hF] at HOw HKs HSB hq150 ⊢
            obtain ⟨q, hq⟩ : ∃ q, F.length = q := ⟨_, rfl⟩
            rw [hq] at HOw HKs hq150 ⊢
            have HQ := Lib.hid hq
            obtain ⟨gg, hgg⟩ : ∃ gg, x.m.g = gg := ⟨_, rfl⟩
            rw [hgg] at c2 HXe HKs HEnl HNy HNn
            obtain ⟨ek, hek⟩ : ∃ ek, endK F = ek := ⟨_, rfl⟩
            rw [hek] at HSB ⊢
            have hkl := txt_eqB x.m.k ek
            have hee : (x.m.k.toList == x.m.k.toList) = true := by simp
            have hee2 : (x.x.toList == x.x.toList) = true := by simp
            have hm0 : (0 : Int) ≤ (m : Int) := by omega
            have hmt : ((m : Int)).toNat = m := by simp
            have hks : k + 1 ≤ l.length := by omega
            clear hb ho hpre hpre1 hx htk hxr hsn hus hsb hm hF hq hgg hek hr150
            have HNx : Hid (∀ W4 w3, Below wr.heap.size wr W4 → ∀ v3, w3.ownsRow w2.heap.size 31 4 v3 (q + 1) (ecs F ++ ecs [x]) → (W4.alloc (.cells #[.string x.m.k, .int .u64 (x.m.s : Int), .bool gg, .string x.x] 31)).grownBy w3 (Value.slice Av q cv).ownBlock → ∀ m' : Nat, (rowsV s (l.take (k + 1))).length = m' → ∀ mi : Int, mi = (m' : Int) →
                RowI w2 l s v3 (.int .i64 mi) (.string x.m.k) (.int .i64 ((k : Int) + 1)) w3) := fun W4 w3 hb4 v3 ho3 hg3 m' hm' mi hmi => by
              obtain ⟨h1, h2, h3⟩ := HKs.out W4 w3 v3 hb4 ho3 hg3
              exact ⟨k + 1, hks, by go_num, by rw [hm', hmi], by rw [h3], h1, h2⟩
            clear HKs
            by_cases hq0 : q = 0
            · subst hq0
              have hseen : seenB s (l.take k) x = true := HSB.out.2 (.inl (List.eq_nil_of_length_eq_zero HQ.out))
              cases gg with
              | true =>
                have HM := Lib.hid (HNn.out (by rw [hseen]; rfl))
                clear hseen HNn HNy HSB hkl
                have hb4 : Below wr.heap.size wr wr := Below.refl _ _
                go_wp2_with (at_builtin; refine wpList_app _ rfl (.tmp 115) (.tmp 120) 22 rfl w2.heap.size 31 i0 _ 4 48 Try.underlying22 hi hz0 hz1 hz2 rfl (by decide) (.slice Av 0 cv) 0 (ecs F) rfl ((HOw.out _ hb4).2 _) (wr.heap.size + 1) (some ⟨wr.heap.size, 0, none⟩) 1 1 (ecs [x]) rfl (HEnl.out wr) (ecs_one _) (by unfold maxLen; omega) (by omega) (by have := (HOw.out _ hb4).1; simp; omega) ?_; intro v3 w3 ho3 hg3 hat3; obtain ⟨A3, c3, rfl, _⟩ := own_shape ho3)
                have HR := Lib.hid (HNx.out wr w3 hb4 (.slice A3 (0 + 1) c3) ho3 hg3 _ HM.out _ (by first | rfl | go_num | simp))
                clear ho3 hg3 hat3 c0 c1 c2 c3' hb4
                go_wp2
                go_roundw
                case rel => exact HR.out
                case measure => simp [intOf]; omega
              | false =>
                obtain ⟨hmr, hRm, hM⟩ := HNy.out hseen rfl
                have HM := Lib.hid hM
                obtain ⟨b2, o2, y2, rfl, hb2', hy2, d0, d1⟩ := HRL.out.rw_ hmr
                rw [hRm] at hy2
                injection hy2 with hy2
                subst hy2
                have hmi : (m : Int) < (r : Int) := by omega
                have hmi2 : ¬ ((m : Int) ≥ (r : Int)) := by omega
                clear hseen HNn HNy HSB hkl hRm hM
                go_wp2_with fail
                go_quiet (fail)
                refine at_worldM (fun W5 => Below wr.heap.size wr W5) (below_drewN (Below.refl _ _) _) ?_
                intro W4 hb4
                clear c0 c1 c2 c3'
                obtain ⟨c0, c1, c2, c3'⟩ := HXe.out W4 hb4
                go_wp2_with (at_builtin; refine wpList_app _ rfl (.tmp 115) (.tmp 120) 22 rfl w2.heap.size 31 i0 _ 4 48 Try.underlying22 hi hz0 hz1 hz2 rfl (by decide) (.slice Av 0 cv) 0 (ecs F) rfl ((HOw.out _ hb4).2 _) (W4.heap.size + 1) (some ⟨W4.heap.size, 0, none⟩) 1 1 (ecs [x]) rfl (HEnl.out W4) (ecs_one _) (by unfold maxLen; omega) (by omega) (by have := (HOw.out _ hb4).1; simp; omega) ?_; intro v3 w3 ho3 hg3 hat3; obtain ⟨A3, c3, rfl, _⟩ := own_shape ho3)
                have HR := Lib.hid (HNx.out W4 w3 hb4 (.slice A3 (0 + 1) c3) ho3 hg3 _ HM.out _ (by first | rfl | go_num | simp))
                clear ho3 hg3 hat3 c0 c1 c2 c3' hb4
                go_wp2
                go_roundw
                case rel => exact HR.out
                case measure => simp [intOf]; omega
            · have hqi : ¬ ((q : Int) = 0) := by omega
              have hqb : ((q : Int) == 0) = false := by simpa using hqi
              by_cases hkk : x.m.k = ek
              · have hke : (x.m.k.toList == ek.toList) = true := by rw [hkl]; exact decide_eq_true hkk
                have hseen : seenB s (l.take k) x = false := by
                  cases h : seenB s (l.take k) x with
                  | false => rfl
                  | true =>
                    rcases HSB.out.1 h with h2 | h2
                    · rw [h2] at HQ; exact absurd HQ.out.symm hq0
                    · exact absurd hkk.symm h2
                have HM := Lib.hid (HNn.out (by rw [hseen]; rfl))
                clear hseen HNn HNy HSB hkl hkk
                have hb4 : Below wr.heap.size wr wr := Below.refl _ _
                go_wp2_with (at_builtin; refine wpList_app _ rfl (.tmp 115) (.tmp 120) 22 rfl w2.heap.size 31 i0 _ 4 48 Try.underlying22 hi hz0 hz1 hz2 rfl (by decide) (.slice Av q cv) q (ecs F) rfl ((HOw.out _ hb4).2 _) (wr.heap.size + 1) (some ⟨wr.heap.size, 0, none⟩) 1 1 (ecs [x]) rfl (HEnl.out wr) (ecs_one _) (by unfold maxLen; omega) (by omega) (by have := (HOw.out _ hb4).1; simp; omega) ?_; intro v3 w3 ho3 hg3 hat3; obtain ⟨A3, c3, rfl, _⟩ := own_shape ho3)
                have HR := Lib.hid (HNx.out wr w3 hb4 (.slice A3 (q + 1) c3) ho3 hg3 _ HM.out _ (by first | rfl | go_num | simp))
                clear ho3 hg3 hat3 c0 c1 c2 c3' hb4
                go_wp2
                go_roundw
                case rel => exact HR.out
                case measure => simp [intOf]; omega
              · have hke : (x.m.k.toList == ek.toList) = false := by rw [hkl]; exact decide_eq_false hkk
                have hseen : seenB s (l.take k) x = true := HSB.out.2 (.inr (fun h => hkk h.symm))
                cases gg with
                | true =>
                  have HM := Lib.hid (HNn.out (by rw [hseen]; rfl))
                  clear hseen HNn HNy HSB hkl hkk
                  have hb4 : Below wr.heap.size wr wr := Below.refl _ _
                  go_wp2_with (at_builtin; refine wpList_app _ rfl (.tmp 115) (.tmp 120) 22 rfl w2.heap.size 31 i0 _ 4 48 Try.underlying22 hi hz0 hz1 hz2 rfl (by decide) (.slice Av q cv) q (ecs F) rfl ((HOw.out _ hb4).2 _) (wr.heap.size + 1) (some ⟨wr.heap.size, 0, none⟩) 1 1 (ecs [x]) rfl (HEnl.out wr) (ecs_one _) (by unfold maxLen; omega) (by omega) (by have := (HOw.out _ hb4).1; simp; omega) ?_; intro v3 w3 ho3 hg3 hat3; obtain ⟨A3, c3, rfl, _⟩ := own_shape ho3)
                  have HR := Lib.hid (HNx.out wr w3 hb4 (.slice A3 (q + 1) c3) ho3 hg3 _ HM.out _ (by first | rfl | go_num | simp))
                  clear ho3 hg3 hat3 c0 c1 c2 c3' hb4
                  go_wp2
                  go_roundw
                  case rel => exact HR.out
                  case measure => simp [intOf]; omega
                | false =>
                  obtain ⟨hmr, hRm, hM⟩ := HNy.out hseen rfl
                  have HM := Lib.hid hM
                  obtain ⟨b2, o2, y2, rfl, hb2', hy2, d0, d1⟩ := HRL.out.rw_ hmr
                  rw [hRm] at hy2
                  injection hy2 with hy2
                  subst hy2
                  have hmi : (m : Int) < (r : Int) := by omega
                  have hmi2 : ¬ ((m : Int) ≥ (r : Int)) := by omega
                  clear hseen HNn HNy HSB hkl hkk hRm hM
                  go_wp2_with fail
                  go_quiet (fail)
                  refine at_worldM (fun W5 => Below wr.heap.size wr W5) (below_drewN (Below.refl _ _) _) ?_
                  intro W4 hb4
                  clear c0 c1 c2 c3'
                  obtain ⟨c0, c1, c2, c3'⟩ := HXe.out W4 hb4
                  go_wp2_with (at_builtin; refine wpList_app _ rfl (.tmp 115) (.tmp 120) 22 rfl w2.heap.size 31 i0 _ 4 48 Try.underlying22 hi hz0 hz1 hz2 rfl (by decide) (.slice Av q cv) q (ecs F) rfl ((HOw.out _ hb4).2 _) (W4.heap.size + 1) (some ⟨W4.heap.size, 0, none⟩) 1 1 (ecs [x]) rfl (HEnl.out W4) (ecs_one _) (by unfold maxLen; omega) (by omega) (by have := (HOw.out _ hb4).1; simp; omega) ?_; intro v3 w3 ho3 hg3 hat3; obtain ⟨A3, c3, rfl, _⟩ := own_shape ho3)
                  have HR := Lib.hid (HNx.out W4 w3 hb4 (.slice A3 (q + 1) c3) ho3 hg3 _ HM.out _ (by first | rfl | go_num | simp))
                  clear ho3 hg3 hat3 c0 c1 c2 c3' hb4
                  go_wp2
                  go_roundw
                  case rel => exact HR.out
                  case measure => simp [intOf]; omega
          · have hgt : ((x.m.s : Int) > (s : Int)) := by omega
            have hno := seenB_no (s := s) (P := l.take k) hss
            rw [if_neg hss] at hus
            have HRn : Hid (RowI w2 l s (.slice Av (upto s (l.take k)).length cv) (.int .i64 (((rowsV s (l.take k)).length : Nat) : Int)) (.string (endK (upto s (l.take k)))) (.int .i64 ((k : Int) + 1)) wr) :=
              ⟨k + 1, by omega, by go_num, by rw [htk, hsn, hno]; simp, by rw [htk, hus], by rw [htk, hus]; exact ho, hb⟩
            clear hb ho hpre hx htk hxr hsn hus hno hr150
            go_wp2
            go_roundw
            case rel => exact HRn.out
            case measure => simp [intOf]; omega
        · obtain rfl : k = n := by omega
          have htk : l.take k = l := List.take_of_length_le (by omega)
          rw [htk] at ho hq150 ⊢
          rw [HRV.out, HRR.out]
          have hup := rowsV_upto (s := s) (m := 18446744073709551615) (S := l) (fun x hx => by have := (HU.out x hx).1; omega)
          rw [HRV.out] at hup
          have hELo : EL wr wr.heap.size Av (upto s l).length cv (upto s l) := by
            obtain ⟨A', c', e, h1, h2, _⟩ := own_shape ho
            injection e with e1 e2 e3
            subst e1 e3
            exact ⟨Lies.of_own ho, Nat.le_refl _, h1, h2, fun z hz => (HU.out z (upto_mem hz).1).2⟩
          have HS2 := see_any wr.heap.size (upto s l).length cv Av (upto s l) 18446744073709551615 wr hELo (by omega)
          rw [show ((18446744073709551615 : Nat) : Int) = 18446744073709551615 from rfl] at HS2
          have HS3 := Lib.hid HS2
          have HUp := Lib.hid hup
          have hlt : ¬ ((k : Int) < (k : Int)) := by omega
          have HLw : Hid (Lies wr wr.heap.size 2 A2 r (rcs R)) := ((HLr.out.more (by omega)).below HB.out).more HB.out.size
          clear hb ho hpre hELo HS2 hup htk
          go_wp2_with fail
          with_reducible refine Calls.mono HS3.out ?_
          rintro e w3 ⟨hb3, hor⟩
          rcases hor with ⟨_, v3, rfl, ho3⟩ | ⟨hno, _⟩
          · rw [HUp.out, HRR.out] at ho3
            obtain ⟨A3, c3, rfl, _⟩ := own_shape ho3
            have HB3 := Lib.hid (HB.out.trans (hb3.mono HB.out.size))
            have HSm := Lib.hid (sameRw_yes (c := c3) (c2 := c2) (Lies.of_own ho3 |>.more (Nat.le_refl _)) ((HLw.out.below hb3).more hb3.size) (by omega))
            have HH := Lib.hid (H2.out.trans (HB3.out.mono H2.out.size))
            clear hb3 ho3 HS3 HLw
            go_wp2_with fail
            with_reducible refine Calls.mono HSm.out ?_
            rintro e w4 ⟨rfl, hb4⟩
            have HF := Lib.hid (HH.out.trans (hb4.mono HH.out.size))
            clear hb4
            go_wp2
            go_ret
            exact ⟨rfl, HF.out⟩
          · exact absurd (upto_rise HR.out) hno
    · have HNo := Lib.hid (decide_eq_false hno)
      have HRi := Lib.hid (rises12_any HE2.out (by omega))
      rw [HNo.out] at HRi
      clear hno hb2
      go_wp2_with fail
      with_reducible refine Calls.mono HRi.out ?_
      rintro e w3 ⟨rfl, hb3⟩
      have HF := Lib.hid (H2.out.trans (hb3.mono H2.out.size))
      clear hb3 HRi
      go_wp2
      go_ret
      exact ⟨rfl, HF.out⟩
end Go.Proofs.Ytoljldokehfokaa
