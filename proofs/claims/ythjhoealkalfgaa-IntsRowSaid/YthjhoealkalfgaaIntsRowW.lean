/-
  The walk of IntsRow.
-/
import Derived.Test.YthjhoealkalfgaaIntsJoinW
namespace Go.Proofs.Ythjhoealkalfgaa
open Go.RowKit
set_option linter.unusedVariables false

abbrev uv (x : Nat) : Value := .int .u64 (x : Int)
/-- the sizes of texts -/
def sizes (T : List ByteArray) : List Nat := T.map ByteArray.size
theorem at_of {α : Type} {l : List α} {f : α → Value} {k : Nat} {u : Value} (h : (l.map f)[k]? = some u) : ∃ x, l[k]? = some x ∧ u = f x := by
  rw [List.getElem?_map] at h
  cases hx : l[k]? with
  | none => rw [hx] at h; cases h
  | some x => rw [hx] at h; injection h with h; exact ⟨x, rfl, h.symm⟩
theorem sums_le (zs : List Nat) (k : Nat) : (zs.take k).sum ≤ zs.sum := by
  induction zs generalizing k with
  | nil => simp
  | cons z zs ih => cases k with
    | zero => simp
    | succ k => simp; exact ih k

theorem mem_sizes (T : List ByteArray) (s : ByteArray) (h : s ∈ T) : s.size ≤ (sizes T).sum := by
  induction T with
  | nil => cases h
  | cons a T ih =>
    have h2 : (sizes (a :: T)).sum = a.size + (sizes T).sum := by simp [sizes]
    rw [h2]
    rcases List.mem_cons.1 h with rfl | h
    · omega
    · have := ih h; omega

set_option maxHeartbeats 2000000 in
theorem textsSize_any (A : Option Addr) (n c B : Nat) (T : List ByteArray) (w : World) (h : Lies w B 1 A n (T.map Value.string)) (hz : ∀ s ∈ T, s.size ≤ 140737488351232) (hn : n ≤ 140737488351232) :
    Calls Try.prog 26 #[.slice A n c] w fun e w' => ∃ v : Nat, e = .returned (.int .i64 (v : Int)) ∧ (v ≤ 1048576 → v = n + (sizes T).sum) ∧ v ≤ n + (sizes T).sum ∧ v ≤ 281474976710656 ∧ w = w' := by
  have HN := Lib.hid h; clear h
  have HZ := Lib.hid hz; clear hz
  go_enter Try.func26, Try.ntmps26
  go_wp2
  go_loop [3, 4] (fun t i => ∃ k v : Nat, k ≤ n ∧ i = .int .i64 (k : Int) ∧ t = .int .i64 (v : Int) ∧ v ≤ 281474976710656 ∧ Hid (v = n + ((sizes T).take k).sum)) (fun _ i => n - (intOf i).toNat)
  case atStart => exact ⟨0, n, Nat.zero_le _, rfl, rfl, by omega, by simp [Hid]⟩
  case round =>
    obtain ⟨k, v, hk, rfl, rfl, hv, HV⟩ := hrel
    by_cases hlt : k < n
    · have d1 : decide (k < n) = true := by simp; omega
      have d1' : decide ((k : Int) < (n : Int)) = true := by simp; omega
      by_cases hle : v ≤ 1048576
      · obtain ⟨b, o, u, rfl, hbB, hu, hcell⟩ := HN.out.at_ (j := k) hlt
        obtain ⟨s, hs, rfl⟩ := at_of hu
        have hsz := HZ.out s (List.mem_of_getElem? hs)
        have HS : Hid (((sizes T).take (k + 1)).sum = ((sizes T).take k).sum + s.size) := by
          unfold Hid sizes
          rw [List.take_add_one, List.getElem?_map, hs]; simp
        have d2 : decide ((v : Int) ≤ 1048576) = true := by simp; omega
        clear hs hu
        go_wp2
        go_round
        case rel => exact ⟨k + 1, v + s.size, hlt, by go_num, by go_num, by omega, by unfold Hid; rw [HS.out, HV.out]; omega⟩
        case measure => simp [intOf]; omega
      · have d2 : decide ((v : Int) ≤ 1048576) = false := by simp; omega
        go_wp2
        go_ret
        exact ⟨v, rfl, fun h => absurd h hle, by rw [HV.out]; have := sums_le (sizes T) k; omega, hv, rfl⟩
    · have d1 : decide (k < n) = false := by simp; omega
      have d1' : decide ((k : Int) < (n : Int)) = false := by simp; omega
      have HF : Hid (v = n + (sizes T).sum) := by
        unfold Hid
        rw [HV.out, List.take_of_length_le]
        have := HN.out.len
        simp at this
        simp [sizes]; omega
      go_wp2
      go_ret
      exact ⟨v, rfl, fun _ => HF.out, Nat.le_of_eq HF.out, hv, rfl⟩

/-- a slice of bytes and what it holds -/
def BSl (w : World) (v : Value) (l : List UInt8) : Prop :=
  ∃ A c, v = .slice A l.length c ∧ l.length ≤ c ∧ c ≤ maxLen ∧ Lies w w.heap.size 1 A l.length (l.map bv)
theorem BSl.below {w w' : World} {v : Value} {l : List UInt8} (h : BSl w v l) (hb : Below w.heap.size w w') : BSl w' v l := by
  obtain ⟨A, c, e, h1, h2, h3⟩ := h
  exact ⟨A, c, e, h1, h2, (h3.below hb).more hb.size⟩
theorem BSl.own {w : World} {base n : Nat} {v : Value} {l : List UInt8} (hn : n = l.length) (h : w.ownsRow base 5 1 v n (l.map bv)) : BSl w v l := by
  subst hn
  obtain ⟨A, c, rfl, h1, h2, _⟩ := own_shape h
  exact ⟨A, c, rfl, h1, h2, Lies.of_own h⟩

def encs (L : List Nat) : List UInt8 := L.flatMap Vi.enc
def txt (s : ByteArray) : List UInt8 := Vi.enc s.size ++ s.data.toList
def txts (T : List ByteArray) : List UInt8 := T.flatMap txt
theorem encs_snoc (L : List Nat) (k x : Nat) (h : L[k]? = some x) : encs (L.take (k + 1)) = encs (L.take k) ++ Vi.enc x := by
  unfold encs
  rw [List.take_add_one, h, List.flatMap_append]; simp
theorem txts_snoc (T : List ByteArray) (k : Nat) (s : ByteArray) (h : T[k]? = some s) : txts (T.take (k + 1)) = txts (T.take k) ++ txt s := by
  unfold txts
  rw [List.take_add_one, h, List.flatMap_append]; simp
theorem encs_cons (L : List Nat) (k x : Nat) (h : L[k]? = some x) : encs (L.drop k) = Vi.enc x ++ encs (L.drop (k + 1)) := by
  obtain ⟨hlt, he⟩ := List.getElem?_eq_some_iff.1 h
  unfold encs
  rw [List.drop_eq_getElem_cons hlt, he]; simp
theorem txts_cons (T : List ByteArray) (k : Nat) (s : ByteArray) (h : T[k]? = some s) : txts (T.drop k) = txt s ++ txts (T.drop (k + 1)) := by
  obtain ⟨hlt, he⟩ := List.getElem?_eq_some_iff.1 h
  unfold txts
  rw [List.drop_eq_getElem_cons hlt, he]; simp
theorem encs_len (L : List Nat) : (encs L).length ≤ 10 * L.length := by
  induction L with
  | nil => simp [encs]
  | cons x L ih =>
    have h : encs (x :: L) = Vi.enc x ++ encs L := by simp [encs]
    rw [h, List.length_append]
    have := Vi.enc_len x
    simp; omega
theorem txts_len (T : List ByteArray) : (txts T).length ≤ 10 * T.length + (sizes T).sum := by
  induction T with
  | nil => simp [txts]
  | cons s T ih =>
    have h : txts (s :: T) = txt s ++ txts T := by simp [txts]
    rw [h, List.length_append]
    unfold txt
    rw [List.length_append, slen]
    have := Vi.enc_len s.size
    have h2 : (sizes (s :: T)).sum = s.size + (sizes T).sum := by simp [sizes]
    rw [h2]
    simp; omega

/-- one more number -/
theorem put_bsl (v : Value) (l : List UInt8) (x : Nat) (w : World) (h : BSl w v l) (hx : x < 18446744073709551616) (hl : l.length ≤ 549755813888) :
    Calls Try.prog 22 #[v, .int .u64 (x : Int)] w fun e w' => ∃ v', e = .returned v' ∧ BSl w' v' (l ++ Vi.enc x) ∧ Below w.heap.size w w' := by
  obtain ⟨A, c, rfl, _, _, h3⟩ := h
  exact (put_any A l.length c x l w h3 hx hl).mono fun e w' ⟨v', he, ho, hb⟩ => ⟨v', he, BSl.own (by simp) ho, hb⟩
theorem putText_bsl (v : Value) (l : List UInt8) (s : ByteArray) (w : World) (h : BSl w v l) (hl : l.length + s.size ≤ 549755813888) :
    Calls Try.prog 24 #[v, .string s] w fun e w' => ∃ v', e = .returned v' ∧ BSl w' v' (l ++ txt s) ∧ Below w.heap.size w w' := by
  obtain ⟨A, c, rfl, _, _, h3⟩ := h
  exact (putText_any A l.length c s l w h3 hl).mono fun e w' ⟨v', he, ho, hb⟩ => ⟨v', he, BSl.own (by unfold txt; rw [List.length_append, List.length_append, slen]) ho, hb⟩

/-- what is left behind the first bytes -/
theorem BSl.cut {w : World} {A : Option Addr} {n c t : Nat} {p r : List UInt8} (hn : (p ++ r).length = n) (ht : p.length = t) (hnc : n ≤ c) (hc : c ≤ maxLen) (h : Lies w w.heap.size 1 A n ((p ++ r).map bv)) : BSl w (.slice (cutA A c t) (n - t) (c - t)) r := by
  have hl : n - t = r.length := by rw [← hn, List.length_append]; omega
  have h2 := h.cutA (m := t) (c := c) (by rw [← hn, List.length_append]; omega) hnc
  rw [hl] at h2 ⊢
  rw [List.drop_append, List.drop_eq_nil_of_le (by omega), ht, Nat.sub_self, List.drop_zero, List.nil_append] at h2
  exact ⟨_, _, rfl, by omega, by omega, h2⟩

def L1Rel (w : World) (L : List Nat) (n : Nat) (v i : Value) (wr : World) : Prop :=
  ∃ k : Nat, k ≤ n ∧ i = .int .i64 (k : Int) ∧ BSl wr v (encs (L.take k)) ∧ Below w.heap.size w wr
def L2Rel (w : World) (T : List ByteArray) (n : Nat) (v i : Value) (wr : World) : Prop :=
  ∃ k : Nat, k ≤ n ∧ i = .int .i64 (k : Int) ∧ BSl wr v (txts (T.take k)) ∧ Below w.heap.size w wr
def L3Rel (w : World) (L : List Nat) (n : Nat) (v i : Value) (wr : World) : Prop :=
  ∃ k : Nat, k ≤ n ∧ i = .int .i64 (k : Int) ∧ BSl wr v (encs (L.drop k)) ∧ Below w.heap.size w wr
def L4Rel (w : World) (T : List ByteArray) (n : Nat) (v i : Value) (wr : World) : Prop :=
  ∃ k : Nat, k ≤ n ∧ i = .int .i64 (k : Int) ∧ BSl wr v (txts (T.drop k)) ∧ Below w.heap.size w wr

set_option maxRecDepth 100000 in
set_option maxHeartbeats 4000000 in
theorem intsRow_main (A1 : Option Addr) (n1 c1 : Nat) (L : List Nat) (A2 : Option Addr) (n2 c2 : Nat) (T : List ByteArray) (w : World)
    (y1 : Lies w w.heap.size 1 A1 n1 (L.map uv)) (u1 : ∀ x ∈ L, x < 18446744073709551616) (y2 : Lies w w.heap.size 1 A2 n2 (T.map Value.string)) (u2 : ∀ s ∈ T, s.size ≤ 140737488351232) (h100 : n1 ≤ 100) (h50 : n2 ≤ 50) (hsum : n2 + (sizes T).sum ≤ 20000)
    (hts : ∀ W : World, Below w.heap.size w W → Calls Try.prog 26 #[.slice A2 n2 c2] W fun e w' => e = .returned (.int .i64 ((n2 + (sizes T).sum : Nat) : Int)) ∧ W = w') :
    Calls Try.prog 10 #[.slice A1 n1 c1, .slice A2 n2 c2] w fun e w' => e = .returned (.bool true) ∧ Below w.heap.size w w' := by
  have Y1 := Lib.hid y1; have U1 := Lib.hid u1; have Y2 := Lib.hid y2; have U2 := Lib.hid u2; have HTS := Lib.hid hts
  clear y1 u1 y2 u2 hts
  have HSUM := Lib.hid hsum
  obtain ⟨ts, hts⟩ : ∃ ts, n2 + (sizes T).sum = ts := ⟨_, rfl⟩
  rw [hts] at hsum HTS
  clear hts
  go_enter Try.func10, Try.ntmps10
  go_wp2_with fail
  refine (alive_any w).mono ?_
  rintro e w1 ⟨rfl, hb1⟩
  have HB1 := Lib.hid hb1; clear hb1
  go_wp2_with fail
  refine (HTS.out w1 HB1.out).mono ?_
  rintro e w1' ⟨rfl, rfl⟩
  have HL0 : Hid (L1Rel w L n1 (.slice none 0 0) (.int .i64 0) w1) := ⟨0, Nat.zero_le _, rfl, ⟨none, 0, rfl, Nat.le_refl _, Nat.zero_le _, Lies.none_ _ _ _ _⟩, HB1.out⟩
  clear HTS HB1
  go_wp2
  go_loopw [5, 7] (fun v i wr => L1Rel w L n1 v i wr) (fun _ i _ => n1 - (intOf i).toNat)
  case atStart => exact HL0.out
  case round =>
    clear HL0
    obtain ⟨k, hk, rfl, hbs, hb⟩ := hrel
    have HBS := Lib.hid hbs; have HB := Lib.hid hb
    clear hbs
    by_cases hlt : k < n1
    · obtain ⟨b, o, u, rfl, hbB, hu, hcell0⟩ := Y1.out.at_ (j := k) hlt
      obtain ⟨x, hx, rfl⟩ := at_of hu
      have hcell : wr.cell? ⟨b, o + k, none⟩ = some (.int .u64 (x : Int)) := (hb.cell hbB).trans hcell0
      have hxl := U1.out x (List.mem_of_getElem? hx)
      have HX := Lib.hid hx
      have HXL := Lib.hid hxl
      obtain ⟨_, _, _, hlen⟩ : ∃ a b : Nat, True ∧ (encs (L.take k)).length ≤ 549755813888 := ⟨0, 0, trivial, by
        have := encs_len (L.take k)
        have h2 : (L.take k).length ≤ k := List.length_take_le _ _
        omega⟩
      have PF := Lib.hid (put_bsl _ _ x wr HBS.out hxl hlen)
      obtain ⟨A5, c5, rfl, _, _, _⟩ := HBS.out
      clear hx hu hcell0 hxl hlen hb
      generalize (encs (L.take k)).length = lk at *
      go_wp2_with fail
      refine PF.out.mono ?_
      rintro e w2 ⟨v2, rfl, hbs2, hb2⟩
      have R : Hid (L1Rel w L n1 v2 (.int .i64 ((k : Int) + 1)) w2) := ⟨k + 1, hlt, by simp, by rw [encs_snoc L k x HX.out]; exact hbs2, HB.out.trans (hb2.mono HB.out.size)⟩
      clear hbs2 hb2 PF hcell
      go_wp2
      go_roundw
      case rel => exact R.out
      case measure => simp [intOf]; omega
    · have hkn : k = n1 := by omega
      have hfull : L.take k = L := List.take_of_length_le (by have := Y1.out.len; simp at this; omega)
      rw [hfull] at HBS
      clear hb hkn hfull
      obtain ⟨wo, rfl⟩ : ∃ wo : World, wo = wr := ⟨_, rfl⟩
      obtain ⟨v5, rfl⟩ : ∃ v5 : Value, v5 = u5 := ⟨_, rfl⟩
      have HL2 : Hid (L2Rel wo T n2 (.slice none 0 0) (.int .i64 0) wo) := ⟨0, Nat.zero_le _, rfl, ⟨none, 0, rfl, Nat.le_refl _, Nat.zero_le _, Lies.none_ _ _ _ _⟩, Below.refl _ _⟩
      go_wp2
      go_loopw [6, 8] (fun v i wr => L2Rel wo T n2 v i wr) (fun _ i _ => n2 - (intOf i).toNat)
      case atStart => exact HL2.out
      case round =>
        clear HL2
        obtain ⟨k2, hk2, rfl, hbs2, hb2⟩ := hrel
        have HBS2 := Lib.hid hbs2; have HB2 := Lib.hid hb2
        have hbw2 : Below w.heap.size w wr := HB.out.trans (hb2.mono HB.out.size)
        have HBW2 := Lib.hid hbw2
        clear hbs2 hb2
        by_cases hlt2 : k2 < n2
        · obtain ⟨b, o, u, rfl, hbB, hu, hcell0⟩ := Y2.out.at_ (j := k2) hlt2
          obtain ⟨s, hs, rfl⟩ := at_of hu
          have hcell : wr.cell? ⟨b, o + k2, none⟩ = some (.string s) := (hbw2.cell hbB).trans hcell0
          have HX := Lib.hid hs
          have hlen : (txts (T.take k2)).length + s.size ≤ 549755813888 := by
            have h1 := txts_len (T.take k2)
            have h2 : (T.take k2).length ≤ k2 := List.length_take_le _ _
            have h3 : (sizes (T.take k2)).sum ≤ (sizes T).sum := by unfold sizes; rw [List.map_take]; exact sums_le _ _
            have h4 := mem_sizes T s (List.mem_of_getElem? hs)
            have h5 := HSUM.out
            omega
          have PF := Lib.hid (putText_bsl _ _ s wr HBS2.out hlen)
          obtain ⟨A6, c6, rfl, _, _, _⟩ := HBS2.out
          clear hs hu hcell0 hlen hbw2
          generalize (txts (T.take k2)).length = lk at *
          go_wp2_with fail
          refine PF.out.mono ?_
          rintro e w2 ⟨v2, rfl, hbs2, hb2⟩
          have R : Hid (L2Rel wo T n2 v2 (.int .i64 ((k2 : Int) + 1)) w2) := ⟨k2 + 1, hlt2, by simp, by rw [txts_snoc T k2 s HX.out]; exact hbs2, HB2.out.trans (hb2.mono HB2.out.size)⟩
          clear hbs2 hb2 PF hcell
          go_wp2
          go_roundw
          case rel => exact R.out
          case measure => simp [intOf]; omega
        · have hfull2 : T.take k2 = T := List.take_of_length_le (by have := Y2.out.len; simp at this; omega)
          rw [hfull2] at HBS2
          have HV5 := Lib.hid (HBS.out.below HB2.out)
          clear hfull2 HBS HB HB2 hbw2
          obtain ⟨wp, rfl⟩ : ∃ wp : World, wp = wr := ⟨_, rfl⟩
          obtain ⟨v6, rfl⟩ : ∃ v6 : Value, v6 = u6 := ⟨_, rfl⟩
          have HL3 : Hid (L3Rel wp L n1 v5 (.int .i64 0) wp) := ⟨0, Nat.zero_le _, rfl, HV5.out, Below.refl _ _⟩
          go_wp2
          go_loopw [5, 9] (fun v i wr => L3Rel wp L n1 v i wr) (fun _ i _ => n1 - (intOf i).toNat)
          case atStart => exact HL3.out
          case round =>
            clear HL3 HV5
            obtain ⟨k3, hk3, rfl, hbs3, hb3⟩ := hrel
            have HB3 := Lib.hid hb3
            have hbw3 : Below w.heap.size w wr := HBW2.out.trans (hb3.mono HBW2.out.size)
            have HBW3 := Lib.hid hbw3
            have HBS3 := Lib.hid hbs3
            clear hbs3 hb3
            by_cases hlt3 : k3 < n1
            · obtain ⟨b, o, u, rfl, hbB, hu, hcell0⟩ := Y1.out.at_ (j := k3) hlt3
              obtain ⟨x, hx, rfl⟩ := at_of hu
              have hxl := U1.out x (List.mem_of_getElem? hx)
              have hcons := encs_cons L k3 x hx
              obtain ⟨A5, c5, rfl, hnc5, hcm5, hl5⟩ := HBS3.out
              rw [hcons] at hnc5 hl5 ⊢
              obtain ⟨nn, hnn⟩ : ∃ nn, (Vi.enc x ++ encs (L.drop (k3 + 1))).length = nn := ⟨_, rfl⟩
              obtain ⟨tt, htt⟩ : ∃ tt, (Vi.enc x).length = tt := ⟨_, rfl⟩
              rw [hnn] at hnc5 hl5 ⊢
              have ht1 : 1 ≤ tt := by rw [← htt]; exact Vi.enc_pos x
              have ht10 : tt ≤ 10 := by rw [← htt]; exact Vi.enc_len x
              have htn : tt ≤ nn := by rw [← hnn, ← htt, List.length_append]; omega
              have hnl : nn ≤ 1000 := by
                have h1 := encs_len (L.drop k3)
                rw [hcons, hnn] at h1
                have h2 : (L.drop k3).length ≤ n1 := by have := Y1.out.len; simp at this; simp; omega
                omega
              have G := get_any A5 nn c5 _ wr hl5 hnc5 hcm5
              rw [Vi.get_enc x _ hxl, htt] at G
              have G3 := Lib.hid G
              have CF : Hid (∀ W, Below wr.heap.size wr W → BSl W (.slice (cutA A5 c5 tt) (nn - tt) (c5 - tt)) (encs (L.drop (k3 + 1)))) := fun W hW =>
                BSl.cut hnn htt hnc5 hcm5 ((hl5.below hW).more hW.size)
              have CELL : Hid (∀ W, Below wr.heap.size wr W → W.cell? ⟨b, o + k3, none⟩ = some (.int .u64 (x : Int))) := fun W hW => (hW.cell (Nat.lt_of_lt_of_le hbB hbw3.size)).trans ((hbw3.cell hbB).trans hcell0)
              have d1 : decide ((tt : Int) < 1) = false := by simp; omega
              have d2 : decide (nn < tt) = false := by simp; omega
              have d2' : decide ((nn : Int) < (tt : Int)) = false := by simp; omega
              have d3 : ((x : Int) != (x : Int)) = false := by simp
              clear hx hu hcell0 hxl hcons hl5 G hnn htt hbw3 HBS3
              go_wp2_with fail
              refine G3.out.mono ?_
              rintro e w3 ⟨rfl, hb3⟩
              have hcell := CELL.out w3 hb3
              have hcut := run_cut w3 A5 nn c5 tt htn
              have R : Hid (L3Rel wp L n1 (.slice (cutA A5 c5 tt) (nn - tt) (c5 - tt)) (.int .i64 ((k3 : Int) + 1)) w3) := ⟨k3 + 1, hlt3, by simp, CF.out w3 hb3, HB3.out.trans (hb3.mono HB3.out.size)⟩
              clear hb3 G3 CF CELL
              go_wp2
              go_roundw
              case rel => exact R.out
              case measure => simp [intOf]; omega
            · have hfull3 : L.drop k3 = [] := List.drop_eq_nil_of_le (by have := Y1.out.len; simp at this; omega)
              rw [hfull3] at HBS3
              have HV6 := Lib.hid (HBS2.out.below HB3.out)
              clear hfull3 HB3 hbw3 HBS2 HBW2
              obtain ⟨wq, rfl⟩ : ∃ wq : World, wq = wr := ⟨_, rfl⟩
              obtain ⟨v7, rfl⟩ : ∃ v7 : Value, v7 = u5 := ⟨_, rfl⟩
              have HL4 : Hid (L4Rel wq T n2 v6 (.int .i64 0) wq) := ⟨0, Nat.zero_le _, rfl, HV6.out, Below.refl _ _⟩
              go_wp2
              go_loopw [6, 13] (fun v i wr => L4Rel wq T n2 v i wr) (fun _ i _ => n2 - (intOf i).toNat)
              case atStart => exact HL4.out
              case round =>
                clear HL4 HV6
                obtain ⟨k4, hk4, rfl, hbs4, hb4⟩ := hrel
                have HB4 := Lib.hid hb4
                have hbw4 : Below w.heap.size w wr := HBW3.out.trans (hb4.mono HBW3.out.size)
                have HBW4 := Lib.hid hbw4
                have HBS4 := Lib.hid hbs4
                clear hbs4 hb4
                by_cases hlt4 : k4 < n2
                · obtain ⟨b, o, u, rfl, hbB, hu, hcell0⟩ := Y2.out.at_ (j := k4) hlt4
                  obtain ⟨s, hs, rfl⟩ := at_of hu
                  have hcons := txts_cons T k4 s hs
                  have hsl := U2.out s (List.mem_of_getElem? hs)
                  obtain ⟨A6, c6, rfl, hnc6, hcm6, hl6⟩ := HBS4.out
                  rw [hcons] at hnc6 hl6 ⊢
                  obtain ⟨nn, hnn⟩ : ∃ nn, (txt s ++ txts (T.drop (k4 + 1))).length = nn := ⟨_, rfl⟩
                  obtain ⟨tt, htt⟩ : ∃ tt, (txt s).length = tt := ⟨_, rfl⟩
                  rw [hnn] at hnc6 hl6 ⊢
                  have ht1 : 1 ≤ tt := by rw [← htt]; unfold txt; rw [List.length_append]; have := Vi.enc_pos s.size; omega
                  have htn : tt ≤ nn := by rw [← hnn, ← htt, List.length_append]; omega
                  have hnl : nn ≤ 100000 := by
                    have h1 := txts_len (T.drop k4)
                    rw [hcons, hnn] at h1
                    have h2 : (T.drop k4).length ≤ n2 := by have := Y2.out.len; simp at this; simp; omega
                    have h3 : (sizes (T.drop k4)).sum ≤ (sizes T).sum := by
                      unfold sizes
                      rw [List.map_drop]
                      have h4 : ((T.map ByteArray.size).take k4).sum + ((T.map ByteArray.size).drop k4).sum = (T.map ByteArray.size).sum := by rw [← List.sum_append, List.take_append_drop]
                      omega
                    have h5 := HSUM.out
                    omega
                  have G := getText_any A6 nn c6 _ wr hl6 hnc6 hcm6
                  have e1 : txt s ++ txts (T.drop (k4 + 1)) = Vi.enc s.size ++ (s.data.toList ++ txts (T.drop (k4 + 1))) := by unfold txt; rw [List.append_assoc]
                  have htt2 : (Vi.enc s.size).length + s.size = tt := by rw [← htt]; unfold txt; rw [List.length_append, slen]
                  rw [e1, getText_enc s _ (by omega), htt2, str_back] at G
                  have G4 := Lib.hid G
                  have CF : Hid (∀ W, Below wr.heap.size wr W → BSl W (.slice (cutA A6 c6 tt) (nn - tt) (c6 - tt)) (txts (T.drop (k4 + 1)))) := fun W hW =>
                    BSl.cut hnn htt hnc6 hcm6 ((hl6.below hW).more hW.size)
                  have CELL : Hid (∀ W, Below wr.heap.size wr W → W.cell? ⟨b, o + k4, none⟩ = some (.string s)) := fun W hW => (hW.cell (Nat.lt_of_lt_of_le hbB hbw4.size)).trans ((hbw4.cell hbB).trans hcell0)
                  have d1 : decide ((tt : Int) < 1) = false := by simp; omega
                  have d2 : decide (nn < tt) = false := by simp; omega
                  have d2' : decide ((nn : Int) < (tt : Int)) = false := by simp; omega
                  clear hs hu hcell0 hcons hl6 G hnn htt hbw4 HBS4 e1 htt2
                  go_wp2_with fail
                  refine G4.out.mono ?_
                  rintro e w4 ⟨rfl, hb4⟩
                  have hcell := CELL.out w4 hb4
                  have hcut := run_cut w4 A6 nn c6 tt htn
                  have R : Hid (L4Rel wq T n2 (.slice (cutA A6 c6 tt) (nn - tt) (c6 - tt)) (.int .i64 ((k4 : Int) + 1)) w4) := ⟨k4 + 1, hlt4, by simp, CF.out w4 hb4, HB4.out.trans (hb4.mono HB4.out.size)⟩
                  clear hb4 G4 CF CELL
                  go_wp2
                  go_roundw
                  case rel => exact R.out
                  case measure => simp [intOf]; omega
                · have hfull4 : T.drop k4 = [] := List.drop_eq_nil_of_le (by have := Y2.out.len; simp at this; omega)
                  rw [hfull4] at HBS4
                  have HV7 := Lib.hid (HBS3.out.below HB4.out)
                  clear hfull4 HB4 hbw4 HBS3 HBW3
                  obtain ⟨A8, c8, rfl, hnc8, hcm8, hl8⟩ := HBS4.out
                  obtain ⟨A7, c7, rfl, hnc7, hcm7, hl7⟩ := HV7.out
                  have G7 := Lib.hid (get_any A7 0 c7 [] wr (Lies.none_ _ _ _ _) (Nat.zero_le _) hcm7)
                  have G8 := Lib.hid (fun W => getText_any A8 0 c8 [] W (Lies.none_ _ _ _ _) (Nat.zero_le _) hcm8)
                  clear hl7 hl8 HBS4 HV7
                  rw [show (encs []).length = 0 from rfl, show (txts []).length = 0 from rfl]
                  unfold maxLen at hcm7 hcm8
                  go_wp2_with fail
                  refine G7.out.mono ?_
                  rintro e w5 ⟨rfl, hb5⟩
                  have HB5 := Lib.hid (HBW4.out.trans (hb5.mono HBW4.out.size))
                  clear hb5 G7 HBW4
                  go_wp2_with fail
                  refine (G8.out w5).mono ?_
                  rintro e w6 ⟨rfl, hb6⟩
                  have HB6 := Lib.hid (HB5.out.trans (hb6.mono HB5.out.size))
                  clear hb6 G8 HB5
                  go_wp2
                  go_ret
                  exact ⟨rfl, HB6.out⟩

set_option maxRecDepth 100000 in
set_option maxHeartbeats 2000000 in
/-- too much: nothing is claimed -/
theorem intsRow_much (A1 : Option Addr) (n1 c1 : Nat) (A2 : Option Addr) (n2 c2 : Nat) (w : World) (x1 : n1 ≤ 140737488351232) (x2 : n2 ≤ 140737488351232)
    (hcase : 100 < n1 ∨ 50 < n2 ∨ ∀ W : World, Below w.heap.size w W → Calls Try.prog 26 #[.slice A2 n2 c2] W fun e w' => ∃ v : Nat, e = .returned (.int .i64 (v : Int)) ∧ 20000 < v ∧ v ≤ 281474976710656 ∧ W = w') :
    Calls Try.prog 10 #[.slice A1 n1 c1, .slice A2 n2 c2] w fun e w' => e = .returned (.bool true) ∧ Below w.heap.size w w' := by
  have last : Hid (∀ W : World, Below w.heap.size w W → Calls Try.prog 21 #[] W fun e w' => e = .returned (.bool true) ∧ Below w.heap.size w w') := fun W hW =>
    (alive_any W).mono fun e w' ⟨he, hb⟩ => ⟨he, hW.trans (hb.mono hW.size)⟩
  by_cases h1 : 100 < n1
  · have d1 : decide ((100 : Int) < (n1 : Int)) = true := by simp; omega
    clear hcase
    go_enter Try.func10, Try.ntmps10
    go_wp2_with fail
    refine (alive_any w).mono ?_
    rintro e w1 ⟨rfl, hb1⟩
    go_wp2_with fail
    refine (last.out w1 hb1).mono ?_
    rintro e w2 ⟨rfl, hb2⟩
    go_wp2
    go_ret
    exact ⟨rfl, hb2⟩
  · have d1 : decide ((100 : Int) < (n1 : Int)) = false := by simp; omega
    by_cases h2 : 50 < n2
    · have d2 : decide ((50 : Int) < (n2 : Int)) = true := by simp; omega
      clear hcase
      go_enter Try.func10, Try.ntmps10
      go_wp2_with fail
      refine (alive_any w).mono ?_
      rintro e w1 ⟨rfl, hb1⟩
      go_wp2_with fail
      refine (last.out w1 hb1).mono ?_
      rintro e w2 ⟨rfl, hb2⟩
      go_wp2
      go_ret
      exact ⟨rfl, hb2⟩
    · have d2 : decide ((50 : Int) < (n2 : Int)) = false := by simp; omega
      have hts : ∀ W : World, Below w.heap.size w W → Calls Try.prog 26 #[.slice A2 n2 c2] W fun e w' => ∃ v : Nat, e = .returned (.int .i64 (v : Int)) ∧ 20000 < v ∧ v ≤ 281474976710656 ∧ W = w' := by
        rcases hcase with h | h | h
        · exact absurd h h1
        · exact absurd h h2
        · exact h
      have HTS := Lib.hid hts
      clear hts hcase
      go_enter Try.func10, Try.ntmps10
      go_wp2_with fail
      refine (alive_any w).mono ?_
      rintro e w1 ⟨rfl, hb1⟩
      have HB1 := Lib.hid hb1; clear hb1
      go_wp2_with fail
      refine (HTS.out w1 HB1.out).mono ?_
      rintro e w1' ⟨v, rfl, hv, hv2, rfl⟩
      have d3 : decide ((20000 : Int) < (v : Int)) = true := by simp; omega
      go_wp2_with fail
      refine (last.out w1 HB1.out).mono ?_
      rintro e w2 ⟨rfl, hb2⟩
      go_wp2
      go_ret
      exact ⟨rfl, hb2⟩

theorem intsRow_walk (A1 : Option Addr) (n1 c1 : Nat) (L : List Nat) (A2 : Option Addr) (n2 c2 : Nat) (T : List ByteArray) (w : World)
    (y1 : Lies w w.heap.size 1 A1 n1 (L.map (fun x : Nat => Value.int .u64 (x : Int)))) (u1 : ∀ x ∈ L, x < 18446744073709551616) (z1 : n1 ≤ c1) (x1 : c1 ≤ 140737488351232)
    (y2 : Lies w w.heap.size 1 A2 n2 (T.map Value.string)) (u2 : ∀ s ∈ T, s.size ≤ 140737488351232) (z2 : n2 ≤ c2) (x2 : c2 ≤ 140737488351232) :
    Calls Try.prog 10 #[.slice A1 n1 c1, .slice A2 n2 c2] w fun e w' => e = .returned (.bool true) ∧ Below w.heap.size w w' := by
  have hts := fun (W : World) (hW : Below w.heap.size w W) => textsSize_any A2 n2 c2 W.heap.size T W ((y2.below hW).more hW.size) u2 (by omega)
  by_cases hmuch : 100 < n1 ∨ 50 < n2 ∨ 20000 < n2 + (sizes T).sum
  · refine intsRow_much A1 n1 c1 A2 n2 c2 w (by omega) (by omega) ?_
    rcases hmuch with h | h | h
    · exact .inl h
    · exact .inr (.inl h)
    · refine .inr (.inr fun W hW => (hts W hW).mono fun e w' ⟨v, he, h1, h2, h3, h4⟩ => ⟨v, he, ?_, h3, h4⟩)
      rcases Nat.lt_or_ge 20000 v with h5 | h5
      · exact h5
      · have := h1 (by omega); omega
  · refine intsRow_main A1 n1 c1 L A2 n2 c2 T w y1 u1 y2 u2 (by omega) (by omega) (by omega) fun W hW => (hts W hW).mono fun e w' ⟨v, he, h1, h2, h3, h4⟩ => ⟨?_, h4⟩
    have h5 := h1 (by omega)
    rw [he, h5]
end Go.Proofs.Ythjhoealkalfgaa
