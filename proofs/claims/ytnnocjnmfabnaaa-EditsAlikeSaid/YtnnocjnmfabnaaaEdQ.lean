/-
  Package edits: encoded, Put.
-/
import Derived.Test.YtnnocjnmfabnaaaEdP
namespace Go.Proofs.Ytnnocjnmfabnaaa
open Go.RowKit
set_option linter.unusedVariables false
set_option maxRecDepth 100000

/-- bytes of the call's own, so many rounds on -/
def EnR (W : World) (n : Nat) (bs : Nat → List UInt8) (v i : Value) (wr : World) : Prop :=
  ∃ k : Nat, k ≤ n ∧ i = .int .i64 (k : Int) ∧ wr.ownsRow W.heap.size 5 1 v (bs k).length ((bs k).map bv) ∧ Below W.heap.size W wr
theorem num1 (k : Nat) (w : World) (hk : k < 18446744073709551616) : Calls Try.prog 28 #[.slice (some ⟨w.heap.size, 0, none⟩) 1 1] (w.alloc (.cells #[.int .u64 (k : Int)] 25)) fun e w' => Got w (Vi.enc k).length (Vi.enc k) e w' := by
  have h := numbersL [k] w (fun q hq => by simp at hq; omega) (by simp)
  have e : nbs [k] = Vi.enc k := by simp [nbs]
  rw [e] at h
  exact h
theorem num3 (a b c : Nat) (w : World) (ha : a < 18446744073709551616) (hb : b < 18446744073709551616) (hc : c < 18446744073709551616) :
    Calls Try.prog 28 #[.slice (some ⟨w.heap.size, 0, none⟩) 3 3] (w.alloc (.cells #[.int .u64 (a : Int), .int .u64 (b : Int), .int .u64 (c : Int)] 25)) fun e w' => Got w (Vi.enc a ++ (Vi.enc b ++ Vi.enc c)).length (Vi.enc a ++ (Vi.enc b ++ Vi.enc c)) e w' := by
  have h := numbersL [a, b, c] w (fun q hq => by simp at hq; rcases hq with rfl | rfl | rfl <;> assumption) (by simp)
  have e : nbs [a, b, c] = Vi.enc a ++ (Vi.enc b ++ Vi.enc c) := by simp [nbs]
  rw [e] at h
  exact h

set_option maxHeartbeats 8000000 in
theorem encoded_any (x : Edt) (n1 n2 c1 c2 : Nat) (P1 P2 : Option Addr) (w : World) (h1 : Lies w w.heap.size 4 P1 n1 (fcs x.add)) (h2 : Lies w w.heap.size 1 P2 n2 (kvs x.rem)) (hok : okEd x = true) (hs : SzEd x) (l1 : n1 ≤ 40000) (l2 : n2 ≤ 40000) :
    Calls Try.prog 18 #[.agg #[.slice P1 n1 c1, .slice P2 n2 c2, .int .u32 (x.jn : Int), .int .u32 (x.nx : Int), .int .u64 (x.sq : Int)]] w fun e w' => Got w (encEd x).length (encEd x) e w' := by
  obtain ⟨i0, hi, hz0, hz1, hz2⟩ := info_parts byte_info
  have hla := h1.flen; have hlr := h2.klen
  have hokf : ∀ f ∈ x.add, okFi f = true := List.all_eq_true.1 hok
  have hE : EtAt (w.alloc (.cells #[.slice P1 n1 c1, .slice P2 n2 c2, .int .u32 (x.jn : Int), .int .u32 (x.nx : Int), .int .u64 (x.sq : Int)] 27)) w.heap.size P1 n1 c1 P2 n2 c2 x.jn x.nx x.sq := heap_alloc_new w _
  have hB : Below w.heap.size w (w.alloc (.cells #[.slice P1 n1 c1, .slice P2 n2 c2, .int .u32 (x.jn : Int), .int .u32 (x.nx : Int), .int .u64 (x.sq : Int)] 27)) := (Below.refl _ _).alloc (Nat.le_refl _) _
  obtain ⟨W1, hW1⟩ : ∃ W, w.alloc (.cells #[.slice P1 n1 c1, .slice P2 n2 c2, .int .u32 (x.jn : Int), .int .u32 (x.nx : Int), .int .u64 (x.sq : Int)] 27) = W := ⟨_, rfl⟩
  rw [hW1] at hE hB
  have HL1 := Lib.hid ((h1.below hB).more hB.size); have HL2' := Lib.hid ((h2.below hB).more hB.size)
  have HE := Lib.hid hE; have HB := Lib.hid hB; have HOk := Lib.hid hokf; have HSz := Lib.hid hs; have HLa := Lib.hid hla; have HLr := Lib.hid hlr
  have hw1 : IntKind.u64.wrap (n1 : Int) = (n1 : Int) := by rw [IntKind.wrap_u64]; omega
  have hw2 : IntKind.u64.wrap (n2 : Int) = (n2 : Int) := by rw [IntKind.wrap_u64]; omega
  have hw3 : IntKind.u64.wrap (x.jn : Int) = (x.jn : Int) := by have := hs.jn; rw [IntKind.wrap_u64]; omega
  have hw4 : IntKind.u64.wrap (x.nx : Int) = (x.nx : Int) := by have := hs.nx; rw [IntKind.wrap_u64]; omega
  have HN1 := Lib.hid (num1 n1 W1 (by omega))
  obtain ⟨k0, k1, k2, k3, k4⟩ := hE.cells
  have hp1 := Vi.enc_len n1; have hp2 := Vi.enc_len n2
  have hfb : Hid (∀ k, (fbs (x.add.take k)).length ≤ 4160000) := fun k => by
    have := fbs_len (l := x.add.take k) (fun f hf => hokf f (List.mem_of_mem_take hf))
    rw [List.length_take] at this; omega
  have hrb : Hid (∀ k, (nbs (x.rem.take k)).length ≤ 400000) := fun k => by
    have := nbs_len (x.rem.take k)
    rw [List.length_take] at this; omega
  have HFin : Hid (encEd x = Vi.enc n1 ++ (fbs x.add ++ (Vi.enc n2 ++ (nbs x.rem ++ (Vi.enc x.jn ++ (Vi.enc x.nx ++ Vi.enc x.sq)))))) := by unfold Hid encEd; rw [hla, hlr]; rfl
  clear h1 h2 hE hB hok hokf hs hla hlr
  go_enter Try.func18, Try.ntmps18
  go_wp2_with fail
  with_reducible refine Calls.mono HN1.out ?_
  rintro e w2 ⟨A2, c2', rfl, _, _, ho, hb⟩
  have HR : Hid (EnR W1 n1 (fun k => Vi.enc n1 ++ fbs (x.add.take k)) (.slice A2 (Vi.enc n1).length c2') (.int .i64 0) w2) := ⟨0, Nat.zero_le _, rfl, by
    have e : Vi.enc n1 ++ fbs (x.add.take 0) = Vi.enc n1 := by simp [fbs]
    dsimp only
    rw [e]; exact ho, hb⟩
  obtain ⟨k0, k1, k2, k3, k4⟩ := (HE.out.below hb HE.out.lt).cells
  have HE2 := Lib.hid (HE.out.below hb HE.out.lt)
  clear ho hb HN1
  go_wp2_with fail
  go_loopw [3, 17] (fun v i wr => EnR W1 n1 (fun k => Vi.enc n1 ++ fbs (x.add.take k)) v i wr) (fun _ i _ => n1 - (intOf i).toNat)
  case atStart => exact HR.out
  case round =>
    clear HR HE2 k0 k1 k2 k3 k4
    obtain ⟨k, hk, rfl, ho, hb⟩ := hrel
    dsimp only at ho
    obtain ⟨Av, cv, rfl, _⟩ := own_shape ho
    by_cases hlt : k < n1
    · obtain ⟨fb, fo, f, rfl, hfb0, hf, d0, d1, d2, d3⟩ := ((HL1.out.below hb).more hb.size).file hlt
      have hfm := List.mem_of_getElem? hf
      have hi0 : (0 : Int) ≤ (k : Int) := by omega
      have hi1 : (k : Int) < (n1 : Int) := by omega
      have hit : ((k : Int)).toNat = k := by simp
      have x1 := FiAt.new wr f
      have bx := fiW_below wr f
      have HV := Lib.hid (encFile_any f (fiW wr f) (HOk.out f hfm) (HSz.out.add f hfm))
      have hel := encFi_len (HOk.out f hfm)
      have HS := Lib.hid (fbs_take hf)
      have hxl := hfb.out k
      have HO := Lib.hid (own_below ho bx); have HBw := Lib.hid (hb.trans (bx.mono hb.size))
      obtain ⟨B6, hB6⟩ : ∃ B, wr.heap.size = B := ⟨_, rfl⟩
      rw [hB6] at x1
      obtain ⟨W3, hW3⟩ : ∃ W3, wr.alloc (.cells #[.int .u32 (f.num : Int), .int .i64 f.lv, .string f.a, .string f.z] 37) = W3 := ⟨_, rfl⟩
      rw [show fiW wr f = W3 from hW3] at x1 HV HO HBw
      obtain ⟨p0, p1, p2, p3⟩ := x1.cells
      obtain ⟨X, hX⟩ : ∃ X, Vi.enc n1 ++ fbs (x.add.take k) = X := ⟨_, rfl⟩
      have hXl : X.length ≤ 4160010 := by rw [← hX, List.length_append]; omega
      obtain ⟨e, he⟩ : ∃ e, encFi f = e := ⟨_, rfl⟩
      rw [he] at HS HV hel
      have HS2 : Hid (Vi.enc n1 ++ fbs (x.add.take (k + 1)) = X ++ e) := by rw [Hid, HS.out, ← List.append_assoc, hX]
      rw [hX] at HO ⊢
      obtain ⟨N, hN⟩ : ∃ N, X.length = N := ⟨_, rfl⟩
      rw [hN] at HO hXl ⊢
      obtain ⟨M, hM⟩ : ∃ M, e.length = M := ⟨_, rfl⟩
      rw [hM] at HV hel
      have HN := Lib.hid hN; have HM := Lib.hid hM
      clear ho hb hf hfm hX he hN hM bx x1 HS hfb0 hxl
      go_wp2_with fail
      with_reducible refine Calls.mono HV.out ?_
      rintro e2 w4 ⟨A2, c2', rfl, _, _, ho2, hb2⟩
      have HO2 := Lib.hid (own_below HO.out hb2); have HB2 := Lib.hid (HBw.out.trans (hb2.mono HBw.out.size)); have HL2 := Lib.hid (Lies.of_own ho2)
      clear ho2 hb2 HV HO HBw d0 d1 d2 d3 p0 p1 p2 p3 hW3
      go_wp2_with (at_builtin; refine wpList_app _ rfl (.tmp 21) (.tmp 23) 39 rfl W1.heap.size 5 i0 _ 1 1 Try.underlying39 hi hz0 hz1 hz2 rfl (by decide) _ _ _ rfl HO2.out w4.heap.size A2 M _ _ rfl HL2.out (bv_one _) (by unfold maxLen; omega) (by omega) HB2.out.size ?_)
      intro v5 w5 ho5 hg5 _
      have HFn : Hid (EnR W1 n1 (fun k => Vi.enc n1 ++ fbs (x.add.take k)) v5 (.int .i64 ((k + 1 : Nat) : Int)) w5) := ⟨k + 1, hlt, rfl, by dsimp only; rw [HS2.out, List.length_append, HN.out, HM.out, List.map_append]; exact ho5, HB2.out.grown hg5 HB2.out.size (fun j hj => (HO2.out.lt j hj).1)⟩
      clear ho5 hg5 HO2 HB2 HL2
      go_wp2
      go_roundw
      case rel => exact HFn.out
      case measure => simp [intOf]; omega
    · have hnl : ¬ ((k : Int) < (n1 : Int)) := by omega
      have hkn : k = n1 := by omega
      subst hkn
      have ht : x.add.take k = x.add := List.take_of_length_le (by rw [HLa.out]; exact Nat.le_refl _)
      have hxl := hfb.out k
      rw [ht] at ho hxl ⊢
      obtain ⟨X, hX⟩ : ∃ X, Vi.enc k ++ fbs x.add = X := ⟨_, rfl⟩
      have hXl : X.length ≤ 4160010 := by rw [← hX, List.length_append]; omega
      have HX := Lib.hid hX
      rw [hX] at ho ⊢
      obtain ⟨N, hN⟩ : ∃ N, X.length = N := ⟨_, rfl⟩
      rw [hN] at ho hXl ⊢
      obtain ⟨k0, k1, k2, k3, k4⟩ := (HE.out.below hb HE.out.lt).cells
      have HO := Lib.hid ho; have HBw := Lib.hid hb; have HN := Lib.hid hN
      have HV := Lib.hid (num1 n2 wr (by omega))
      obtain ⟨e, he⟩ : ∃ e, Vi.enc n2 = e := ⟨_, rfl⟩
      rw [he] at HV hp2
      have HEe := Lib.hid he
      obtain ⟨M, hM⟩ : ∃ M, e.length = M := ⟨_, rfl⟩
      rw [hM] at HV hp2
      have HM := Lib.hid hM
      clear ho hb ht hX hN he hM hxl
      go_wp2_with fail
      with_reducible refine Calls.mono HV.out ?_
      rintro e2 w4 ⟨A2, c2', rfl, _, _, ho2, hb2⟩
      have HO2 := Lib.hid (own_below HO.out hb2); have HB2 := Lib.hid (HBw.out.trans (hb2.mono HBw.out.size)); have HL2 := Lib.hid (Lies.of_own ho2)
      clear ho2 hb2 HV HO HBw k0 k1 k2 k3 k4
      go_wp2_with (at_builtin; refine wpList_app _ rfl (.tmp 26) (.tmp 32) 39 rfl W1.heap.size 5 i0 _ 1 1 Try.underlying39 hi hz0 hz1 hz2 rfl (by decide) _ _ _ rfl HO2.out w4.heap.size A2 M _ _ rfl HL2.out (bv_one _) (by unfold maxLen; omega) (by omega) HB2.out.size ?_)
      intro v5 w5 ho5 hg5 _
      obtain ⟨k0, k1, k2, k3, k4⟩ := (HE.out.below (HB2.out.grown hg5 HB2.out.size (fun j hj => (HO2.out.lt j hj).1)) HE.out.lt).cells
      have HR : Hid (EnR W1 n2 (fun k => X ++ (e ++ nbs (x.rem.take k))) v5 (.int .i64 0) w5) := ⟨0, Nat.zero_le _, rfl, by
        have q : X ++ (e ++ nbs (x.rem.take 0)) = X ++ e := by simp [nbs]
        dsimp only
        rw [q, List.length_append, HN.out, HM.out, List.map_append]; exact ho5, HB2.out.grown hg5 HB2.out.size (fun j hj => (HO2.out.lt j hj).1)⟩
      clear ho5 hg5 HO2 HB2 HL2
      go_wp2_with fail
      go_loopw [3, 37] (fun v i wr => EnR W1 n2 (fun k => X ++ (e ++ nbs (x.rem.take k))) v i wr) (fun _ i _ => n2 - (intOf i).toNat)
      case atStart => exact HR.out
      case round =>
        clear HR k0 k1 k2 k3 k4
        obtain ⟨i, hi', rfl, ho, hb⟩ := hrel
        dsimp only at ho
        obtain ⟨Av, cv, rfl, _⟩ := own_shape ho
        have hrl := hrb.out i
        obtain ⟨Y, hY⟩ : ∃ Y, X ++ (e ++ nbs (x.rem.take i)) = Y := ⟨_, rfl⟩
        have hYl : Y.length ≤ 4560020 := by rw [← hY, List.length_append, List.length_append, HN.out, HM.out]; omega
        by_cases hlt : i < n2
        · obtain ⟨fb, fo, q, rfl, hfb0, hq, d0⟩ := ((HL2'.out.below hb).more hb.size).num hlt
          have hq32 := HSz.out.rem q (List.mem_of_getElem? hq)
          have hi0 : (0 : Int) ≤ (i : Int) := by omega
          have hi1 : (i : Int) < (n2 : Int) := by omega
          have hit : ((i : Int)).toNat = i := by simp
          have hwq : IntKind.u64.wrap (q : Int) = (q : Int) := by rw [IntKind.wrap_u64]; omega
          have HV := Lib.hid (num1 q wr (by omega))
          have HS : Hid (X ++ (e ++ nbs (x.rem.take (i + 1))) = Y ++ Vi.enc q) := by rw [Hid, nbs_take hq, ← hY]; simp only [List.append_assoc]
          have hel := Vi.enc_len q
          rw [hY] at ho ⊢
          obtain ⟨z, hz⟩ : ∃ z, Vi.enc q = z := ⟨_, rfl⟩
          rw [hz] at HV HS hel
          obtain ⟨NY, hNY⟩ : ∃ N, Y.length = N := ⟨_, rfl⟩
          rw [hNY] at ho hYl ⊢
          obtain ⟨MZ, hMZ⟩ : ∃ M, z.length = M := ⟨_, rfl⟩
          rw [hMZ] at HV hel
          have HNY := Lib.hid hNY; have HMZ := Lib.hid hMZ
          have HO := Lib.hid ho; have HBw := Lib.hid hb
          clear ho hb hq hz hNY hMZ hY hrl hfb0
          go_wp2_with fail
          with_reducible refine Calls.mono HV.out ?_
          rintro e2 w6 ⟨A2, c2', rfl, _, _, ho2, hb2⟩
          have HO2 := Lib.hid (own_below HO.out hb2); have HB2 := Lib.hid (HBw.out.trans (hb2.mono HBw.out.size)); have HL2 := Lib.hid (Lies.of_own ho2)
          clear ho2 hb2 HV HO HBw d0
          go_wp2_with (at_builtin; refine wpList_app _ rfl (.tmp 41) (.tmp 45) 39 rfl W1.heap.size 5 i0 _ 1 1 Try.underlying39 hi hz0 hz1 hz2 rfl (by decide) _ _ _ rfl HO2.out w6.heap.size A2 MZ _ _ rfl HL2.out (bv_one _) (by unfold maxLen; omega) (by omega) HB2.out.size ?_)
          intro v7 w7 ho7 hg7 _
          have HFn : Hid (EnR W1 n2 (fun k => X ++ (e ++ nbs (x.rem.take k))) v7 (.int .i64 ((i + 1 : Nat) : Int)) w7) := ⟨i + 1, hlt, rfl, by dsimp only; rw [HS.out, List.length_append, HNY.out, HMZ.out, List.map_append]; exact ho7, HB2.out.grown hg7 HB2.out.size (fun j hj => (HO2.out.lt j hj).1)⟩
          clear ho7 hg7 HO2 HB2 HL2
          go_wp2
          go_roundw
          case rel => exact HFn.out
          case measure => simp [intOf]; omega
        · have hnl2 : ¬ ((i : Int) < (n2 : Int)) := by omega
          have hin : i = n2 := by omega
          subst hin
          have ht : x.rem.take i = x.rem := List.take_of_length_le (by rw [HLr.out]; exact Nat.le_refl _)
          rw [ht] at hY
          rw [ht, hY] at ho
          rw [ht, hY]
          obtain ⟨k0, k1, k2, k3, k4⟩ := (HE.out.below hb HE.out.lt).cells
          have hj := HSz.out.jn; have hx := HSz.out.nx; have hq := HSz.out.sq
          have HV := Lib.hid (num3 x.jn x.nx x.sq wr (by omega) (by omega) hq)
          have hel : (Vi.enc x.jn ++ (Vi.enc x.nx ++ Vi.enc x.sq)).length ≤ 30 := by
            have := Vi.enc_len x.jn; have := Vi.enc_len x.nx; have := Vi.enc_len x.sq
            simp only [List.length_append]; omega
          have HS : Hid (encEd x = Y ++ (Vi.enc x.jn ++ (Vi.enc x.nx ++ Vi.enc x.sq))) := by rw [Hid, HFin.out, ← hY, ← HX.out, HEe.out]; simp only [List.append_assoc]
          obtain ⟨z, hz⟩ : ∃ z, Vi.enc x.jn ++ (Vi.enc x.nx ++ Vi.enc x.sq) = z := ⟨_, rfl⟩
          rw [hz] at HV HS hel
          obtain ⟨NY, hNY⟩ : ∃ N, Y.length = N := ⟨_, rfl⟩
          rw [hNY] at ho hYl ⊢
          obtain ⟨MZ, hMZ⟩ : ∃ M, z.length = M := ⟨_, rfl⟩
          rw [hMZ] at HV hel
          have HNY := Lib.hid hNY; have HMZ := Lib.hid hMZ
          have HO := Lib.hid ho; have HBw := Lib.hid hb
          clear ho hb hz hNY hMZ hY hrl ht hj hx hq
          go_wp2_with fail
          with_reducible refine Calls.mono HV.out ?_
          rintro e2 w6 ⟨A2, c2', rfl, _, _, ho2, hb2⟩
          have HO2 := Lib.hid (own_below HO.out hb2); have HB2 := Lib.hid (HBw.out.trans (hb2.mono HBw.out.size)); have HL2 := Lib.hid (Lies.of_own ho2)
          clear ho2 hb2 HV HO HBw k0 k1 k2 k3 k4
          go_wp2_with (at_builtin; refine wpList_app _ rfl (.tmp 48) (.tmp 58) 39 rfl W1.heap.size 5 i0 _ 1 1 Try.underlying39 hi hz0 hz1 hz2 rfl (by decide) _ _ _ rfl HO2.out w6.heap.size A2 MZ _ _ rfl HL2.out (bv_one _) (by unfold maxLen; omega) (by omega) HB2.out.size ?_)
          intro v7 w7 ho7 hg7 _
          have hb7 := HB2.out.grown hg7 HB2.out.size (fun j hj => (HO2.out.lt j hj).1)
          obtain ⟨A7, c7, rfl, q1, q2, _⟩ := own_shape ho7
          have HFn : Hid (Got w (encEd x).length (encEd x) (.returned (.slice A7 (NY + MZ) c7)) w7) := by
            have e1 : (encEd x).length = NY + MZ := by rw [HS.out, List.length_append, HNY.out, HMZ.out]
            rw [e1, HS.out]
            exact ⟨A7, c7, rfl, q1, q2, by rw [List.map_append]; exact own_base ho7 HB.out.size, HB.out.trans (hb7.mono HB.out.size)⟩
          clear ho7 hg7 hb7 HO2 HB2 HL2
          go_wp2
          go_ret
          exact HFn.out

/-- what Put answers -/
def SPutE (w : World) (x : Edt) (e : Ending) (w' : World) : Prop :=
  Below w.heap.size w w' ∧ ((okEd x = true ∧ ∃ A c, e = .returned (.tuple #[.slice A (encEd x).length c, .int .i64 0]) ∧ (encEd x).length ≤ c ∧ c ≤ maxLen ∧ w'.ownsRow w.heap.size 5 1 (.slice A (encEd x).length c) (encEd x).length ((encEd x).map bv)) ∨
    (okEd x = false ∧ e = .returned (.tuple #[.slice none 0 0, .int .i64 1])))
def PutR (W : World) (l : List Fi) (n : Nat) (i : Value) (wr : World) : Prop := ∃ k : Nat, k ≤ n ∧ i = .int .i64 (k : Int) ∧ (∀ f ∈ l.take k, okFi f = true) ∧ Below W.heap.size W wr

set_option maxHeartbeats 8000000 in
theorem edPut_any (x : Edt) (n1 n2 c1 c2 : Nat) (P1 P2 : Option Addr) (w : World) (h1 : Lies w w.heap.size 4 P1 n1 (fcs x.add)) (h2 : Lies w w.heap.size 1 P2 n2 (kvs x.rem)) (hsz : ∀ f ∈ x.add, szFi f) (hs : SzEd x) (l1 : n1 ≤ 40000) (l2 : n2 ≤ 40000) :
    Calls Try.prog 10 #[.agg #[.slice P1 n1 c1, .slice P2 n2 c2, .int .u32 (x.jn : Int), .int .u32 (x.nx : Int), .int .u64 (x.sq : Int)]] w (SPutE w x) := by
  have hla := h1.flen
  have hE : EtAt (w.alloc (.cells #[.slice P1 n1 c1, .slice P2 n2 c2, .int .u32 (x.jn : Int), .int .u32 (x.nx : Int), .int .u64 (x.sq : Int)] 27)) w.heap.size P1 n1 c1 P2 n2 c2 x.jn x.nx x.sq := heap_alloc_new w _
  have hB : Below w.heap.size w (w.alloc (.cells #[.slice P1 n1 c1, .slice P2 n2 c2, .int .u32 (x.jn : Int), .int .u32 (x.nx : Int), .int .u64 (x.sq : Int)] 27)) := (Below.refl _ _).alloc (Nat.le_refl _) _
  obtain ⟨W1, hW1⟩ : ∃ W, w.alloc (.cells #[.slice P1 n1 c1, .slice P2 n2 c2, .int .u32 (x.jn : Int), .int .u32 (x.nx : Int), .int .u64 (x.sq : Int)] 27) = W := ⟨_, rfl⟩
  rw [hW1] at hE hB
  have HL1 := Lib.hid ((h1.below hB).more hB.size); have HL2' := Lib.hid ((h2.below hB).more hB.size)
  have HE := Lib.hid hE; have HB := Lib.hid hB; have HSz := Lib.hid hs; have HSf := Lib.hid hsz; have HLa := Lib.hid hla
  obtain ⟨k0, k1, k2, k3, k4⟩ := hE.cells
  have HR : Hid (PutR W1 x.add n1 (.int .i64 0) W1) := ⟨0, Nat.zero_le _, rfl, (fun f hf => by simp at hf), Below.refl _ _⟩
  clear h1 h2 hE hB hsz hs hla
  go_enter Try.func10, Try.ntmps10
  go_wp2_with fail
  go_loopw [9] (fun i wr => PutR W1 x.add n1 i wr) (fun i _ => n1 - (intOf i).toNat)
  case atStart => exact HR.out
  case round =>
    clear HR k0 k1 k2 k3 k4
    obtain ⟨k, hk, rfl, hok, hb⟩ := hrel
    by_cases hlt : k < n1
    · obtain ⟨fb, fo, f, rfl, hfb0, hf, d0, d1, d2, d3⟩ := ((HL1.out.below hb).more hb.size).file hlt
      have hfm := List.mem_of_getElem? hf
      have hi0 : (0 : Int) ≤ (k : Int) := by omega
      have hi1 : (k : Int) < (n1 : Int) := by omega
      have hit : ((k : Int)).toNat = k := by simp
      have x1 := FiAt.new wr f
      have bx := fiW_below wr f
      have HV := Lib.hid (isValid_any f (fiW wr f) (HSf.out f hfm))
      have HBw := Lib.hid (hb.trans (bx.mono hb.size)); have HF := Lib.hid hf; have HOk := Lib.hid hok
      obtain ⟨B6, hB6⟩ : ∃ B, wr.heap.size = B := ⟨_, rfl⟩
      rw [hB6] at x1
      obtain ⟨W3, hW3⟩ : ∃ W3, wr.alloc (.cells #[.int .u32 (f.num : Int), .int .i64 f.lv, .string f.a, .string f.z] 37) = W3 := ⟨_, rfl⟩
      rw [show fiW wr f = W3 from hW3] at x1 HV HBw
      obtain ⟨p0, p1, p2, p3⟩ := x1.cells
      obtain ⟨v, hv⟩ : ∃ v, okFi f = v := ⟨_, rfl⟩
      rw [hv] at HV
      have HVv := Lib.hid hv
      clear hb hf hfm bx x1 hv hok hfb0
      go_wp2_with fail
      with_reducible refine Calls.mono HV.out ?_
      rintro e w4 ⟨rfl, hw4⟩
      have HB4 : Hid (Below W1.heap.size W1 w4) := by rw [Hid, hw4]; exact HBw.out.trans ((fiW_below W3 f).mono HBw.out.size)
      clear hw4 HV d0 d1 d2 d3 p0 p1 p2 p3 hW3
      cases v with
      | false =>
        have HFin : Hid (SPutE w x (.returned (.tuple #[.slice none 0 0, .int .i64 1])) w4) := ⟨HB.out.trans (HB4.out.mono HB.out.size), .inr ⟨(by
          rw [Bool.eq_false_iff]
          intro q
          have := List.all_eq_true.1 q f (List.mem_of_getElem? HF.out)
          rw [HVv.out] at this; cases this), rfl⟩⟩
        go_wp2
        go_ret2
        exact HFin.out
      | true =>
        have HFin : Hid (PutR W1 x.add n1 (.int .i64 ((k + 1 : Nat) : Int)) w4) := ⟨k + 1, hlt, rfl, (by
          intro q hq
          rw [List.take_add_one, HF.out] at hq
          rcases List.mem_append.1 hq with q1 | q1
          · exact HOk.out q q1
          · obtain rfl : q = f := by simpa using q1
            exact HVv.out), HB4.out⟩
        go_wp2
        go_roundw
        case rel => exact HFin.out
        case measure => simp [intOf]; omega
    · have hnl : ¬ ((k : Int) < (n1 : Int)) := by omega
      have hok2 : okEd x = true := by
        have e : k = n1 := by omega
        subst e
        rw [List.take_of_length_le (by rw [HLa.out]; exact Nat.le_refl _)] at hok
        exact List.all_eq_true.2 hok
      obtain ⟨k0, k1, k2, k3, k4⟩ := (HE.out.below hb HE.out.lt).cells
      have HV := Lib.hid (encoded_any x n1 n2 c1 c2 P1 P2 wr ((HL1.out.below hb).more hb.size) ((HL2'.out.below hb).more hb.size) hok2 HSz.out l1 l2)
      have HBw := Lib.hid hb; have HOk := Lib.hid hok2
      clear hok hb hok2
      obtain ⟨N, hN⟩ : ∃ N, (encEd x).length = N := ⟨_, rfl⟩
      rw [hN] at HV
      have HN := Lib.hid hN
      clear hN
      go_wp2_with fail
      with_reducible refine Calls.mono HV.out ?_
      rintro e w4 ⟨A, c, rfl, q1, q2, ho, hb4⟩
      have HFin : Hid (SPutE w x (.returned (.tuple #[.slice A N c, .int .i64 0])) w4) := ⟨HB.out.trans ((HBw.out.trans (hb4.mono HBw.out.size)).mono HB.out.size), .inl ⟨HOk.out, A, c, by rw [HN.out], by rw [HN.out]; exact q1, q2, by rw [HN.out]; exact own_base ho (Nat.le_trans HB.out.size HBw.out.size)⟩⟩
      clear ho hb4 HV
      go_wp2
      go_ret2
      exact HFin.out
end Go.Proofs.Ytnnocjnmfabnaaa
