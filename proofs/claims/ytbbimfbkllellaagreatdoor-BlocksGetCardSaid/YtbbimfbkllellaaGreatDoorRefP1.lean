/-
  Contracts of the document's own answers for layer 1: Put, PutFour, PutText write the same bytes.
-/
import Derived.Test.YtbbimfbkllellaaGreatDoorIntsAB
namespace Go.Proofs.YtbbimfbkllellaaGreatDoor
open Go.RowKit
set_option linter.unusedVariables false
set_option maxRecDepth 100000

/-- what the loop of the document's Put keeps -/
def PRel (w : World) (n k : Nat) (l : List UInt8) (u v : Value) (wr : World) : Prop :=
  ∃ (m : Nat) (pre : List UInt8), u = .int .u64 (m : Int) ∧ wr.ownsRow w.heap.size 5 1 v (n + pre.length) ((l ++ pre).map bv) ∧ m < 18446744073709551616 ∧ pre.length < 10 ∧
    m < 2 ^ (7 * (10 - pre.length)) ∧ pre ++ Vi.encF (10 - pre.length) m = Vi.enc k ∧ Below w.heap.size w wr

set_option maxRecDepth 100000 in
set_option maxHeartbeats 2000000 in
theorem ref_put (A : Option Addr) (n c k : Nat) (l : List UInt8) (w : World) (h1 : Lies w w.heap.size 1 A n (l.map bv)) (hk : k < 18446744073709551616) (hs : n ≤ 549755813888) :
    Calls Tryz.prog 83 #[.slice A n c, .int .u64 (k : Int)] w fun e w' => ∃ v, e = .returned v ∧ w'.ownsRow w.heap.size 5 1 v (n + (Vi.enc k).length) ((l ++ Vi.enc k).map bv) ∧ Below w.heap.size w w' := by
  obtain ⟨i0, hi, hz0, hz1, hz2⟩ := info_parts byte_info
  go_enter Tryz.func83, Tryz.ntmps83
  go_wp2_with (at_builtin; refine wpList_app _ rfl (.const (.slice none 0 0)) (.tmp 6) 22 rfl w.heap.size 5 i0 _ 1 1 Tryz.underlying22 hi hz0 hz1 hz2 rfl (by decide) (.slice none 0 0) 0 [] rfl (World.ownsRow_nil _ _ _ _) w.heap.size A n c (l.map bv) rfl h1 (bv_one l) (by unfold maxLen; omega) (by omega) (Nat.le_refl _) ?_; intro v1 w1 hown1 hg1 _)
  have P0 : Hid (PRel w n k l (.int .u64 (k : Int)) v1 w1) := ⟨k, [], rfl, by simpa using hown1, hk, by decide, Nat.lt_trans hk (by decide), rfl, (Below.refl _ _).grown hg1 (Nat.le_refl _) (by simp [Value.ownBlock])⟩
  clear hown1 hg1 h1 hk
  go_wp2
  go_loopw [1, 5] (fun u v wr => PRel w n k l u v wr) (fun u _ _ => (intOf u).toNat)
  case atStart => exact P0.out
  case round =>
    clear P0
    obtain ⟨m, pre, rfl, hown, hm, hlen, hpow, henc, hb⟩ := hrel
    have HP := Lib.hid hpow; have HE := Lib.hid henc
    clear hpow henc
    have hbs := hb.size
    obtain ⟨A1, c1, rfl, hnc1, hcm1, _⟩ := own_shape hown
    have HM := Lib.hid hm
    clear hm hcm1
    obtain ⟨f, hf⟩ : ∃ f, 10 - pre.length = f + 1 := ⟨9 - pre.length, by omega⟩
    have HF := Lib.hid hf; clear hf
    by_cases hlt : m < 128
    · go_wp2_with (at_builtin; refine wpList_app _ rfl (.tmp 19) (.tmp 22) 22 rfl w.heap.size 5 i0 _ 1 1 Tryz.underlying22 hi hz0 hz1 hz2 rfl (by decide) (.slice A1 (n + pre.length) c1) (n + pre.length) ((l ++ pre).map bv) rfl (hown.alloc _) (wr.heap.size + 1) (some ⟨wr.heap.size, 0, none⟩) 1 1 [.int .u8 (m : Int)] rfl ?c1 ?c2 ?c3 ?c4 ?c5 ?_)
      case c1 => exact one_lies rfl _ _
      case c2 => intro u hu; simp at hu; subst hu; rfl
      case c3 => unfold maxLen; omega
      case c4 => omega
      case c5 => simp; omega
      intro v2 w2 hown2 hg2 _
      have hb2 : Below w.heap.size w w2 := (hb.alloc hbs _).grown hg2 (by simp; omega) (fun j hj => (hown.lt j hj).1)
      have he : Vi.enc k = pre ++ [UInt8.ofNat m] := by
        rw [← HE.out, HF.out]
        congr 1
        unfold Vi.encF
        rw [if_pos hlt]
      have hown3 : w2.ownsRow w.heap.size 5 1 v2 (n + (Vi.enc k).length) ((l ++ Vi.enc k).map bv) := by
        have e0 : ((l ++ Vi.enc k).map bv) = (l ++ pre).map bv ++ [.int .u8 (m : Int)] := by
          rw [he, ← List.append_assoc, List.map_append, List.map_singleton, bv_ofNat m (by omega)]
        have e1 : n + (Vi.enc k).length = n + pre.length + 1 := by rw [he]; simp; omega
        rw [e0, e1, List.map_append, List.append_assoc]
        exact hown2
      clear hown2 hg2 hown he
      go_wp2
      go_ret
      exact ⟨_, rfl, hown3, hb2⟩
    · obtain ⟨r, hr⟩ : ∃ r, m % 128 = r := ⟨_, rfl⟩
      obtain ⟨d, hd⟩ : ∃ d, m / 128 = d := ⟨_, rfl⟩
      have hr1 : (m : Int) % 128 = (r : Int) := by omega
      have hd1 : (m : Int) / 128 = (d : Int) := by omega
      have hrl : r < 128 := by omega
      have hdl : d < m := by omega
      have HDL2 : Hid (d < 18446744073709551616) := by have := HM.out; unfold Hid; omega
      have hw1 : (128 + (r : Int)) % 256 = 128 + (r : Int) := by omega
      have HR := Lib.hid hr; have HDD := Lib.hid hd
      clear hr hd
      go_wp2_with (at_builtin; refine wpList_app _ rfl (.tmp 10) (.tmp 15) 22 rfl w.heap.size 5 i0 _ 1 1 Tryz.underlying22 hi hz0 hz1 hz2 rfl (by decide) (.slice A1 (n + pre.length) c1) (n + pre.length) ((l ++ pre).map bv) rfl (hown.alloc _) (wr.heap.size + 1) (some ⟨wr.heap.size, 0, none⟩) 1 1 [.int .u8 (128 + (r : Int))] rfl ?d1 ?d2 ?d3 ?d4 ?d5 ?_)
      case d1 => exact one_lies rfl _ _
      case d2 => intro u hu; simp at hu; subst hu; rfl
      case d3 => unfold maxLen; omega
      case d4 => omega
      case d5 => simp; omega
      intro v2 w2 hown2 hg2 _
      have hb2 : Below w.heap.size w w2 := (hb.alloc hbs _).grown hg2 (by simp; omega) (fun j hj => (hown.lt j hj).1)
      have R : Hid (PRel w n k l (.int .u64 (d : Int)) v2 w2) := by
        have h9 : pre.length < 9 := by
          rcases Nat.lt_or_ge pre.length 9 with h | h
          · exact h
          · have h2 := HP.out
            have : 10 - pre.length = 1 := by omega
            rw [this] at h2; omega
        refine ⟨d, pre ++ [UInt8.ofNat (r + 128)], rfl, ?_, HDL2.out, by simp; omega, ?_, ?_, hb2⟩
        · have e : ((r + 128 : Nat) : Int) = 128 + (r : Int) := by omega
          have e0 : (l ++ (pre ++ [UInt8.ofNat (r + 128)])).map bv = (l ++ pre).map bv ++ [.int .u8 (128 + (r : Int))] := by
            rw [← List.append_assoc, List.map_append, List.map_singleton, bv_ofNat _ (by omega), e]
          have e1 : n + (pre ++ [UInt8.ofNat (r + 128)]).length = n + pre.length + 1 := by simp; omega
          rw [e0, e1, List.map_append, List.append_assoc]
          exact hown2
        · have e : 10 - (pre ++ [UInt8.ofNat (r + 128)]).length = f := by have := HF.out; simp; omega
          rw [e, ← HDD.out, Nat.div_lt_iff_lt_mul (by omega), ← Vi.pow7, ← HF.out]; exact HP.out
        · have e : 10 - (pre ++ [UInt8.ofNat (r + 128)]).length = f := by have := HF.out; simp; omega
          rw [e, List.append_assoc, ← HE.out, HF.out]
          congr 1
          conv => rhs; unfold Vi.encF
          rw [if_neg hlt, HR.out, HDD.out]
          rfl
      clear hown2 hg2 hown hb2 hb
      go_wp2
      go_roundw
      case rel => rw [show IntKind.u64.wrap (d : Int) = (d : Int) from by have := HDL2.out; rw [IntKind.wrap_u64]; omega]; exact R.out
      case measure => rw [show IntKind.u64.wrap (d : Int) = (d : Int) from by have := HDL2.out; rw [IntKind.wrap_u64]; omega]; simp [intOf]; omega

set_option maxHeartbeats 2000000 in
theorem ref_putText (A : Option Addr) (n c : Nat) (s : ByteArray) (l : List UInt8) (w : World) (h1 : Lies w w.heap.size 1 A n (l.map bv)) (hs : n + s.size ≤ 549755813888) :
    Calls Tryz.prog 124 #[.slice A n c, .string s] w fun e w' => ∃ v, e = .returned v ∧ w'.ownsRow w.heap.size 5 1 v (n + ((Vi.enc s.size).length + s.size)) ((l ++ (Vi.enc s.size ++ s.data.toList)).map bv) ∧ Below w.heap.size w w' := by
  obtain ⟨i0, hi, hz0, hz1, hz2⟩ := info_parts byte_info
  have hen := Vi.enc_len s.size
  have H := Lib.hid (ref_put A n c s.size l w h1 (by omega) (by omega))
  clear h1
  go_enter Tryz.func124, Tryz.ntmps124
  go_wp2_with fail
  refine H.out.mono ?_
  rintro e w1 ⟨v, rfl, hown, hb⟩
  go_wp2_with (at_builtin; refine Lib.wpList_append_own_string _ rfl (.tmp 9) (.tmp 10) 22 9 rfl w.heap.size 5 i0 Tryz.underlying22 Tryz.underlying9 hi hz0 hz1 hz2 v _ _ rfl hown s rfl (by unfold maxLen; omega) (by omega) hb.size ?_; intro v2 w2 hown2 hg2 _)
  have hb2 : Below w.heap.size w w2 := hb.grown hg2 hb.size (fun k hk => (hown.lt k hk).1)
  have hown3 : w2.ownsRow w.heap.size 5 1 v2 (n + ((Vi.enc s.size).length + s.size)) ((l ++ (Vi.enc s.size ++ s.data.toList)).map bv) := by
    rw [← List.append_assoc, List.map_append, ← Nat.add_assoc]; exact hown2
  clear hown2 hg2 hown H
  go_wp2
  go_ret
  exact ⟨_, rfl, hown3, hb2⟩
end Go.Proofs.YtbbimfbkllellaaGreatDoor
