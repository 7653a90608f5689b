/-
  Contracts of package ints: the writer of varints.
  Contracts of package ints: Put, PutText.
-/
import Derived.Test.YtbbimfbkllellaaGreatDoorMemM
import Derived.Test.YtbbimfbkllellaaGreatDoorVarint
import Derived.Lib.AppendStr
namespace Go.Proofs.YtbbimfbkllellaaGreatDoor
open Go.RowKit
set_option linter.unusedVariables false
set_option maxRecDepth 100000

theorem and127 (n : Nat) (hn : n < 18446744073709551616) : bits .and .u64 (n : Int) 127 = ((n % 128 : Nat) : Int) := by
  have h := u64_and_nat n 127 hn (by omega)
  have e : n &&& 127 = n % 128 := Nat.and_two_pow_sub_one_eq_mod n 7
  rw [e] at h
  exact h
theorem or128 (a : Nat) (ha : a < 128) : bits .or .u8 (a : Int) 128 = ((a + 128 : Nat) : Int) := by
  have h := u8_or_nat a 128 (by omega) (by omega)
  have e : a ||| 128 = a + 128 := by
    have := Nat.two_pow_add_eq_or_of_lt (i := 7) (b := a) (by simpa using ha) 1
    simp at this
    rw [Nat.or_comm, ← this]; omega
  rw [e] at h
  exact h

/-- one byte of a varint: the last one -/
theorem writer_last (g n : Nat) (w : World) (hn : n < 128) (h : Box w g 23 (.int .u64 n)) :
    Calls Tryz.prog 143 #[.pointer (some ⟨g, 0, none⟩)] w fun e w' => e = .returned (.tuple #[.int .u8 (n : Int), .bool true]) ∧ w' = w.setCell ⟨g, 0, none⟩ (.int .u64 0) := by
  have hc := h.cell
  have hf := h.frozen
  have hb : bits .and .u64 (n : Int) 127 = (n : Int) := by rw [and127 n (by omega), Nat.mod_eq_of_lt hn]
  have hm : (n : Int) % 256 = n := by omega
  have hd : (n : Int) / 128 = 0 := by omega
  go_enter Tryz.func143, Tryz.ntmps143
  go_wp2
  go_ret2
  exact ⟨rfl, rfl⟩
/-- one byte of a varint: not the last one -/
theorem writer_more (g n : Nat) (w : World) (hn : 128 ≤ n) (hn2 : n < 18446744073709551616) (h : Box w g 23 (.int .u64 n)) :
    Calls Tryz.prog 143 #[.pointer (some ⟨g, 0, none⟩)] w fun e w' => e = .returned (.tuple #[.int .u8 ((n % 128 + 128 : Nat) : Int), .bool false]) ∧ w' = w.setCell ⟨g, 0, none⟩ (.int .u64 ((n / 128 : Nat) : Int)) := by
  have hc := h.cell
  have hf := h.frozen
  obtain ⟨a, ha⟩ : ∃ a, a = n % 128 := ⟨_, rfl⟩
  obtain ⟨d, hd⟩ : ∃ d, d = n / 128 := ⟨_, rfl⟩
  have hal : a < 128 := by omega
  have hdl : 1 ≤ d := by omega
  have hb : bits .and .u64 (n : Int) 127 = (a : Int) := by rw [and127 n hn2, ha]
  have hm : (a : Int) % 256 = a := by omega
  have hd2 : (n : Int) / 128 = (d : Int) := by omega
  have hz : ((d : Int) == 0) = false := by simp; omega
  have ho := or128 a hal
  rw [← ha, ← hd]
  clear ha hd
  go_enter Tryz.func143, Tryz.ntmps143
  go_wp2
  go_ret2
  exact ⟨rfl, rfl⟩

/-- what the loop of varint keeps -/
def VRel (w : World) (n : Nat) (v : Value) (wr : World) : Prop :=
  ∃ (m : Nat) (pre : List UInt8), wr.ownsRow w.heap.size 5 1 v pre.length (pre.map bv) ∧ Box wr w.heap.size 23 (.int .u64 (m : Int)) ∧ m < 18446744073709551616 ∧ pre.length < 10 ∧
    m < 2 ^ (7 * (10 - pre.length)) ∧ pre ++ Vi.encF (10 - pre.length) m = Vi.enc n ∧ Below w.heap.size w wr

theorem writer_new (n : Nat) (w : World) :
    Calls Tryz.prog 140 #[.int .u64 (n : Int)] w fun e w' => e = .returned (.func (.func 143) #[] #[.pointer (some ⟨w.heap.size, 0, none⟩)]) ∧ w' = w.alloc (.cells #[.int .u64 (n : Int)] 23) := by
  have hmf : ∀ (fn : Fn) (first cap : Array Value) (w : World), (Instr.makeFunc fn first cap).run Tryz.prog w = .ok (.func fn first cap) w := fun _ _ _ _ => rfl
  go_enter Tryz.func140, Tryz.ntmps140
  go_wp2
  go_ret
  exact ⟨rfl, rfl⟩

/-- the round of varint: the last byte -/
theorem VRel.last {w wr w1 : World} {n m : Nat} {pre : List UInt8} {v v1 : Value} (hm : m < 128) (hlen : pre.length < 10) (henc : pre ++ Vi.encF (10 - pre.length) m = Vi.enc n)
    (hb : Below w.heap.size w wr) (hown : wr.ownsRow w.heap.size 5 1 v pre.length (pre.map bv)) (hbox : Box wr w.heap.size 23 (.int .u64 (m : Int)))
    {o : Obj} (hown1 : w1.ownsRow w.heap.size 5 1 v1 (pre.length + 1) (pre.map bv ++ [.int .u8 (m : Int)]))
    (hg : ((wr.setCell ⟨w.heap.size, 0, none⟩ (.int .u64 0)).alloc o).grownBy w1 v.ownBlock) :
    w1.ownsRow w.heap.size 5 1 v1 (Vi.enc n).length ((Vi.enc n).map bv) ∧ Below w.heap.size w w1 := by
  have he : Vi.encF (10 - pre.length) m = [UInt8.ofNat m] := by
    obtain ⟨f, hf⟩ : ∃ f, 10 - pre.length = f + 1 := ⟨9 - pre.length, by omega⟩
    rw [hf]; unfold Vi.encF; rw [if_pos hm]
  rw [he] at henc
  rw [← henc]
  refine ⟨by simpa [bv, Vi.toNat_ofNat m (by omega)] using hown1, ?_⟩
  have h1 : Below w.heap.size w ((wr.setCell ⟨w.heap.size, 0, none⟩ (.int .u64 0)).alloc o) := (hb.setCell (p := ⟨w.heap.size, 0, none⟩) (Nat.le_refl _) _).alloc (by simpa [World.setCell] using hb.size) o
  exact h1.grown hg (by simpa [World.setCell] using Nat.le_succ_of_le hb.size) (fun k hk => (hown.lt k hk).1)
/-- the round of varint: another byte -/
theorem VRel.more {w wr w1 : World} {n m : Nat} {pre : List UInt8} {v v1 : Value} (hm : 128 ≤ m) (hm2 : m < 18446744073709551616) (hlen : pre.length < 10) (henc : pre ++ Vi.encF (10 - pre.length) m = Vi.enc n)
    (hpow : m < 2 ^ (7 * (10 - pre.length)))
    (hb : Below w.heap.size w wr) (hown : wr.ownsRow w.heap.size 5 1 v pre.length (pre.map bv)) (hbox : Box wr w.heap.size 23 (.int .u64 (m : Int)))
    {o : Obj} (hown1 : w1.ownsRow w.heap.size 5 1 v1 (pre.length + 1) (pre.map bv ++ [.int .u8 ((m % 128 + 128 : Nat) : Int)]))
    (hg : ((wr.setCell ⟨w.heap.size, 0, none⟩ (.int .u64 ((m / 128 : Nat) : Int))).alloc o).grownBy w1 v.ownBlock) : VRel w n v1 w1 ∧ pre.length < 9 ∧ lenV v1 = pre.length + 1 := by
  have h9 : pre.length < 9 := by
    rcases Nat.lt_or_ge pre.length 9 with h | h
    · exact h
    · have : 10 - pre.length = 1 := by omega
      rw [this] at hpow; omega
  have h1 : Below w.heap.size w ((wr.setCell ⟨w.heap.size, 0, none⟩ (.int .u64 ((m / 128 : Nat) : Int))).alloc o) := (hb.setCell (p := ⟨w.heap.size, 0, none⟩) (Nat.le_refl _) _).alloc (by simpa [World.setCell] using hb.size) o
  obtain ⟨f, hf⟩ : ∃ f, 10 - pre.length = f + 1 := ⟨9 - pre.length, by omega⟩
  refine ⟨⟨m / 128, pre ++ [UInt8.ofNat (m % 128 + 128)], ?_, ?_, by omega, by simp; omega, ?_, ?_, ?_⟩, h9, ?_⟩
  · rw [List.map_append, List.length_append, List.map_singleton, bv_ofNat _ (by omega)]
    exact hown1
  · refine Box.grown (((hbox.set _).alloc o)) hg ?_
    exact hbox.not_own hown (by decide)
  · have e : 10 - (pre ++ [UInt8.ofNat (m % 128 + 128)]).length = f := by simp; omega
    rw [e, Nat.div_lt_iff_lt_mul (by omega), ← Vi.pow7, ← hf]; exact hpow
  · have e : 10 - (pre ++ [UInt8.ofNat (m % 128 + 128)]).length = f := by simp; omega
    rw [e, List.append_assoc, ← henc, hf]
    congr 1
    conv => rhs; unfold Vi.encF
    rw [if_neg (by omega)]
    rfl
  · exact h1.grown hg (by simpa [World.setCell] using Nat.le_succ_of_le hb.size) (fun k hk => (hown.lt k hk).1)
  · obtain ⟨A, c, rfl, _⟩ := own_shape hown1
    rfl

set_option maxHeartbeats 1000000 in
theorem varint_any (n : Nat) (w : World) (hn : n < 18446744073709551616) :
    Calls Tryz.prog 134 #[.int .u64 (n : Int)] w fun e w' => ∃ v, e = .returned v ∧ w'.ownsRow w.heap.size 5 1 v (Vi.enc n).length ((Vi.enc n).map bv) ∧ Below w.heap.size w w' := by
  obtain ⟨i0, hi, hz0, hz1, hz2⟩ := info_parts byte_info
  go_enter Tryz.func134, Tryz.ntmps134
  go_wp2_with (first
    | (go_at_call 140; refine (writer_new _ _).mono ?_; rintro e w' ⟨rfl, rfl⟩)
    | (at_make; refine wpList_make_own _ rfl _ _ 22 rfl w.heap.size 5 i0 _ 1 Tryz.underlying22 hi hz0 hz1 _ _ _ 10 rfl rfl rfl (by rw [hz2]; decide) (by simp [maxLen]) (by simp) ?_; intro w1 hown1 hgrow1))
  simp at hown1
  go_loopw [4] (fun v wr => VRel w n v wr) (fun v _ => 10 - lenV v)
  case atStart =>
    exact ⟨n, [], hown1, (Box.new w _ _).grown hgrow1 (by simp), hn, by decide, Nat.lt_trans hn (by decide), rfl, ((Below.refl _ _).alloc (Nat.le_refl _) _).grown hgrow1 (by simp) (by simp)⟩
  case round =>
    clear hown1 hgrow1
    obtain ⟨m, pre, hown, hbox, hm, hlen, hpow, henc, hb⟩ := hrel
    have HP := Lib.hid hpow; clear hpow
    have HE := Lib.hid henc; clear henc
    obtain ⟨A, c, rfl, hnc, hcm, hA⟩ := own_shape hown
    by_cases hlt : m < 128
    · go_wp2_with (first
        | (go_at_call 143; refine (writer_last w.heap.size m _ hlt hbox).mono ?_; rintro e w' ⟨rfl, rfl⟩)
        | (at_builtin; refine wpList_app _ rfl (.tmp 15) (.tmp 17) 22 rfl w.heap.size 5 i0 _ 1 1 Tryz.underlying22 hi hz0 hz1 hz2 rfl (by decide) (.slice A pre.length c) pre.length (pre.map bv) rfl ((own_setBox hown hbox (by decide) _).alloc _) (wr.heap.size + 1) (some ⟨wr.heap.size, 0, none⟩) 1 1 [.int .u8 (m : Int)] rfl ?c1 ?c2 ?c3 ?c4 ?c5 ?_))
      case c1 => exact one_lies (by simp [World.setCell]) _ _
      case c2 => intro u hu; simp at hu; subst hu; rfl
      case c3 => unfold maxLen; omega
      case c4 => omega
      case c5 => simpa [World.setCell] using Nat.le_succ_of_le hb.size
      intro v1 w1 hown1 hg1 _
      have R := VRel.last hlt hlen HE.out hb hown hbox hown1 hg1
      clear hown1 hg1 hbox hown
      go_wp2
      go_ret
      exact ⟨_, rfl, R.1, R.2⟩
    · have hge : 128 ≤ m := by omega
      go_wp2_with (first
        | (go_at_call 143; refine (writer_more w.heap.size m _ hge hm hbox).mono ?_; rintro e w' ⟨rfl, rfl⟩)
        | (at_builtin; refine wpList_app _ rfl (.tmp 15) (.tmp 17) 22 rfl w.heap.size 5 i0 _ 1 1 Tryz.underlying22 hi hz0 hz1 hz2 rfl (by decide) (.slice A pre.length c) pre.length (pre.map bv) rfl ((own_setBox hown hbox (by decide) _).alloc _) (wr.heap.size + 1) (some ⟨wr.heap.size, 0, none⟩) 1 1 [.int .u8 ((m % 128 + 128 : Nat) : Int)] rfl ?d1 ?d2 ?d3 ?d4 ?d5 ?_))
      case d1 => exact one_lies (by simp [World.setCell]) _ _
      case d2 => intro u hu; simp at hu; subst hu; rfl
      case d3 => unfold maxLen; omega
      case d4 => omega
      case d5 => simpa [World.setCell] using Nat.le_succ_of_le hb.size
      intro v1 w1 hown1 hg1 _
      have R := VRel.more hge hm hlen HE.out HP.out hb hown hbox hown1 hg1
      have R9 := R.2.1
      have RL := Lib.hid R.2.2
      have RR := Lib.hid R.1
      clear hown1 hg1 hbox hown R
      go_wp2
      go_roundw
      case rel => exact RR.out
      case measure => rw [RL.out]; simp only [lenV_slice]; omega
end Go.Proofs.YtbbimfbkllellaaGreatDoor

namespace Go.Proofs.YtbbimfbkllellaaGreatDoor
open Go.RowKit
set_option linter.unusedVariables false
set_option maxRecDepth 100000

set_option maxHeartbeats 1000000 in
theorem put_any (A : Option Addr) (n c k : Nat) (l : List UInt8) (w : World) (h1 : Lies w w.heap.size 1 A n (l.map bv)) (hk : k < 18446744073709551616) (hs : n ≤ 549755813888) :
    Calls Tryz.prog 118 #[.slice A n c, .int .u64 (k : Int)] w fun e w' => ∃ v, e = .returned v ∧ w'.ownsRow w.heap.size 5 1 v (n + (Vi.enc k).length) ((l ++ Vi.enc k).map bv) ∧ Below w.heap.size w w' := by
  have hen := Vi.enc_len k
  go_enter Tryz.func118, Tryz.ntmps118
  go_wp2_with fail
  refine (varint_any k w hk).mono ?_
  rintro e w1 ⟨v, rfl, hown, hb⟩
  obtain ⟨A2, c2, rfl, _⟩ := own_shape hown
  go_wp2_with fail
  refine (collect_any A A2 n _ c c2 l (Vi.enc k) w1 ((h1.below hb).more hb.size) (Lies.of_own hown) (by omega)).mono ?_
  rintro e w2 ⟨v2, rfl, hown2, hb2⟩
  go_wp2
  go_ret
  exact ⟨_, rfl, own_base hown2 hb.size, hb.trans (hb2.mono hb.size)⟩

set_option maxHeartbeats 1000000 in
theorem putText_any (A : Option Addr) (n c : Nat) (s : ByteArray) (l : List UInt8) (w : World) (h1 : Lies w w.heap.size 1 A n (l.map bv)) (hs : n + s.size ≤ 549755813888) :
    Calls Tryz.prog 135 #[.slice A n c, .string s] w fun e w' => ∃ v, e = .returned v ∧ w'.ownsRow w.heap.size 5 1 v (n + ((Vi.enc s.size).length + s.size)) ((l ++ (Vi.enc s.size ++ s.data.toList)).map bv) ∧ Below w.heap.size w w' := by
  obtain ⟨i0, hi, hz0, hz1, hz2⟩ := info_parts byte_info
  have hen := Vi.enc_len s.size
  go_enter Tryz.func135, Tryz.ntmps135
  go_wp2_with fail
  refine (varint_any s.size w (by omega)).mono ?_
  rintro e w1 ⟨v, rfl, hown, hb⟩
  go_wp2_with (at_builtin; refine Lib.wpList_append_own_string _ rfl (.tmp 9) (.tmp 10) 22 9 rfl w.heap.size 5 i0 Tryz.underlying22 Tryz.underlying9 hi hz0 hz1 hz2 v _ _ rfl hown s rfl (by unfold maxLen; omega) (by omega) hb.size ?_; intro v2 w2 hown2 hg2 _)
  have hb2 : Below w.heap.size w w2 := hb.grown hg2 hb.size (fun k hk => (hown.lt k hk).1)
  have hown3 : w2.ownsRow w.heap.size 5 1 v2 ((Vi.enc s.size).length + s.size) ((Vi.enc s.size ++ s.data.toList).map bv) := by rw [List.map_append]; exact hown2
  clear hown2 hg2 hown
  obtain ⟨A2, c2, rfl, _⟩ := own_shape hown3
  refine (collect_any A A2 n _ c c2 l _ w2 ((h1.below hb2).more hb2.size) (Lies.of_own hown3) (by omega)).mono ?_
  rintro e w3 ⟨v3, rfl, hown4, hb3⟩
  go_wp2
  go_ret
  exact ⟨_, rfl, own_base hown4 hb2.size, hb2.trans (hb3.mono hb2.size)⟩

end Go.Proofs.YtbbimfbkllellaaGreatDoor

