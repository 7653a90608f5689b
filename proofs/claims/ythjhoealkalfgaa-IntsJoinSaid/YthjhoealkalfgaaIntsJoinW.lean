/-
  The walk of IntsJoin.
-/
import Derived.Test.YthjhoealkalfgaaLaw1
namespace Go.Proofs.Ythjhoealkalfgaa
open Go.RowKit
set_option linter.unusedVariables false

set_option maxHeartbeats 2000000 in
theorem intsJoin_yes (a b : ByteArray) (w : World) (ha : a.size ≤ 140737488351232) (hb : b.size ≤ 140737488351232) (hbig : 1048576 < a.size + b.size) :
    Calls Try.prog 11 #[.string a, .string b] w fun e w' => e = .returned (.bool true) ∧ Below w.heap.size w w' := by
  go_enter Try.func11, Try.ntmps11
  go_wp2_with fail
  refine (alive_any w).mono ?_
  rintro e w1 ⟨rfl, hb1⟩
  go_wp2_with fail
  refine (beyond_yes (a.size + b.size) w1 (by omega) hbig).mono ?_
  rintro e w2 ⟨rfl, hb2⟩
  have HB := Lib.hid (hb1.trans (hb2.mono hb1.size)); clear hb1 hb2
  go_wp2_with fail
  refine (alive_any w2).mono ?_
  rintro e w3 ⟨rfl, hb3⟩
  have HB3 := Lib.hid (HB.out.trans (hb3.mono HB.out.size)); clear hb3 HB
  go_wp2
  go_ret
  exact ⟨rfl, HB3.out⟩

/-- the same as 'putText_nil', its address known -/
theorem putText_one (s : ByteArray) (w : World) (hs : s.size ≤ 549755813888) :
    Calls Try.prog 24 #[.slice none 0 0, .string s] w fun e w' => GotS w ((Vi.enc s.size).length + s.size) (Vi.enc s.size ++ s.data.toList) e w' :=
  (putText_some none 0 0 s [] w (Lies.none_ _ _ _ _) (by omega)).mono fun e w' h => by simpa using h
theorem put_one (k : Nat) (w : World) (hk : k < 18446744073709551616) :
    Calls Try.prog 22 #[.slice none 0 0, .int .u64 (k : Int)] w fun e w' => GotS w (Vi.enc k).length (Vi.enc k) e w' :=
  (put_some none 0 0 k [] w (Lies.none_ _ _ _ _) hk (by decide)).mono fun e w' h => by simpa using h

theorem enc_mono {a b : Nat} (h : a ≤ b) (hb : b < 18446744073709551616) : (Vi.enc a).length ≤ (Vi.enc b).length := by
  have q1 := Vi.enc_pos b
  have q2 := Vi.enc_len b
  refine Vi.encF_le 10 a _ q1 (Nat.lt_of_le_of_lt h ?_)
  rcases Nat.lt_or_ge b (2 ^ (7 * (Vi.enc b).length)) with hlt | hge
  · exact hlt
  · rcases Nat.lt_or_ge (Vi.enc b).length 10 with h10 | h10
    · have := Vi.encF_ge 10 b (Vi.enc b).length hge h10
      exact absurd this (by show ¬ (Vi.enc b).length + 1 ≤ (Vi.enc b).length; omega)
    · have e : (Vi.enc b).length = 10 := by omega
      rw [e]; exact Nat.lt_trans hb (by decide)

theorem str_join (a b : ByteArray) : (⟨(a.data.toList ++ b.data.toList).toArray⟩ : ByteArray) = a ++ b := by
  apply ByteArray.ext
  simp
theorem str_back (s : ByteArray) : (⟨s.data.toList.toArray⟩ : ByteArray) = s := by cases s; simp
theorem putText_join (a b : ByteArray) (w : World) (hs : a.size + b.size ≤ 549755813888) :
    Calls Try.prog 24 #[.slice none 0 0, .string (a ++ b)] w fun e w' => GotS w ((Vi.enc (a.size + b.size)).length + (a.size + b.size)) (Vi.enc (a.size + b.size) ++ (a.data.toList ++ b.data.toList)) e w' := by
  have h := putText_one (a ++ b) w (by rw [ByteArray.size_append]; exact hs)
  rw [ByteArray.size_append, ByteArray.data_append, Array.toList_append] at h
  exact h
/-- the last bytes of a slice that was answered, as a string -/
theorem tail_str {w w1 : World} {B g c k n : Nat} {p r : List UInt8} (h : Lies w B 1 (some ⟨g, 0, none⟩) (k + n) ((p ++ r).map bv)) (hp : p.length = k) (hc : k + n ≤ c) (hw : ∀ a : Addr, a.block < B → w1.cell? a = w.cell? a) :
    (Instr.slice 22 (.slice (some ⟨g, 0, none⟩) (k + n) c) (some (.int .i64 (k : Int))) none none).run Try.prog w1 = .ok (.slice (cutA (some ⟨g, 0, none⟩) c k) n (c - k)) w1 ∧
    (convert 22 9 (.slice (cutA (some ⟨g, 0, none⟩) c k) n (c - k))).run Try.prog w1 = .ok (.string ⟨r.toArray⟩) w1 := by
  have h1 := run_cut w1 (some ⟨g, 0, none⟩) (k + n) c k (by omega)
  rw [Nat.add_sub_cancel_left] at h1
  refine ⟨h1, ?_⟩
  have h2 := (h.keep hw).cutA (m := k) (c := c) (by omega) hc
  rw [Nat.add_sub_cancel_left, List.drop_append, List.drop_eq_nil_of_le (by omega), hp, Nat.sub_self, List.drop_zero, List.nil_append] at h2
  exact run_str w1 _ _ 5 Try.underlying22 Try.underlying5 Try.underlying9 _ h2

set_option maxHeartbeats 4000000 in
theorem intsJoin_no (a b : ByteArray) (w : World) (hbig : a.size + b.size ≤ 1048576) :
    Calls Try.prog 11 #[.string a, .string b] w fun e w' => e = .returned (.bool true) ∧ Below w.heap.size w w' := by
  have hab : a.size + b.size ≤ 9223372036854775807 := by omega
  go_enter Try.func11, Try.ntmps11
  go_wp2_with fail
  refine (alive_any w).mono ?_
  rintro e w1 ⟨rfl, hb1⟩
  go_wp2_with fail
  refine (beyond_no (a.size + b.size) w1 hbig).mono ?_
  rintro e w2 ⟨rfl, hb2⟩
  have HB := Lib.hid (hb1.trans (hb2.mono hb1.size)); clear hb1 hb2
  go_wp2_with fail
  refine (putText_one a w2 (by omega)).mono ?_
  rintro e w3 ⟨g3, c3, rfl, hnc3, hcm3, hown3, hb3⟩
  have HB3 := Lib.hid (HB.out.trans (hb3.mono HB.out.size)); clear HB hb3
  have L3 := Lib.hid (Lies.of_own hown3); clear hown3
  go_wp2_with fail
  refine (putText_one b w3 (by omega)).mono ?_
  rintro e w4 ⟨g4, c4, rfl, hnc4, hcm4, hown4, hb4⟩
  have HB4 := Lib.hid (HB3.out.trans (hb4.mono HB3.out.size)); clear HB3
  have L34 := Lib.hid ((L3.out.below hb4).more hb4.size); clear L3 hb4
  have L4 := Lib.hid (Lies.of_own hown4); clear hown4
  go_wp2_with fail
  refine (putText_join a b w4 (by omega)).mono ?_
  rintro e w5 ⟨g5, c5, rfl, hnc5, hcm5, hown5, hb5⟩
  have HB5 := Lib.hid (HB4.out.trans (hb5.mono HB4.out.size)); clear HB4
  have L35 := Lib.hid ((L34.out.below hb5).more hb5.size); have L45 := Lib.hid ((L4.out.below hb5).more hb5.size); clear L34 L4 hb5
  have L5 := Lib.hid (Lies.of_own hown5); clear hown5
  go_wp2_with fail
  refine (put_one (a.size + b.size) w5 (by omega)).mono ?_
  rintro e w6 ⟨g6, c6, rfl, hnc6, hcm6, hown6, hb6⟩
  have HB6 := Lib.hid (HB5.out.trans (hb6.mono HB5.out.size)); clear HB5 hown6
  have T3 := tail_str (w1 := w6) L35.out rfl hnc3 (fun _ h => hb6.cell h)
  have T4 := tail_str (w1 := w6) L45.out rfl hnc4 (fun _ h => hb6.cell h)
  have T5 := tail_str (w1 := w6) L5.out rfl hnc5 (fun _ h => hb6.cell h)
  rw [str_back] at T3 T4
  rw [str_join] at T5
  clear hb6 L35 L45 L5
  have m1 := enc_mono (a := a.size) (b := a.size + b.size) (by omega) (by omega)
  have m2 : (Vi.enc (a.size + b.size)).length ≤ (Vi.enc a.size).length + (Vi.enc b.size).length + 1 := by
    have h3 : (Vi.enc (a.size + b.size)).length ≤ 3 := Vi.encF_le 10 _ 3 (by decide) (Nat.lt_of_le_of_lt hbig (by decide))
    have h1 := Vi.enc_pos a.size
    have h2 := Vi.enc_pos b.size
    omega
  have qa := Vi.enc_len a.size
  have qb := Vi.enc_len b.size
  have qz := Vi.enc_len (a.size + b.size)
  obtain ⟨t31, t32⟩ := T3
  obtain ⟨t41, t42⟩ := T4
  obtain ⟨t51, t52⟩ := T5
  generalize (Vi.enc (a.size + b.size)).length = kz at *
  generalize (Vi.enc a.size).length = ka at *
  generalize (Vi.enc b.size).length = kb at *
  have hfin : decide ((kz : Int) + (a.size : Int) + (b.size : Int) ≤ (ka : Int) + (a.size : Int) + ((kb : Int) + (b.size : Int)) + 1) = true := by simp; omega
  go_wp2
  go_ret
  exact ⟨rfl, HB6.out⟩

theorem intsJoin_walk (a b : ByteArray) (w : World) (ha : a.size ≤ 140737488351232) (hb : b.size ≤ 140737488351232) :
    Calls Try.prog 11 #[.string a, .string b] w fun e w' => e = .returned (.bool true) ∧ Below w.heap.size w w' := by
  by_cases hbig : 1048576 < a.size + b.size
  · exact intsJoin_yes a b w ha hb hbig
  · exact intsJoin_no a b w (by omega)
end Go.Proofs.Ythjhoealkalfgaa
