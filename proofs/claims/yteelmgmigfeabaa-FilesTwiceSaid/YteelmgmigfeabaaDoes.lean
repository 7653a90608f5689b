/-
  does: acts with a disk, whatever they are.
-/
import Derived.Test.YteelmgmigfeabaaGrow
import Derived.Test.YteelmgmigfeabaaActs
namespace Go.Proofs.Yteelmgmigfeabaa
open Go.RowKit Go.Maps Go.Sort
set_option linter.unusedVariables false
set_option maxRecDepth 20000

def boxA (x : AcC) (w : World) : World := w.alloc (.cells x.cs.toArray 87)
theorem boxA_below (x : AcC) (w : World) : Below w.heap.size w (boxA x w) := below_a (Below.refl _ w) _

def DR (w : World) (F : Nat → Prop) (d : Nat) (S : St) (l : List AcC) (n : Nat) (i : Value) (wr : World) : Prop :=
  ∃ (k : Nat) (S' : St), k ≤ n ∧ i = .int .i64 (k : Int) ∧ Left5 F d w wr S' ∧ Step S S' (weigh (l.take k))

set_option maxHeartbeats 4000000 in
theorem does_any {w : World} {F : Nat → Prop} {d B : Nat} {S : St} (h : Disk w F d S) (A : Option Addr) (n c : Nat) (l : List AcC) (hl : Lies w B 7 A n (acs l)) (ha : Acts w B l) (hB : B ≤ w.heap.size) (hF : ∀ i, F i → B ≤ i) (hn : n ≤ 200) :
    Calls Try.prog 26 #[dp d, .slice A n c] w fun x w' => x = .returned (.tuple #[]) ∧ ∃ S', Left5 F d w w' S' ∧ Step S S' (weigh l) := by
  have HD := Lib.hid h; have HL := Lib.hid hl; have HA := Lib.hid ha
  clear h hl ha
  go_enter Try.func26, Try.ntmps26
  go_wp2
  go_loopw [4] (fun i wr => DR w F d S l n i wr) (fun i _ => n - (intOf i).toNat)
  case atStart => exact ⟨0, S, Nat.zero_le _, rfl, left_same HD.out (Below.refl _ _), Step.refl S⟩
  case round =>
    obtain ⟨k, S1, hk, rfl, hL, hS⟩ := hrel
    have HLf := Lib.hid hL; have HS := Lib.hid hS
    clear hL hS
    by_cases hlt : k < n
    · have hbw : Below B w wr := HLf.out.1.below hB hF
      obtain ⟨b, o, x, hAe, hbB, hx, q0, q1, q2, q3, q4, q5, q6⟩ := (HL.out.below hbw).act hlt
      subst hAe
      have hok := (HA.out x (List.mem_of_getElem? hx)).below hbw
      have hkk := hok.kind
      obtain ⟨r, hr⟩ : ∃ r : Nat, r = x.kind % 10 := ⟨_, rfl⟩
      have hr10 : r < 10 := by rw [hr]; omega
      have m1 : (x.kind : Int) % 10 = (r : Int) := by omega
      have m2 : Int.tmod (x.kind : Int) 10 = (r : Int) := by rw [Int.tmod_eq_emod_of_nonneg (by omega)]; exact m1
      have HX := Lib.hid hx; have HOk := Lib.hid hok
      have hdl := HD.out.lt
      have hL1 : Left5 F d w (boxA x wr) S1 := HLf.out.below hdl (boxA_below x wr)
      have HD1 := Lib.hid hL1.2
      have HG : Hid (∀ w2 S2 m, Left5 (more F w (boxA x wr)) d (boxA x wr) w2 S2 → Step S1 S2 m → m ≤ x.n → Left5 F d w w2 S2 ∧ Step S S2 (weigh (l.take (k + 1)))) := fun w2 S2 m h1 h2 h3 => ⟨hL1.trans hdl h1, (HS.out.trans h2).more (by rw [weigh_take l k x hx]; omega)⟩
      have HN : Hid (Left5 F d w (boxA x wr) S1 ∧ Step S S1 (weigh (l.take (k + 1)))) := ⟨hL1, HS.out.more (by rw [weigh_take l k x hx]; omega)⟩
      have hsz1 : B ≤ wr.heap.size := Nat.le_trans hB HLf.out.1.size
      have HBy : Hid (Lies (boxA x wr) (boxA x wr).heap.size 1 x.A x.n (x.l.map bv)) := (hok.bytes.below ((boxA_below x wr).mono hsz1)).more (Nat.le_trans hsz1 (boxA_below x wr).size)
      have HNm : Hid (x.name.size ≤ 140737488355328 ∧ x.to_.size ≤ 140737488355328 ∧ x.n ≤ 140737488355328) := ⟨by have := hok.name; omega, by have := hok.to_; omega, by have := hok.nc; have := hok.cap; omega⟩
      clear hx hok hr hbw hdl hL1 hsz1
      by_cases r0 : r = 0
      · subst r0
        go_wp2_with fail
        change Calls _ _ _ (boxA x wr) _
        refine (grow_create HD1.out x.name HNm.out.1).mono ?_
        rintro x' w2 ⟨e, S2, rfl, hl2, hs2⟩
        have HE := Lib.hid (HG.out w2 S2 _ hl2 hs2 (by omega))
        clear hl2 hs2 q0 q1 q2 q3 q4 q5 q6
        go_wp2
        go_roundw
        case rel => exact ⟨k + 1, S2, hlt, by go_num, HE.out.1, HE.out.2⟩
        case measure => simp [intOf]; omega
      by_cases r1 : r = 1
      · subst r1
        go_wp2_with fail
        change Calls _ _ _ (boxA x wr) _
        refine (grow_remove HD1.out x.name HNm.out.1).mono ?_
        rintro x' w2 ⟨e, S2, rfl, hl2, hs2, _⟩
        have HE := Lib.hid (HG.out w2 S2 _ hl2 hs2 (by omega))
        clear hl2 hs2 q0 q1 q2 q3 q4 q5 q6
        go_wp2
        go_roundw
        case rel => exact ⟨k + 1, S2, hlt, by go_num, HE.out.1, HE.out.2⟩
        case measure => simp [intOf]; omega
      by_cases r2 : r = 2
      · subst r2
        go_wp2_with fail
        change Calls _ _ _ (boxA x wr) _
        refine (grow_rename HD1.out x.name x.to_ HNm.out.1 HNm.out.2.1).mono ?_
        rintro x' w2 ⟨e, S2, rfl, hl2, hs2⟩
        have HE := Lib.hid (HG.out w2 S2 _ hl2 hs2 (by omega))
        clear hl2 hs2 q0 q1 q2 q3 q4 q5 q6
        go_wp2
        go_roundw
        case rel => exact ⟨k + 1, S2, hlt, by go_num, HE.out.1, HE.out.2⟩
        case measure => simp [intOf]; omega
      by_cases r3 : r = 3
      · subst r3
        go_wp2_with fail
        change Calls _ _ _ (boxA x wr) _
        refine (grow_append HD1.out x.name HNm.out.1 _ _ _ _ HBy.out HNm.out.2.2).mono ?_
        rintro x' w2 ⟨e, S2, rfl, hl2, hs2⟩
        have HE := Lib.hid (HG.out w2 S2 _ hl2 hs2 (by omega))
        clear hl2 hs2 q0 q1 q2 q3 q4 q5 q6
        go_wp2
        go_roundw
        case rel => exact ⟨k + 1, S2, hlt, by go_num, HE.out.1, HE.out.2⟩
        case measure => simp [intOf]; omega
      by_cases r4 : r = 4
      · subst r4
        go_wp2_with fail
        change Calls _ _ _ (boxA x wr) _
        refine (grow_append HD1.out x.name HNm.out.1 _ _ _ _ HBy.out HNm.out.2.2).mono ?_
        rintro x' w2 ⟨e, S2, rfl, hl2, hs2⟩
        have HE := Lib.hid (HG.out w2 S2 _ hl2 hs2 (by omega))
        clear hl2 hs2 q0 q1 q2 q3 q4 q5 q6
        go_wp2
        go_roundw
        case rel => exact ⟨k + 1, S2, hlt, by go_num, HE.out.1, HE.out.2⟩
        case measure => simp [intOf]; omega
      by_cases r5 : r = 5
      · subst r5
        go_wp2
        go_roundw
        case rel => exact ⟨k + 1, S1, hlt, by go_num, HN.out.1, HN.out.2⟩
        case measure => simp [intOf]; omega
      by_cases r6 : r = 6
      · subst r6
        go_wp2_with fail
        change Calls _ _ _ (boxA x wr) _
        refine (grow_sync HD1.out x.name HNm.out.1).mono ?_
        rintro x' w2 ⟨e, S2, rfl, hl2, hs2⟩
        have HE := Lib.hid (HG.out w2 S2 _ hl2 hs2 (by omega))
        clear hl2 hs2 q0 q1 q2 q3 q4 q5 q6
        go_wp2
        go_roundw
        case rel => exact ⟨k + 1, S2, hlt, by go_num, HE.out.1, HE.out.2⟩
        case measure => simp [intOf]; omega
      by_cases r7 : r = 7
      · subst r7
        go_wp2_with fail
        change Calls _ _ _ (boxA x wr) _
        refine (grow_names HD1.out).mono ?_
        rintro x' w2 ⟨e, S2, rfl, hl2, hs2⟩
        have HE := Lib.hid (HG.out w2 S2 _ hl2 hs2 (by omega))
        clear hl2 hs2 q0 q1 q2 q3 q4 q5 q6
        go_wp2
        go_roundw
        case rel => exact ⟨k + 1, S2, hlt, by go_num, HE.out.1, HE.out.2⟩
        case measure => simp [intOf]; omega
      by_cases r8 : r = 8
      · subst r8
        go_wp2
        go_roundw
        case rel => exact ⟨k + 1, S1, hlt, by go_num, HN.out.1, HN.out.2⟩
        case measure => simp [intOf]; omega
      by_cases r9 : r = 9
      · subst r9
        go_wp2
        go_roundw
        case rel => exact ⟨k + 1, S1, hlt, by go_num, HN.out.1, HN.out.2⟩
        case measure => simp [intOf]; omega
      omega
    · obtain rfl : n = k := by omega
      have HE : Hid (∃ S', Left5 F d w wr S' ∧ Step S S' (weigh l)) := ⟨S1, HLf.out, by
        have := HS.out
        rw [List.take_of_length_le (by rw [HL.out.alen]; exact Nat.le_refl _)] at this
        exact this⟩
      go_wp2
      go_end0
      exact ⟨rfl, HE.out⟩
end Go.Proofs.Yteelmgmigfeabaa
