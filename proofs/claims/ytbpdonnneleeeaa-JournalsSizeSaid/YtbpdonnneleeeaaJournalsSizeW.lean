/-
  The walk of JournalsSize.
-/
import Derived.Test.YtbpdonnneleeeaaJEnd3
namespace Go.Proofs.Ytbpdonnneleeeaa
open Go.RowKit Go.Maps Go.Sort
set_option linter.unusedVariables false
set_option maxRecDepth 100000

theorem journalsSize_big (A : Option Addr) (n c : Nat) (w : World) (hn : 60 < n) (hn2 : n ≤ 140737488351232) :
    Calls Try.prog 6 #[.slice A n c] w fun e w' => e = .returned (.bool true) ∧ Below w.heap.size w w' := by
  have i1 : (60 : Int) < (n : Int) := by omega
  go_enter Try.func6, Try.ntmps6
  go_wp2_with fail
  refine (alive6_any w).mono ?_
  rintro x w1 ⟨rfl, hb1⟩
  have HB := Lib.hid hb1; clear hb1
  have F1 : Hid (Calls Try.prog 13 #[] w1 fun e w' => e = .returned (.bool true) ∧ Below w.heap.size w w') := (alive6_any w1).mono fun x w' ⟨hx, hb⟩ => ⟨hx, HB.out.trans (hb.mono HB.out.size)⟩
  go_wp2_with fail
  refine F1.out.mono ?_
  rintro x w2 ⟨rfl, hb⟩
  have HB2 := Lib.hid hb; clear hb
  go_wp2
  go_ret
  exact ⟨rfl, HB2.out⟩

/-- how many bytes a record's parts take hangs on its length alone -/
theorem enc_len_same (first : Bool) (pos : Nat) (r : List UInt8) (h8 : 8 ≤ Jr.room pos) : ∀ (first' : Bool) (r' : List UInt8), r'.length = r.length → (Jr.bytesOf (Jr.enc first' pos r')).length = (Jr.bytesOf (Jr.enc first pos r)).length := by
  refine Jr.enc_ind (C := fun first pos r => ∀ (first' : Bool) (r' : List UInt8), r'.length = r.length → (Jr.bytesOf (Jr.enc first' pos r')).length = (Jr.bytesOf (Jr.enc first pos r)).length) ?_ ?_ first pos r h8
  · intro first pos r h8 h first' r' hr
    rw [Jr.enc_last first h, Jr.enc_last first' (by omega), Jr.bytesOf_cons, Jr.bytesOf_cons, List.length_append, List.length_append, Jr.partB_len, Jr.partB_len, hr]
  · intro first pos r h8 h ih first' r' hr
    have := ih false (r'.drop (Jr.room pos - 7)) (by rw [List.length_drop, List.length_drop, hr])
    rw [Jr.enc_more first h h8, Jr.enc_more first' (by omega) h8, Jr.bytesOf_cons, Jr.bytesOf_cons, List.length_append, List.length_append, Jr.partB_len, Jr.partB_len, this, List.length_take, List.length_take, hr]
/-- so many bytes the parts of m bytes take, from there on -/
def encL (pos m : Nat) : Nat := (Jr.bytesOf (Jr.enc true pos (List.replicate m 0))).length
theorem encL_last {pos m : Nat} (h : m ≤ Jr.room pos - 7) : encL pos m = 7 + m := by
  unfold encL
  rw [Jr.enc_last true (by rw [List.length_replicate]; exact h), Jr.bytesOf_cons, List.length_append, Jr.partB_len, List.length_replicate]
  rfl
theorem encL_more {pos m : Nat} (h : Jr.room pos - 7 < m) (h8 : 8 ≤ Jr.room pos) : encL pos m = Jr.room pos + encL (pos + Jr.room pos) (m - (Jr.room pos - 7)) := by
  unfold encL
  rw [Jr.enc_more true (by rw [List.length_replicate]; exact h) h8, Jr.bytesOf_cons, List.length_append, Jr.partB_len, List.length_take, List.length_replicate,
    enc_len_same true (pos + Jr.room pos) (List.replicate (m - (Jr.room pos - 7)) 0) (by rw [Jr.room_add]; decide) false _ (by rw [List.length_drop, List.length_replicate, List.length_replicate])]
  omega
theorem wr_encL (a m : Nat) : a + (Jr.wr a (List.replicate m 0)).length = Jr.nextP a + encL (Jr.nextP a) m := by
  have := Jr.next_ge a
  unfold Jr.wr encL
  rw [List.length_append, List.length_replicate]; omega

def isT : Value → Nat
  | .bool true => 1
  | _ => 0
/-- what holds ahead of each round over a record's parts -/
def PartRel (L : Nat) (a m first : Value) : Prop :=
  ∃ (x y : Nat) (z : Bool), a = .int .i64 (x : Int) ∧ m = .int .i64 (y : Int) ∧ first = .bool z ∧ x ≤ L ∧ y ≤ 2000 ∧ ((z = true ∨ 0 < y) → Jr.nextP x + encL (Jr.nextP x) y = L) ∧ (z = false → y = 0 → x = L)
theorem part_round {L x y : Nat} {z : Bool} {a' m' : Int} (hgo : Jr.nextP x + encL (Jr.nextP x) y = L) (hy : y ≤ 2000) (hon : z = true ∨ 0 < y) (ha : a' = ((Jr.nextP x + 7 + min y (Jr.room (Jr.nextP x) - 7) : Nat) : Int)) (hm : m' = ((y - min y (Jr.room (Jr.nextP x) - 7) : Nat) : Int)) :
    PartRel L (.int .i64 a') (.int .i64 m') (.bool false) ∧ 2 * (intOf (.int .i64 m')).toNat + isT (.bool false) < 2 * (intOf (.int .i64 (y : Int))).toNat + isT (.bool z) := by
  have h8 := Jr.room_next x
  subst ha hm
  have hme : 2 * (y - min y (Jr.room (Jr.nextP x) - 7)) < 2 * y + isT (.bool z) := by
    rcases hon with rfl | h
    · show _ < _ + 1; omega
    · omega
  refine ⟨?_, by simpa [intOf, isT] using hme⟩
  by_cases hle : y ≤ Jr.room (Jr.nextP x) - 7
  · rw [encL_last hle] at hgo
    rw [Nat.min_eq_left hle]
    exact ⟨_, 0, false, rfl, by rw [Nat.sub_self], rfl, by omega, by omega, fun h => by rcases h with h | h; cases h; omega, fun _ _ => by omega⟩
  · have hlt : Jr.room (Jr.nextP x) - 7 < y := by omega
    rw [encL_more hlt h8] at hgo
    rw [Nat.min_eq_right (by omega)]
    have hnn : Jr.nextP (Jr.nextP x + Jr.room (Jr.nextP x)) = Jr.nextP x + Jr.room (Jr.nextP x) := by
      have := Jr.room_add (Jr.nextP x)
      unfold Jr.nextP at this ⊢
      rw [if_neg (by rw [this]; decide)]
    have he : Jr.nextP x + 7 + (Jr.room (Jr.nextP x) - 7) = Jr.nextP x + Jr.room (Jr.nextP x) := by omega
    rw [he]
    exact ⟨_, _, false, rfl, rfl, rfl, by omega, by omega, fun _ => by rw [hnn]; omega, fun _ h => by omega⟩
/-- what holds ahead of each round -/
def SizeRel (w : World) (d p f n : Nat) (at_ i : Value) (wr : World) : Prop :=
  ∃ (k : Nat) (S : St) (b : List UInt8) (rs : List (List UInt8)), k ≤ n ∧ i = .int .i64 (k : Int) ∧ at_ = .int .i64 (b.length : Int) ∧ Jn w wr d p f S b rs ∧ b.length ≤ 16014 * k

set_option maxHeartbeats 8000000 in
theorem journalsSize_all (A : Option Addr) (n c : Nat) (l : List Nat) (w : World) (y : Lies w w.heap.size 1 A n (l.map (fun x : Nat => Value.int .u16 (x : Int)))) (hu : ∀ x ∈ l, x < 65536) (h1 : n ≤ 60) :
    Calls Try.prog 6 #[.slice A n c] w fun e w' => e = .returned (.bool true) ∧ Below w.heap.size w w' := by
  have Y := Lib.hid y; have U := Lib.hid hu
  clear y hu
  have i1 : (n : Int) ≤ 60 := by omega
  go_enter Try.func6, Try.ntmps6
  go_wp2_with fail
  refine (alive6_any w).mono ?_
  rintro x w1 ⟨rfl, hb1⟩
  have HO := Lib.hid (opened_any hb1)
  clear hb1
  go_wp2_with fail
  refine HO.out.mono ?_
  rintro x w3 ⟨d, p, f, rfl, hJ⟩
  have HR : Hid (SizeRel w d p f n (.int .i64 0) (.int .i64 0) w3) := ⟨0, _, [], _, Nat.zero_le _, rfl, rfl, hJ, by simp⟩
  clear hJ HO
  go_wp2
  go_loopw [5, 6] (fun a i wr => SizeRel w d p f n a i wr) (fun _ i _ => n - (intOf i).toNat)
  case atStart => exact HR.out
  case round =>
    clear HR
    obtain ⟨k, S, b, rs, hk, rfl, rfl, hJ, hlen⟩ := hrel
    have HJ := Lib.hid hJ
    have hbl := hJ.low
    clear hJ
    by_cases hlt : k < n
    · have hi : (k : Int) < (n : Int) := by omega
      obtain ⟨g, o, v, rfl, hg, hv, hcell⟩ := Y.out.at_ hlt
      obtain ⟨x0, rfl, hx0⟩ : ∃ x0 : Nat, v = .int .u16 (x0 : Int) ∧ x0 < 65536 := by
        rw [List.getElem?_map] at hv
        cases hx : l[k]? with
        | none => rw [hx] at hv; cases hv
        | some x => rw [hx] at hv; injection hv with hv; exact ⟨x, hv.symm, U.out x (List.mem_of_getElem? hx)⟩
      have hc0 : wr.cell? ⟨g, o + k, none⟩ = some (.int .u16 (x0 : Int)) := (hbl.cell hg).trans hcell
      have hw0 : IntKind.i64.wrap (x0 : Int) = (x0 : Int) := (IntWalk.i64_left _).trans (IntWalk.wrap64_in _ ⟨by omega, by omega⟩)
      obtain ⟨m, hm, hm2⟩ : ∃ m : Nat, (x0 : Int) % 2000 = (m : Int) ∧ m < 2000 := ⟨x0 % 2000, by omega, by omega⟩
      have hmk : ∀ W, (Instr.makeSlice 22 (.int .i64 (m : Int)) (.int .i64 (m : Int))).run Try.prog W = .ok (.slice (some ⟨W.heap.size, 0, none⟩) m m) (mkZ W m) := fun W => (mkZ_is W m (by omega)).1
      clear hv hbl hcell
      go_wp2_with fail
      rw [hm]
      have hw8 := wr_len_le b.length (List.replicate m 0)
      rw [List.length_replicate] at hw8
      have hL := wr_encL b.length m
      refine (jn_add (HJ.out.below (mkZ_is wr m (by omega)).2.2) (some ⟨wr.heap.size, 0, none⟩) m m (List.replicate m 0) (mkZ_is wr m (by omega)).2.1 (by omega) (Nat.le_refl _) (by omega) (by omega)).mono ?_
      rintro x w9 ⟨rfl, hJ⟩
      obtain ⟨L, hLe⟩ : ∃ L, b.length + (Jr.wr b.length (List.replicate m 0)).length = L := ⟨_, rfl⟩
      have hbL : (b ++ Jr.wr b.length (List.replicate m 0)).length = L := by rw [List.length_append]; exact hLe
      rw [hLe] at hL
      have HJ := Lib.hid hJ
      have HP : Hid (PartRel L (.int .i64 (b.length : Int)) (.int .i64 (m : Int)) (.bool true)) := ⟨b.length, m, true, rfl, rfl, rfl, by omega, by omega, fun _ => hL.symm, fun h => by cases h⟩
      have HZ := Lib.hid (jn_size hJ)
      rw [hbL] at HZ
      have hL2 : L ≤ 16014 * (k + 1) := by omega
      clear hJ hmk hw8 hL hLe hc0 hw0 hm hx0 hlen
      go_wp2
      go_loop [5, 7, 8] (fun a m z => PartRel L a m z) (fun _ m z => 2 * (intOf m).toNat + isT z)
      case atStart => exact HP.out
      case round =>
        clear HP
        obtain ⟨x, y, z, rfl, rfl, rfl, hxL, hy, hgo, hend⟩ := hrel
        by_cases hon : z = true ∨ 0 < y
        · have hgo2 := hgo hon
          clear hend
          cases z
          · have hy0 : (0 : Int) < (y : Int) := by rcases hon with h | h; cases h; omega
            obtain ⟨q, hq, hq2, hq3⟩ : ∃ q : Nat, (x : Int) % 128 = (q : Int) ∧ q < 128 ∧ Jr.room x = 128 - q := ⟨x % 128, by omega, by omega, rfl⟩
            have hq4 : Int.tmod (x : Int) 128 = (q : Int) := by rw [Int.tmod_eq_emod_of_nonneg (by omega)]; exact hq
            by_cases h8 : 128 - q < 8
            · have j1 : (128 : Int) - (x : Int) % 128 < 8 := by omega
              have hnx : Jr.nextP x = x + (128 - q) := by unfold Jr.nextP; rw [if_pos (by omega), hq3]
              have hrn : Jr.room (Jr.nextP x) = 128 := by rw [hnx, ← hq3]; exact Jr.room_add x
              go_wp2_with fail
              exact part_round hgo2 hy hon (by rw [hrn, hnx]; omega) (by rw [hrn]; omega)
            · have j1 : ¬ (128 : Int) - (x : Int) % 128 < 8 := by omega
              have hnx : Jr.nextP x = x := by unfold Jr.nextP; rw [if_neg (by omega)]
              have hrn : Jr.room (Jr.nextP x) = 128 - q := by rw [hnx]; exact hq3
              go_wp2_with fail
              exact part_round hgo2 hy hon (by rw [hrn, hnx]; omega) (by rw [hrn]; omega)
          · skip
            obtain ⟨q, hq, hq2, hq3⟩ : ∃ q : Nat, (x : Int) % 128 = (q : Int) ∧ q < 128 ∧ Jr.room x = 128 - q := ⟨x % 128, by omega, by omega, rfl⟩
            have hq4 : Int.tmod (x : Int) 128 = (q : Int) := by rw [Int.tmod_eq_emod_of_nonneg (by omega)]; exact hq
            by_cases h8 : 128 - q < 8
            · have j1 : (128 : Int) - (x : Int) % 128 < 8 := by omega
              have hnx : Jr.nextP x = x + (128 - q) := by unfold Jr.nextP; rw [if_pos (by omega), hq3]
              have hrn : Jr.room (Jr.nextP x) = 128 := by rw [hnx, ← hq3]; exact Jr.room_add x
              go_wp2_with fail
              exact part_round hgo2 hy hon (by rw [hrn, hnx]; omega) (by rw [hrn]; omega)
            · have j1 : ¬ (128 : Int) - (x : Int) % 128 < 8 := by omega
              have hnx : Jr.nextP x = x := by unfold Jr.nextP; rw [if_neg (by omega)]
              have hrn : Jr.room (Jr.nextP x) = 128 - q := by rw [hnx]; exact hq3
              go_wp2_with fail
              exact part_round hgo2 hy hon (by rw [hrn, hnx]; omega) (by rw [hrn]; omega)
        · obtain rfl : z = false := by cases z <;> simp_all
          obtain rfl : y = 0 := by omega
          obtain rfl : x = L := hend rfl rfl
          clear hgo hend
          go_wp2_with fail
          refine HZ.out.mono ?_
          rintro x_1 w10 ⟨rfl, hb⟩
          have HJ := Lib.hid (HJ.out.below hb)
          clear hb HZ
          go_wp2
          go_roundw
          case rel => exact ⟨k + 1, _, _, _, hlt, by go_num, by rw [hbL], HJ.out, by rw [hbL]; exact hL2⟩
          case measure => simp [intOf]; omega
    · obtain rfl : k = n := by omega
      have HF := Lib.hid hbl
      clear hbl
      go_wp2
      go_ret
      exact ⟨rfl, HF.out⟩

theorem journalsSize_walk (A : Option Addr) (n c : Nat) (l : List Nat) (w : World) (y : Lies w w.heap.size 1 A n (l.map (fun x : Nat => Value.int .u16 (x : Int)))) (hu : ∀ x ∈ l, x < 65536) (hnc : n ≤ c) (hc : c ≤ 140737488351232) :
    Calls Try.prog 6 #[.slice A n c] w fun e w' => e = .returned (.bool true) ∧ Below w.heap.size w w' := by
  by_cases h : 60 < n
  · exact journalsSize_big A n c w h (by omega)
  · exact journalsSize_all A n c l w y hu (by omega)
end Go.Proofs.Ytbpdonnneleeeaa
