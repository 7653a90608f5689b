/-
  Contracts of package frames: Get.
-/
import Derived.Test.YtomfkfdnpmpbgaaFramesB
namespace Go.Proofs.Ytomfkfdnpmpbgaa
open Go.RowKit
set_option linter.unusedVariables false

/-- the length that a frame tells -/
def flen (l : List UInt8) : Nat := (getFour l).1
/-- what Get answers: the record, how many bytes it took, the error -/
def gotF (l : List UInt8) : List UInt8 × Nat × Nat :=
  if l.length < 8 then ([], 0, 5)
  else if 65536 < flen l then ([], 0, 4)
  else if l.length < 8 + flen l then ([], 0, 5)
  else if flen (l.drop 4) ≠ csum (l.take 4) ((l.drop 8).take (flen l)) then ([], 0, 4)
  else ((l.drop 8).take (flen l), 8 + flen l, 0)
theorem flen_lt (l : List UInt8) : flen l < 4294967296 := by
  unfold flen getFour
  split
  · rename_i a b c d _
    have := a.toNat_lt; have := b.toNat_lt; have := c.toNat_lt; have := d.toNat_lt
    show a.toNat * 16777216 + b.toNat * 65536 + c.toNat * 256 + d.toNat < 4294967296
    omega
  · decide
theorem getFour_yes2 (l : List UInt8) (h : 4 ≤ l.length) : getFour l = (flen l, 0) := by
  match l, h with
  | a :: b :: c :: d :: l, _ => rfl

/-- what was answered: the record in new memory, how many bytes it took, the error -/
def GotF (w : World) (r : List UInt8) (t e : Nat) (en : Ending) (w' : World) : Prop :=
  ∃ v, en = .returned (.tuple #[v, .int .i64 (t : Int), .int .i64 (e : Int)]) ∧ w'.ownsRow w.heap.size 5 1 v r.length (r.map bv) ∧ Below w.heap.size w w'
theorem own_none (w : World) (base : Nat) : w.ownsRow base 5 1 (.slice none 0 0) 0 (([] : List UInt8).map bv) := ⟨rfl, .inl ⟨rfl, rfl⟩⟩

theorem framesGet_a (A : Option Addr) (n c : Nat) (w : World) (hn : n < 8) :
    Calls Try.prog 12 #[.slice A n c] w fun e w' => GotF w [] 0 5 e w' := by
  go_enter Try.func12, Try.ntmps12
  go_wp2
  go_ret3
  exact ⟨_, rfl, own_none _ _, Below.refl _ _⟩

set_option maxHeartbeats 1000000 in
theorem framesGet_b (A : Option Addr) (n c : Nat) (l : List UInt8) (w : World) (h : Lies w w.heap.size 1 A n (l.map bv)) (hnc : n ≤ c) (hn : n ≤ 4611686018427387904) (h8 : 8 ≤ n) (hk : 65536 < flen l) :
    Calls Try.prog 12 #[.slice A n c] w fun e w' => GotF w [] 0 4 e w' := by
  have H := getFour_any A n c l w h hnc hn
  rw [getFour_yes2 l (by have := h.blen; omega)] at H
  have HF := Lib.hid H; clear H h
  have hkl := flen_lt l
  generalize flen l = k at *
  go_enter Try.func12, Try.ntmps12
  go_wp2_with fail
  refine HF.out.mono ?_
  rintro e w1 ⟨rfl, hb1⟩
  go_wp2
  go_ret3
  exact ⟨_, rfl, own_none _ _, hb1⟩

set_option maxHeartbeats 1000000 in
theorem framesGet_c (A : Option Addr) (n c : Nat) (l : List UInt8) (w : World) (h : Lies w w.heap.size 1 A n (l.map bv)) (hnc : n ≤ c) (hn : n ≤ 4611686018427387904) (h8 : 8 ≤ n) (hk : flen l ≤ 65536) (hs : n < 8 + flen l) :
    Calls Try.prog 12 #[.slice A n c] w fun e w' => GotF w [] 0 5 e w' := by
  have H := getFour_any A n c l w h hnc hn
  rw [getFour_yes2 l (by have := h.blen; omega)] at H
  have HF := Lib.hid H; clear H h
  have hkl := flen_lt l
  generalize flen l = k at *
  go_enter Try.func12, Try.ntmps12
  go_wp2_with fail
  refine HF.out.mono ?_
  rintro e w1 ⟨rfl, hb1⟩
  go_wp2
  go_ret3
  exact ⟨_, rfl, own_none _ _, hb1⟩

set_option maxHeartbeats 2000000 in
theorem framesGet_d (A : Option Addr) (n c : Nat) (l : List UInt8) (w : World) (h : Lies w w.heap.size 1 A n (l.map bv)) (hnc : n ≤ c) (hn : n ≤ 4611686018427387904) (h8 : 8 ≤ n) (hk : flen l ≤ 65536) (hs : 8 + flen l ≤ n) :
    Calls Try.prog 12 #[.slice A n c] w fun e w' => if flen (l.drop 4) ≠ csum (l.take 4) ((l.drop 8).take (flen l)) then GotF w [] 0 4 e w' else GotF w ((l.drop 8).take (flen l)) (8 + flen l) 0 e w' := by
  have hln := h.blen
  have H := getFour_any A n c l w h hnc hn
  rw [getFour_yes2 l (by omega)] at H
  have HF := Lib.hid H; clear H
  obtain ⟨k, hkk⟩ : ∃ k, flen l = k := ⟨_, rfl⟩
  rw [hkk] at hk hs HF ⊢
  have HK := Lib.hid hkk; clear hkk
  have L1 : Lies w w.heap.size 1 A (8 + k) ((l.take (8 + k)).map bv) := lies_take h hs
  have e1 : (l.take (8 + k)).take 4 = l.take 4 := by rw [List.take_take]; congr 1; omega
  have e2 : (l.take (8 + k)).drop 8 = (l.drop 8).take k := by rw [List.drop_take]; congr 1; omega
  have e3 : flen ((l.take (8 + k)).drop 4) = flen (l.drop 4) := by
    match l, hln with
    | _ :: _ :: _ :: _ :: x0 :: x1 :: x2 :: x3 :: l', _ => rw [Nat.add_comm 8 k]; rfl
    | [], h | [_], h | [_, _], h | [_, _, _], h | [_, _, _, _], h | [_, _, _, _, _], h | [_, _, _, _, _, _], h | [_, _, _, _, _, _, _], h => simp at h; omega
  have hlt : (l.take (8 + k)).length = 8 + k := by simp; omega
  obtain ⟨f, hf⟩ : ∃ f, l.take (8 + k) = f := ⟨_, rfl⟩
  rw [hf] at L1 e1 e2 e3 hlt
  rw [← e1, ← e2, ← e3]
  have HL := Lib.hid L1
  have HLT := Lib.hid hlt
  clear h L1 e1 e2 e3 hln hf hlt
  obtain ⟨s, hs2⟩ : ∃ s, flen (f.drop 4) = s := ⟨_, rfl⟩
  obtain ⟨t, ht⟩ : ∃ t, csum (f.take 4) (f.drop 8) = t := ⟨_, rfl⟩
  have hsl : s < 4294967296 := by rw [← hs2]; exact flen_lt _
  have htl : t < 4294967296 := by rw [← ht]; exact csum_lt _ _
  rw [hs2, ht]
  have HS := Lib.hid hs2; have HT := Lib.hid ht
  have hcut0 : ∀ W, (Instr.slice 22 (.slice A n c) none (some (.int .i64 (8 + (k : Int)))) (some (.int .i64 (8 + (k : Int))))).run Try.prog W = .ok (.slice A (8 + k) (8 + k)) W := fun W => by
    have := run_head3 W A n c (8 + k) (8 + k) (Nat.le_refl _) (by omega)
    rw [show ((8 + k : Nat) : Int) = 8 + (k : Int) from by omega] at this; exact this
  have hcut1 : ∀ W, (Instr.slice 22 (.slice A (8 + k) (8 + k)) (some (.int .i64 4)) none none).run Try.prog W = .ok (.slice (cutA A (8 + k) 4) (4 + k) (4 + k)) W := fun W => by
    have := run_cut W A (8 + k) (8 + k) 4 (by omega)
    rw [show 8 + k - 4 = 4 + k from by omega] at this; exact this
  have hcut2 : ∀ W, (Instr.slice 22 (.slice A (8 + k) (8 + k)) (some (.int .i64 8)) none none).run Try.prog W = .ok (.slice (cutA A (8 + k) 8) k k) W := fun W => by
    have := run_cut W A (8 + k) (8 + k) 8 (by omega)
    rw [show 8 + k - 8 = k from by omega] at this; exact this
  clear hs2 ht
  go_enter Try.func12, Try.ntmps12
  go_wp2_with fail
  refine HF.out.mono ?_
  rintro e w1 ⟨rfl, hb1⟩
  have HB1 := Lib.hid hb1
  clear hb1 HF
  have G2 := getFour_any (cutA A (8 + k) 4) (4 + k) (4 + k) (f.drop 4) w1 (by
    have := ((HL.out.below HB1.out).more HB1.out.size).cutA (m := 4) (c := 8 + k) (by omega) (Nat.le_refl _)
    rw [show 8 + k - 4 = 4 + k from by omega] at this; exact this) (Nat.le_refl _) (by omega)
  rw [getFour_yes2 _ (by simp; have := HLT.out; omega), HS.out] at G2
  have HG2 := Lib.hid G2; clear G2
  go_wp2_with fail
  refine HG2.out.mono ?_
  rintro e w2 ⟨rfl, hb2⟩
  have HB2 := Lib.hid (HB1.out.trans (hb2.mono HB1.out.size)); clear hb2 HG2 HB1
  have CS := checksum_any A (8 + k) (8 + k) f w2 ((HL.out.below HB2.out).more HB2.out.size) (by omega) (Nat.le_refl _) (by omega)
  rw [HT.out] at CS
  have HCS := Lib.hid CS; clear CS
  go_wp2_with fail
  refine HCS.out.mono ?_
  rintro e w3 ⟨rfl, hb3⟩
  have HB3 := Lib.hid (HB2.out.trans (hb3.mono HB2.out.size)); clear hb3 HCS HB2
  by_cases hst : s = t
  · have hne : ((s : Int) != (t : Int)) = false := by simp [hst]
    have LR : Lies w3 w3.heap.size 1 (cutA A (8 + k) 8) k ((f.drop 8).map bv) := by
      have := ((HL.out.below HB3.out).more HB3.out.size).cutA (m := 8) (c := 8 + k) (by omega) (Nat.le_refl _)
      rw [show 8 + k - 8 = k from by omega] at this; exact this
    have HLR := Lib.hid LR; clear LR
    have hlr : (f.drop 8).length = k := by simp; have := HLT.out; omega
    obtain ⟨r, hr⟩ : ∃ r, f.drop 8 = r := ⟨_, rfl⟩
    rw [hr] at HLR hlr
    have HR := Lib.hid hr
    clear hr HS HT HLT
    go_wp2_with (at_make; refine wpList_makeB _ rfl _ _ rfl _ _ _ _ k rfl rfl (by omega) (by omega) (by omega) ?_)
    intro w4 hown4 hg4
    have hb4 : Below w3.heap.size w3 w4 := (Below.refl _ _).grown hg4 (Nat.le_refl _) (by simp)
    have HB4 := Lib.hid (HB3.out.trans (hb4.mono HB3.out.size))
    have L4 := Lib.hid ((HLR.out.below hb4).more hb4.size)
    clear hg4 hb4 HLR
    go_wp2_with (refine wpList_copyIn rfl (.tmp 44) (.tmp 46) rfl w3.heap.size w3.heap.size k k 0 k k _ rfl hown4 w4.heap.size (cutA A (8 + k) 8) k k (r.map bv) rfl L4.out (bv_one _) (by omega) (by omega) ?_)
    intro w5 O5 hg5
    have hb5 : Below w.heap.size w w5 := HB4.out.grown hg5 HB4.out.size (fun j hj => by injection hj with hj; have := HB3.out.size; omega)
    have O5' : w5.ownsRow w.heap.size 5 1 (.slice (some ⟨w3.heap.size, 0, none⟩) k k) k (r.map bv) := by
      have e : over ((List.replicate k (0 : UInt8)).map bv) 0 (r.map bv) = r.map bv := by
        unfold over
        rw [List.take_zero, List.nil_append, List.drop_eq_nil_of_le (by simp; omega), List.append_nil]
      rw [List.map_replicate] at e
      rw [e] at O5
      exact own_base O5 HB3.out.size
    have HO := Lib.hid O5'; have HB5 := Lib.hid hb5
    clear O5 O5' hb5 hg5 hown4 L4 HB4
    go_wp2
    go_ret3
    try rw [if_neg (by simpa using hst)]
    rw [HR.out]
    refine ⟨.slice (some ⟨w3.heap.size, 0, none⟩) k k, ?_, ?_, HB5.out⟩
    · rw [show ((8 + k : Nat) : Int) = 8 + (k : Int) from by omega]; rfl
    · rw [hlr]; exact HO.out
  · have hne : ((s : Int) != (t : Int)) = true := by simp; omega
    go_wp2
    go_ret3
    try rw [if_pos hst]
    exact ⟨_, rfl, own_none _ _, HB3.out⟩

theorem framesGet_any (A : Option Addr) (n c : Nat) (l : List UInt8) (w : World) (h : Lies w w.heap.size 1 A n (l.map bv)) (hnc : n ≤ c) (hn : n ≤ 4611686018427387904) :
    Calls Try.prog 12 #[.slice A n c] w fun e w' => GotF w (gotF l).1 (gotF l).2.1 (gotF l).2.2 e w' := by
  have hl := h.blen
  unfold gotF
  rw [hl]
  by_cases h8 : n < 8
  · rw [if_pos h8]; exact framesGet_a A n c w h8
  rw [if_neg h8]
  by_cases hk : 65536 < flen l
  · rw [if_pos hk]; exact framesGet_b A n c l w h hnc hn (by omega) hk
  rw [if_neg hk]
  by_cases hs : n < 8 + flen l
  · rw [if_pos hs]; exact framesGet_c A n c l w h hnc hn (by omega) (by omega) hs
  rw [if_neg hs]
  refine (framesGet_d A n c l w h hnc hn (by omega) (by omega) (by omega)).mono fun e w' h => ?_
  by_cases he : flen (l.drop 4) ≠ csum (l.take 4) ((l.drop 8).take (flen l))
  · rw [if_pos he] at h ⊢; exact h
  · rw [if_neg he] at h ⊢; exact h
end Go.Proofs.Ytomfkfdnpmpbgaa
