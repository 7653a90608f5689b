/-
  The document's own Put of layer 4; what walks of its laws share.
-/
import Derived.Test.YtbbimfbkllellaaGreatDoorOrdAB
import Derived.Test.YtbbimfbkllellaaGreatDoorRefP1
import Derived.Test.YtbbimfbkllellaaGreatDoorMemM
import Derived.Test.YtbbimfbkllellaaGreatDoorStep
import Derived.Deep.RegionWith
import Derived.Deep.RegionHeld3
namespace Go.Proofs.YtbbimfbkllellaaGreatDoor
open Go.RowKit
set_option linter.unusedVariables false
set_option maxRecDepth 100000

/-- an entry stands in a block, whatever comes -/
def EnIn (w : World) (g : Nat) (x : En) : Prop := EnAt w g x ∧ g < w.heap.size
theorem EnIn.new (w : World) (x : En) : EnIn (w.alloc (.cells #[.string x.m.k, .int .u64 (x.m.s : Int), .bool x.m.g, .string x.x] 59)) w.heap.size x := ⟨EnAt.new w x, by simp⟩
theorem EnIn.on {w w' : World} {g : Nat} {x : En} (h : EnIn w g x) (hb : Below w.heap.size w w') : EnIn w' g x := ⟨h.1.below hb h.2, Nat.lt_of_lt_of_le h.2 hb.size⟩
/-- a slice that was answered, with what it owns -/
def Own (w : World) (l : List UInt8) (A : Option Addr) (n c : Nat) (w' : World) : Prop := n = l.length ∧ w'.ownsRow w.heap.size 5 1 (.slice A n c) n (l.map bv) ∧ Below w.heap.size w w'
theorem PutAns.own {w : World} {l : List UInt8} {e : Ending} {w' : World} (h : PutAns w l e w') : ∃ A n c, e = .returned (.slice A n c) ∧ Own w l A n c w' := by
  obtain ⟨v, rfl, ho, hb⟩ := h
  obtain ⟨A, c, rfl, _⟩ := own_shape ho
  exact ⟨A, _, c, rfl, rfl, ho, hb⟩
theorem rputText_on (A : Option Addr) (n c : Nat) (s : ByteArray) (l : List UInt8) (w : World) (h : Lies w w.heap.size 1 A n (l.map bv)) (hs : n + s.size ≤ 549755813888) :
    Calls Tryz.prog 124 #[.slice A n c, .string s] w fun e w' => PutAns w (l ++ (Vi.enc s.size ++ s.data.toList)) e w' :=
  (ref_putText A n c s l w h hs).mono fun e w' ⟨v, he, ho, hb⟩ => ⟨v, he, by
    have hl := h.blen
    rw [show (l ++ (Vi.enc s.size ++ s.data.toList)).length = n + ((Vi.enc s.size).length + s.size) from by simp [hl]]
    exact ho, hb⟩
theorem rput_on (A : Option Addr) (n c k : Nat) (l : List UInt8) (w : World) (h : Lies w w.heap.size 1 A n (l.map bv)) (hk : k < 18446744073709551616) (hs : n ≤ 549755813888) :
    Calls Tryz.prog 83 #[.slice A n c, .int .u64 (k : Int)] w fun e w' => PutAns w (l ++ Vi.enc k) e w' :=
  (ref_put A n c k l w h hk hs).mono fun e w' ⟨v, he, ho, hb⟩ => ⟨v, he, by
    have hl := h.blen
    rw [show (l ++ Vi.enc k).length = n + (Vi.enc k).length from by simp [hl]]
    exact ho, hb⟩

set_option maxHeartbeats 2000000 in
theorem rput4_any (A : Option Addr) (n c : Nat) (l : List UInt8) (k y : ByteArray) (s : Nat) (g : Bool) (w : World) (h1 : Lies w w.heap.size 1 A n (l.map bv)) (hs : s < 18446744073709551616) (hsz : n + k.size + y.size ≤ 137438953472) :
    Calls Tryz.prog 82 #[.slice A n c, .agg #[.string k, .int .u64 (s : Int), .bool g, .string y]] w fun e w' => PutAns w (l ++ encE ⟨⟨k, s, g⟩, y⟩) e w' := by
  obtain ⟨i0, hi, hz0, hz1, hz2⟩ := info_parts byte_info
  have hln := h1.blen
  have hlk := Vi.enc_len k.size
  have hls := Vi.enc_len s
  have HE := Lib.hid (EnIn.new w ⟨⟨k, s, g⟩, y⟩)
  have HB : Hid (Kept w (w.alloc (.cells #[.string k, .int .u64 (s : Int), .bool g, .string y] 59))) := (Kept.self w).new _
  have HL : Hid (Lies (w.alloc (.cells #[.string k, .int .u64 (s : Int), .bool g, .string y] 59)) (w.alloc (.cells #[.string k, .int .u64 (s : Int), .bool g, .string y] 59)).heap.size 1 A n (l.map bv)) := HB.out.lies h1
  have HLN : Hid ((l ++ (Vi.enc k.size ++ k.data.toList)).length = n + ((Vi.enc k.size).length + k.size)) := by unfold Hid; rw [List.length_append, List.length_append, txt_len, hln]
  have HLN2 : Hid ((l ++ (Vi.enc k.size ++ k.data.toList) ++ Vi.enc s).length = n + ((Vi.enc k.size).length + k.size) + (Vi.enc s).length) := by unfold Hid; rw [List.length_append, HLN.out]
  clear h1 hln
  have P1 : Hid (∀ W, Lies W W.heap.size 1 A n (l.map bv) → Calls Tryz.prog 124 #[.slice A n c, .string k] W fun e w' => ∃ A3 n3 c3, e = .returned (.slice A3 n3 c3) ∧ Own W (l ++ (Vi.enc k.size ++ k.data.toList)) A3 n3 c3 w') := fun W h => (rputText_on A n c k l W h (by omega)).mono fun _ _ q => q.own
  go_enter Tryz.func82, Tryz.ntmps82
  go_wp2_with fail
  generalize (w.alloc (.cells #[.string k, .int .u64 (s : Int), .bool g, .string y] 59)) = W at *
  have HKS : Hid (∀ W', Kept W.drew W' → W'.cell? ⟨w.heap.size, 0, none⟩ = some (.string k) ∧ W'.cell? ⟨w.heap.size, 1, none⟩ = some (.int .u64 (s : Int))) := fun W' h => have q := (EnIn.on (w := W.drew) HE.out h).1.cell; ⟨q.1, q.2.1⟩
  have hk : Kept W.drew W.drew := Kept.self _
  go_region_held3 (fun w' => w'.cell? ⟨w.heap.size, 0, none⟩ = some (.string k) ∧ w'.cell? ⟨w.heap.size, 1, none⟩ = some (.int .u64 (s : Int)))
    (first | exact HKS.out _ hk | fail)
    (first
    | (go_at_call 124; refine (P1.out _ HL.out.drew).mono ?_; rintro e w3 ⟨A3, n3, c3, rfl, hf3⟩; have hk2 := hk.on hf3.2.2; clear hk; have hk := hk2; clear hk2)
    | (go_at_call 83; refine ((rput_on A3 n3 c3 s _ _ (Lies.of_own hf3.2.1) hs (by have h1 := HLN.out; have h2 := hf3.1; omega)).mono fun _ _ q => q.own).mono ?_; rintro e w5 ⟨A5, n5, c5, rfl, hf5⟩; have hk2 := hk.on hf5.2.2; clear hk; have hk := hk2; clear hk2)
    | fail)
  have HE5 : Hid (EnIn w5 w.heap.size ⟨⟨k, s, g⟩, y⟩) := EnIn.on (w := W.drew) HE.out hk
  have HB5 : Hid (Kept w w5) := (HB.out.drew).on hk
  have hz3 : w.heap.size + 1 ≤ w3.heap.size := Nat.le_trans HE.out.2 hf3.2.2.size
  have HO5 : Hid (w5.ownsRow (w.heap.size + 1) 5 1 (.slice A5 n5 c5) n5 ((l ++ (Vi.enc k.size ++ k.data.toList) ++ Vi.enc s).map bv)) := own_base hf5.2.1 hz3
  have hz5 : w.heap.size + 1 ≤ w5.heap.size := HE5.out.2
  have HN5 : Hid (n5 = n + ((Vi.enc k.size).length + k.size) + (Vi.enc s).length) := by unfold Hid; rw [hf5.1, HLN2.out]
  have hn5b : n5 + y.size ≤ 137438953972 := by have := HN5.out; omega
  clear hk HKS hf3 hf5 HE HB HL P1
  have q5 := HE5.out.1.cell
  cases g
  · have HT : Hid (l ++ encE ⟨⟨k, s, false⟩, y⟩ = (l ++ (Vi.enc k.size ++ k.data.toList) ++ Vi.enc s ++ [0]) ++ (Vi.enc y.size ++ y.data.toList)) := by unfold Hid encE tailE; simp
    go_wp2_with fail
    have HKS2 : Hid (∀ W', Below (w.heap.size + 1) w5 W' → W'.cell? ⟨w.heap.size, 3, none⟩ = some (.string y)) := fun W' h => (HE5.out.1.below h (by omega)).cell.2.2.2
    have hl0 : Below (w.heap.size + 1) w5 w5.drew := (Below.refl _ w5).drew
    have hl1 : ∀ o, Below (w.heap.size + 1) w5 (w5.drew.alloc o) := fun o => hl0.alloc hz5 o
    have O5d : w5.drew.ownsRow (w.heap.size + 1) 5 1 (.slice A5 n5 c5) n5 ((l ++ (Vi.enc k.size ++ k.data.toList) ++ Vi.enc s).map bv) := HO5.out
    have HO5d := Lib.hid O5d
    clear q5 O5d
    go_region_held3 (fun w' => w'.cell? ⟨w.heap.size, 3, none⟩ = some (.string y))
      (first | exact HKS2.out _ hl0 | exact HKS2.out _ (hl1 _) | exact HKS2.out _ hl6 | exact HKS2.out _ hl7 | fail)
      (first
      | (refine step_app _ (by rfl) (.tmp 21) (.tmp 22) 22 (by rfl) (w.heap.size + 1) 5 i0 _ 1 1 Tryz.underlying22 hi hz0 hz1 hz2 rfl (by decide) (.slice A5 n5 c5) n5 ((l ++ (Vi.enc k.size ++ k.data.toList) ++ Vi.enc s).map bv) (by rfl) (HO5d.out.alloc _) (w5.heap.size + 1) (some ⟨w5.heap.size, 0, none⟩) 1 1 [.int .u8 0] (by rfl) ((one_lies (w := w5) (g := w5.heap.size) rfl (.int .u8 0) 5).drew) (by intro u hu; simp at hu; subst hu; rfl) (by unfold maxLen; omega) (by omega) (Nat.le_trans hz5 (by simp)) ?_; intro v6 w6 hown6 hg6 _; have hl6 : Below (w.heap.size + 1) w5 w6 := (hl1 _).grown hg6 (Nat.le_trans hz5 (by simp)) (fun j hj => (HO5.out.lt j hj).1); obtain ⟨A6, c6, rfl, hnc6, hcm6, _⟩ := own_shape hown6)
      | (go_at_call 124; refine ((rputText_on A6 (n5 + 1) c6 y ((l ++ (Vi.enc k.size ++ k.data.toList) ++ Vi.enc s) ++ [0]) _ (by rw [List.map_append]; exact Lies.of_own hown6) (by omega)).mono fun _ _ q => q.own).mono ?_; rintro e w9 ⟨A9, n9, c9, rfl, hf9⟩; have hl7 : Below (w.heap.size + 1) w5 w9 := hl6.trans (hf9.2.2.mono (Nat.le_trans hz5 hl6.size)))
      | fail)
    have hz6 : w.heap.size ≤ w6.heap.size := Nat.le_trans (by omega) hl6.size
    have R : Hid (PutAns w (l ++ encE ⟨⟨k, s, false⟩, y⟩) (.returned (.slice A9 n9 c9)) w9) := by
      unfold Hid
      rw [HT.out]
      have h := own_base hf9.2.1 hz6
      rw [hf9.1] at h ⊢
      exact ⟨_, rfl, h, Below.trans HB5.out (Below.mono hl7 (by omega))⟩
    clear hl0 hl1 hl6 hl7 hown6 hf9 HKS2 HO5d hg6
    go_wp2
    go_ret
    exact R.out
  · have HT : Hid (l ++ encE ⟨⟨k, s, true⟩, y⟩ = l ++ (Vi.enc k.size ++ k.data.toList) ++ Vi.enc s ++ [1]) := by unfold Hid encE tailE; simp
    go_wp2_with (at_builtin; refine wpList_app _ rfl _ _ 22 rfl (w.heap.size + 1) 5 i0 _ 1 1 Tryz.underlying22 hi hz0 hz1 hz2 rfl (by decide) (.slice A5 n5 c5) n5 ((l ++ (Vi.enc k.size ++ k.data.toList) ++ Vi.enc s).map bv) rfl ((HO5.out).alloc _) (w5.heap.size + 1) (some ⟨w5.heap.size, 0, none⟩) 1 1 [.int .u8 1] rfl (one_lies rfl _ _) (by intro u hu; simp at hu; subst hu; rfl) (by unfold maxLen; omega) (by omega) (by simp; omega) ?_)
    intro v6 w6 hown6 hg6 _
    have hl6 : Below (w.heap.size + 1) w5 w6 := ((Below.refl _ w5).alloc hz5 _).grown hg6 (by simp; omega) (fun j hj => (HO5.out.lt j hj).1)
    obtain ⟨A6, c6, rfl, hnc6, hcm6, _⟩ := own_shape hown6
    have R : Hid (PutAns w (l ++ encE ⟨⟨k, s, true⟩, y⟩) (.returned (.slice A6 (n5 + 1) c6)) w6) := by
      unfold Hid
      rw [HT.out]
      have h := own_base hown6 (Nat.le_succ w.heap.size)
      refine ⟨_, rfl, ?_, Below.trans HB5.out (Below.mono hl6 (by omega))⟩
      have hlen : (l ++ (Vi.enc k.size ++ k.data.toList) ++ Vi.enc s ++ [(1 : UInt8)]).length = n5 + 1 := by rw [List.length_append, HLN2.out, ← HN5.out]; rfl
      rw [hlen]
      simp only [List.map_append, List.append_assoc] at h ⊢
      exact h
    clear hown6 hg6 hl6 q5
    go_wp2
    go_ret
    exact R.out
end Go.Proofs.YtbbimfbkllellaaGreatDoor
