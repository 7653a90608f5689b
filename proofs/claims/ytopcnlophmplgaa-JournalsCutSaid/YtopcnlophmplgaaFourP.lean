/-
  Contracts of package ints: PutFour.
-/
import Derived.Test.YtopcnlophmplgaaCollect
namespace Go.Proofs.Ytopcnlophmplgaa
open Go.RowKit
set_option linter.unusedVariables false

/-- the four bytes of a number, the highest one first -/
def four (k : Nat) : List UInt8 := [UInt8.ofNat (k / 16777216), UInt8.ofNat (k / 65536 % 256), UInt8.ofNat (k / 256 % 256), UInt8.ofNat (k % 256)]

theorem part_any (g k s : Nat) (w : World) (hk : k < 4294967296) (h : Box w g 116 (.int .u32 (k : Int))) (hs : s ≤ 31) :
    Calls Try.prog 90 #[.int .i64 (s : Int), .pointer (some ⟨g, 0, none⟩)] w fun e w' => e = .returned (.int .u8 ((k / 2 ^ s % 256 : Nat) : Int)) ∧ w = w' := by
  have hc := h.cell
  go_enter Try.func90, Try.ntmps90
  go_wp2
  go_ret
  exact ⟨congrArg (fun x => Ending.returned (Value.int .u8 x)) (by simp), rfl⟩
theorem part24 (g k : Nat) (w : World) (hk : k < 4294967296) (h : Box w g 116 (.int .u32 (k : Int))) :
    Calls Try.prog 90 #[.int .i64 24, .pointer (some ⟨g, 0, none⟩)] w fun e w' => e = .returned (bv (UInt8.ofNat (k / 16777216))) ∧ w = w' :=
  (part_any g k 24 w hk h (by decide)).mono fun e w' ⟨he, hw⟩ => ⟨by rw [he, bv_ofNat _ (by omega), show k / 2 ^ 24 % 256 = k / 16777216 from by omega], hw⟩
theorem part16 (g k : Nat) (w : World) (hk : k < 4294967296) (h : Box w g 116 (.int .u32 (k : Int))) :
    Calls Try.prog 90 #[.int .i64 16, .pointer (some ⟨g, 0, none⟩)] w fun e w' => e = .returned (bv (UInt8.ofNat (k / 65536 % 256))) ∧ w = w' :=
  (part_any g k 16 w hk h (by decide)).mono fun e w' ⟨he, hw⟩ => ⟨by rw [he, bv_ofNat _ (by omega)], hw⟩
theorem part8 (g k : Nat) (w : World) (hk : k < 4294967296) (h : Box w g 116 (.int .u32 (k : Int))) :
    Calls Try.prog 90 #[.int .i64 8, .pointer (some ⟨g, 0, none⟩)] w fun e w' => e = .returned (bv (UInt8.ofNat (k / 256 % 256))) ∧ w = w' :=
  (part_any g k 8 w hk h (by decide)).mono fun e w' ⟨he, hw⟩ => ⟨by rw [he, bv_ofNat _ (by omega)], hw⟩
theorem part0 (g k : Nat) (w : World) (hk : k < 4294967296) (h : Box w g 116 (.int .u32 (k : Int))) :
    Calls Try.prog 90 #[.int .i64 0, .pointer (some ⟨g, 0, none⟩)] w fun e w' => e = .returned (bv (UInt8.ofNat (k % 256))) ∧ w = w' :=
  (part_any g k 0 w hk h (by decide)).mono fun e w' ⟨he, hw⟩ => ⟨by rw [he, bv_ofNat _ (by omega)]; simp, hw⟩

set_option maxHeartbeats 1000000 in
theorem putFour_any (A : Option Addr) (n c k : Nat) (l : List UInt8) (w : World) (h1 : Lies w w.heap.size 1 A n (l.map bv)) (hk : k < 4294967296) (hs : n ≤ 549755813888) :
    Calls Try.prog 86 #[.slice A n c, .int .u32 (k : Int)] w fun e w' => ∃ v, e = .returned v ∧ w'.ownsRow w.heap.size 5 1 v (n + 4) ((l ++ four k).map bv) ∧ Below w.heap.size w w' := by
  have hmf : ∀ (fn : Fn) (first cap : Array Value) (w : World), (Instr.makeFunc fn first cap).run Try.prog w = .ok (.func fn first cap) w := fun _ _ _ _ => rfl
  have hbox := Box.new w 116 (.int .u32 (k : Int))
  have p24 := Lib.hid (part24 _ k _ hk hbox)
  have p16 := Lib.hid (part16 _ k _ hk hbox)
  have p8 := Lib.hid (part8 _ k _ hk hbox)
  have p0 := Lib.hid (part0 _ k _ hk hbox)
  clear hbox
  go_enter Try.func86, Try.ntmps86
  go_wp2_with fail
  refine p24.out.mono ?_
  rintro e w1 ⟨rfl, rfl⟩
  go_wp2_with fail
  refine p16.out.mono ?_
  rintro e w1 ⟨rfl, rfl⟩
  go_wp2_with fail
  refine p8.out.mono ?_
  rintro e w1 ⟨rfl, rfl⟩
  go_wp2_with fail
  refine p0.out.mono ?_
  rintro e w1 ⟨rfl, rfl⟩
  clear p24 p16 p8 p0
  have hB : Below w.heap.size w ((w.alloc (.cells #[.int .u32 (k : Int)] 116)).alloc (.cells ((four k).map bv).toArray 5)) := ((Below.refl _ _).alloc (Nat.le_refl _) _).alloc (by simp) _
  have hL := lits_lie (w := w.alloc (.cells #[.int .u32 (k : Int)] 116)) (g := w.heap.size + 1) (by simp) ((four k).map bv) 5
  have HC := Lib.hid (collect_any A (some ⟨w.heap.size + 1, 0, none⟩) n 4 c 4 l (four k) _ ((h1.below hB).more hB.size) (hL.more (by simp)) (by omega))
  clear hL
  simp only [four, List.map_cons, List.map_nil] at HC
  go_wp2_with fail
  refine HC.out.mono ?_
  rintro e w2 ⟨v2, rfl, hown2, hb2⟩
  go_wp2
  go_ret
  exact ⟨_, rfl, own_base hown2 hB.size, hB.trans (hb2.mono hB.size)⟩
theorem putFour_nil (k : Nat) (w : World) (hk : k < 4294967296) :
    Calls Try.prog 86 #[.slice none 0 0, .int .u32 (k : Int)] w fun e w' => Got w 4 (four k) e w' :=
  (putFour_any none 0 0 k [] w (Lies.none_ _ _ _ _) hk (by decide)).mono fun e w' ⟨v, he, ho, hb⟩ => by
    subst he
    exact got_of (by simpa using ho) hb
theorem putFour_some (A : Option Addr) (n c k : Nat) (l : List UInt8) (w : World) (h1 : Lies w w.heap.size 1 A n (l.map bv)) (hk : k < 4294967296) (hs : n ≤ 549755813888) :
    Calls Try.prog 86 #[.slice A n c, .int .u32 (k : Int)] w fun e w' => GotS w (n + 4) (l ++ four k) e w' :=
  (putFour_any A n c k l w h1 hk hs).mono fun e w' ⟨v, he, ho, hb⟩ => by
    subst he
    exact gotS_of (by omega) ho hb

end Go.Proofs.Ytopcnlophmplgaa
