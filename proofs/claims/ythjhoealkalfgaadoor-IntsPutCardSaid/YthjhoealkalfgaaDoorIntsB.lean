/-
  Contracts of package ints: collect, Put, PutFour, PutText.
-/
import Derived.Test.YthjhoealkalfgaaDoorIntsA
import Derived.Lib.AppendStr
namespace Go.Proofs.YthjhoealkalfgaaDoor
open Go.RowKit
set_option linter.unusedVariables false

set_option maxHeartbeats 1000000 in
theorem collect_any (A A2 : Option Addr) (n m c c2 : Nat) (l l2 : List UInt8) (w : World) (h1 : Lies w w.heap.size 1 A n (l.map bv)) (h2 : Lies w w.heap.size 1 A2 m (l2.map bv)) (hs : n + m ≤ 1099511627776) :
    Calls Tryd.prog 16 #[.slice A n c, .slice A2 m c2] w fun e w' => ∃ v, e = .returned v ∧ w'.ownsRow w.heap.size 5 1 v (n + m) ((l ++ l2).map bv) ∧ Below w.heap.size w w' := by
  obtain ⟨i0, hi, hz0, hz1, hz2⟩ := info_parts byte_info
  go_enter Tryd.func16, Tryd.ntmps16
  go_wp2_with (first
    | (at_make; refine wpList_make_own _ rfl _ _ 22 rfl w.heap.size 5 i0 _ 1 Tryd.underlying22 hi hz0 hz1 _ _ _ (n + m) rfl rfl (by omega) (by rw [hz2]; omega) (by unfold maxLen; omega) (Nat.le_refl _) ?_; intro w1 hown1 hgrow1; have hb1 : Below w.heap.size w w1 := (Below.refl _ _).grown hgrow1 (Nat.le_refl _) (by simp))
    | (at_builtin; refine wpList_app _ rfl (.tmp 12) (.tmp 13) 22 rfl w.heap.size 5 i0 _ 1 1 Tryd.underlying22 hi hz0 hz1 hz2 rfl (by decide) _ 0 [] rfl hown1 w.heap.size A n c (l.map bv) rfl (h1.below hb1) (bv_one l) (by unfold maxLen; omega) (by omega) hb1.size ?_; intro v2 w2 hown2 hg2 _; have hb2 : Below w.heap.size w w2 := hb1.grown hg2 hb1.size (fun k hk => (hown1.lt k hk).1))
    | (at_builtin; refine wpList_app _ rfl (.tmp 15) (.tmp 16) 22 rfl w.heap.size 5 i0 _ 1 1 Tryd.underlying22 hi hz0 hz1 hz2 rfl (by decide) v2 (0 + n) ([] ++ l.map bv) rfl hown2 w.heap.size A2 m c2 (l2.map bv) rfl (h2.below hb2) (bv_one l2) (by unfold maxLen; omega) (by omega) hb2.size ?_; intro v3 w3 hown3 hg3 _; have hb3 : Below w.heap.size w w3 := hb2.grown hg3 hb2.size (fun k hk => (hown2.lt k hk).1)))
  go_ret
  exact ⟨_, rfl, by simpa using hown3, hb3⟩

set_option maxHeartbeats 1000000 in
theorem put_any (A : Option Addr) (n c k : Nat) (l : List UInt8) (w : World) (h1 : Lies w w.heap.size 1 A n (l.map bv)) (hk : k < 18446744073709551616) (hs : n ≤ 549755813888) :
    Calls Tryd.prog 6 #[.slice A n c, .int .u64 (k : Int)] w fun e w' => ∃ v, e = .returned v ∧ w'.ownsRow w.heap.size 5 1 v (n + (Vi.enc k).length) ((l ++ Vi.enc k).map bv) ∧ Below w.heap.size w w' := by
  have hen := Vi.enc_len k
  go_enter Tryd.func6, Tryd.ntmps6
  go_wp2_with fail
  refine (varint_any k w hk).mono ?_
  rintro e w1 ⟨v, rfl, hown, hb⟩
  obtain ⟨A2, c2, rfl, _⟩ := own_shape hown
  go_wp2_with fail
  refine (collect_any A A2 n _ c c2 l (Vi.enc k) w1 ((h1.below hb).more hb.size) (Lies.of_own hown) (by omega)).mono ?_
  rintro e w2 ⟨v2, rfl, hown2, hb2⟩
  go_wp2
  go_ret
  exact ⟨_, rfl, own_base hown2 hb.size, hb.trans (hb2.mono hb.size)⟩

/-- the four bytes of a number, the highest one first -/
def four (k : Nat) : List UInt8 := [UInt8.ofNat (k / 16777216), UInt8.ofNat (k / 65536 % 256), UInt8.ofNat (k / 256 % 256), UInt8.ofNat (k % 256)]

theorem part_any (g k s : Nat) (w : World) (hk : k < 4294967296) (h : Box w g 28 (.int .u32 (k : Int))) (hs : s ≤ 31) :
    Calls Tryd.prog 18 #[.int .i64 (s : Int), .pointer (some ⟨g, 0, none⟩)] w fun e w' => e = .returned (.int .u8 ((k / 2 ^ s % 256 : Nat) : Int)) ∧ w = w' := by
  have hc := h.cell
  go_enter Tryd.func18, Tryd.ntmps18
  go_wp2
  go_ret
  exact ⟨congrArg (fun x => Ending.returned (Value.int .u8 x)) (by simp), rfl⟩
theorem part24 (g k : Nat) (w : World) (hk : k < 4294967296) (h : Box w g 28 (.int .u32 (k : Int))) :
    Calls Tryd.prog 18 #[.int .i64 24, .pointer (some ⟨g, 0, none⟩)] w fun e w' => e = .returned (bv (UInt8.ofNat (k / 16777216))) ∧ w = w' :=
  (part_any g k 24 w hk h (by decide)).mono fun e w' ⟨he, hw⟩ => ⟨by rw [he, bv_ofNat _ (by omega), show k / 2 ^ 24 % 256 = k / 16777216 from by omega], hw⟩
theorem part16 (g k : Nat) (w : World) (hk : k < 4294967296) (h : Box w g 28 (.int .u32 (k : Int))) :
    Calls Tryd.prog 18 #[.int .i64 16, .pointer (some ⟨g, 0, none⟩)] w fun e w' => e = .returned (bv (UInt8.ofNat (k / 65536 % 256))) ∧ w = w' :=
  (part_any g k 16 w hk h (by decide)).mono fun e w' ⟨he, hw⟩ => ⟨by rw [he, bv_ofNat _ (by omega)], hw⟩
theorem part8 (g k : Nat) (w : World) (hk : k < 4294967296) (h : Box w g 28 (.int .u32 (k : Int))) :
    Calls Tryd.prog 18 #[.int .i64 8, .pointer (some ⟨g, 0, none⟩)] w fun e w' => e = .returned (bv (UInt8.ofNat (k / 256 % 256))) ∧ w = w' :=
  (part_any g k 8 w hk h (by decide)).mono fun e w' ⟨he, hw⟩ => ⟨by rw [he, bv_ofNat _ (by omega)], hw⟩
theorem part0 (g k : Nat) (w : World) (hk : k < 4294967296) (h : Box w g 28 (.int .u32 (k : Int))) :
    Calls Tryd.prog 18 #[.int .i64 0, .pointer (some ⟨g, 0, none⟩)] w fun e w' => e = .returned (bv (UInt8.ofNat (k % 256))) ∧ w = w' :=
  (part_any g k 0 w hk h (by decide)).mono fun e w' ⟨he, hw⟩ => ⟨by rw [he, bv_ofNat _ (by omega)]; simp, hw⟩

/-- four values that a literal lays -/
theorem lits_lie {w : World} {g : Nat} (hg : g = w.heap.size) (vs : List Value) (t : TypeId) : Lies (w.alloc (.cells vs.toArray t)) (g + 1) 1 (some ⟨g, 0, none⟩) vs.length vs := by
  subst hg
  refine ⟨by simp, fun j hj => ⟨_, vs[j], rfl, by simp, List.getElem?_eq_getElem hj, ?_⟩⟩
  rw [add_lit]
  have h : (w.alloc (.cells vs.toArray t)).heap[w.heap.size]? = some (.cells vs.toArray t (0, 0)) := heap_alloc_new w _
  rw [Nat.zero_add, cell_of_row _ w.heap.size j vs.toArray t (0, 0) h]
  simp [hj]

set_option maxHeartbeats 1000000 in
theorem putFour_any (A : Option Addr) (n c k : Nat) (l : List UInt8) (w : World) (h1 : Lies w w.heap.size 1 A n (l.map bv)) (hk : k < 4294967296) (hs : n ≤ 549755813888) :
    Calls Tryd.prog 7 #[.slice A n c, .int .u32 (k : Int)] w fun e w' => ∃ v, e = .returned v ∧ w'.ownsRow w.heap.size 5 1 v (n + 4) ((l ++ four k).map bv) ∧ Below w.heap.size w w' := by
  have hmf : ∀ (fn : Fn) (first cap : Array Value) (w : World), (Instr.makeFunc fn first cap).run Tryd.prog w = .ok (.func fn first cap) w := fun _ _ _ _ => rfl
  have hbox := Box.new w 28 (.int .u32 (k : Int))
  have p24 := Lib.hid (part24 _ k _ hk hbox)
  have p16 := Lib.hid (part16 _ k _ hk hbox)
  have p8 := Lib.hid (part8 _ k _ hk hbox)
  have p0 := Lib.hid (part0 _ k _ hk hbox)
  clear hbox
  go_enter Tryd.func7, Tryd.ntmps7
  go_wp2_with fail
  refine p24.out.mono ?_
  rintro e w1 ⟨rfl, rfl⟩
  go_wp2_with fail
  refine p16.out.mono ?_
  rintro e w1 ⟨rfl, rfl⟩
  go_wp2_with fail
  refine p8.out.mono ?_
  rintro e w1 ⟨rfl, rfl⟩
  go_wp2_with fail
  refine p0.out.mono ?_
  rintro e w1 ⟨rfl, rfl⟩
  clear p24 p16 p8 p0
  have hB : Below w.heap.size w ((w.alloc (.cells #[.int .u32 (k : Int)] 28)).alloc (.cells ((four k).map bv).toArray 5)) := ((Below.refl _ _).alloc (Nat.le_refl _) _).alloc (by simp) _
  have hL := lits_lie (w := w.alloc (.cells #[.int .u32 (k : Int)] 28)) (g := w.heap.size + 1) (by simp) ((four k).map bv) 5
  have HC := Lib.hid (collect_any A (some ⟨w.heap.size + 1, 0, none⟩) n 4 c 4 l (four k) _ ((h1.below hB).more hB.size) (hL.more (by simp)) (by omega))
  clear hL
  simp only [four, List.map_cons, List.map_nil] at HC
  go_wp2_with fail
  refine HC.out.mono ?_
  rintro e w2 ⟨v2, rfl, hown2, hb2⟩
  go_wp2
  go_ret
  exact ⟨_, rfl, own_base hown2 hB.size, hB.trans (hb2.mono hB.size)⟩
set_option maxHeartbeats 1000000 in
theorem putText_any (A : Option Addr) (n c : Nat) (s : ByteArray) (l : List UInt8) (w : World) (h1 : Lies w w.heap.size 1 A n (l.map bv)) (hs : n + s.size ≤ 549755813888) :
    Calls Tryd.prog 8 #[.slice A n c, .string s] w fun e w' => ∃ v, e = .returned v ∧ w'.ownsRow w.heap.size 5 1 v (n + ((Vi.enc s.size).length + s.size)) ((l ++ (Vi.enc s.size ++ s.data.toList)).map bv) ∧ Below w.heap.size w w' := by
  obtain ⟨i0, hi, hz0, hz1, hz2⟩ := info_parts byte_info
  have hen := Vi.enc_len s.size
  go_enter Tryd.func8, Tryd.ntmps8
  go_wp2_with fail
  refine (varint_any s.size w (by omega)).mono ?_
  rintro e w1 ⟨v, rfl, hown, hb⟩
  go_wp2_with (at_builtin; refine Lib.wpList_append_own_string _ rfl (.tmp 9) (.tmp 10) 22 9 rfl w.heap.size 5 i0 Tryd.underlying22 Tryd.underlying9 hi hz0 hz1 hz2 v _ _ rfl hown s rfl (by unfold maxLen; omega) (by omega) hb.size ?_; intro v2 w2 hown2 hg2 _)
  have hb2 : Below w.heap.size w w2 := hb.grown hg2 hb.size (fun k hk => (hown.lt k hk).1)
  have hown3 : w2.ownsRow w.heap.size 5 1 v2 ((Vi.enc s.size).length + s.size) ((Vi.enc s.size ++ s.data.toList).map bv) := by rw [List.map_append]; exact hown2
  clear hown2 hg2 hown
  obtain ⟨A2, c2, rfl, _⟩ := own_shape hown3
  refine (collect_any A A2 n _ c c2 l _ w2 ((h1.below hb2).more hb2.size) (Lies.of_own hown3) (by omega)).mono ?_
  rintro e w3 ⟨v3, rfl, hown4, hb3⟩
  go_wp2
  go_ret
  exact ⟨_, rfl, own_base hown4 hb2.size, hb2.trans (hb3.mono hb2.size)⟩

end Go.Proofs.YthjhoealkalfgaaDoor
