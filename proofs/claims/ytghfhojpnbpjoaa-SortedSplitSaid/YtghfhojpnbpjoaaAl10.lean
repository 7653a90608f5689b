/-
  Layer 10's helper entry, and what its alive calls.
  bucketlinelaw10's alive answers true.
  What layer 10's laws share: great.
-/
import Derived.Test.YtghfhojpnbpjoaaBkMB
import Derived.Test.YtghfhojpnbpjoaaSrLN
import Derived.Test.YtghfhojpnbpjoaaSrMQ
import Derived.Deep.RegionHeld3
import Derived.Test.YtghfhojpnbpjoaaPlTx
import Derived.Test.YtghfhojpnbpjoaaKpX
namespace Go.Proofs.Ytghfhojpnbpjoaa
open Go.RowKit
set_option linter.unusedVariables false
set_option maxRecDepth 100000

theorem ent10_any (k : ByteArray) (s : Nat) (v : ByteArray) (w : World) :
    Calls Try.prog 19 #[.string k, .int .u64 (s : Int), .string v] w fun e w' => e = .returned (mkE k s v).v ∧ Below w.heap.size w w' := by
  go_enter Try.func19, Try.ntmps19
  go_wp2
  have h : (w.alloc (Obj.cells #[Value.string k, Value.int IntKind.u64 (s : Int), Value.bool v.toList.isEmpty, Value.string v] 40)).heap[w.heap.size]? = some (.cells #[Value.string k, Value.int IntKind.u64 (s : Int), Value.bool v.toList.isEmpty, Value.string v] 40 (0, 0)) := heap_alloc_new w _
  have hb : Below w.heap.size w (w.alloc (Obj.cells #[Value.string k, Value.int IntKind.u64 (s : Int), Value.bool v.toList.isEmpty, Value.string v] 40)) := (Below.refl _ _).alloc (Nat.le_refl _) _
  revert h hb
  generalize w.alloc (Obj.cells #[Value.string k, Value.int IntKind.u64 (s : Int), Value.bool v.toList.isEmpty, Value.string v] 40) = W
  intro h hb
  have z0 : W.cell? ⟨w.heap.size, 0, none⟩ = some (.string k) := cell_of_row W _ 0 _ _ (0, 0) h
  have z1 : W.cell? ⟨w.heap.size, 1, none⟩ = some (.int .u64 (s : Int)) := cell_of_row W _ 1 _ _ (0, 0) h
  have z2 : W.cell? ⟨w.heap.size, 2, none⟩ = some (.bool v.toList.isEmpty) := cell_of_row W _ 2 _ _ (0, 0) h
  have z3 : W.cell? ⟨w.heap.size, 3, none⟩ = some (.string v) := cell_of_row W _ 3 _ _ (0, 0) h
  exact bodyPost_ret (v := .agg #[.string k, .int .u64 (s : Int), .bool v.toList.isEmpty, .string v]) (by simp [results, Try.results19, go_sem, z0, z1, z2, z3]) rfl ⟨rfl, hb⟩


theorem em10_x : (⟨#[120]⟩ : ByteArray).toList.isEmpty = false := by decide +kernel
theorem em10_y : (⟨#[121]⟩ : ByteArray).toList.isEmpty = false := by decide +kernel
theorem em10_0 : (⟨#[]⟩ : ByteArray).toList.isEmpty = true := by decide +kernel
theorem ent10_1 (w : World) : Calls Try.prog 19 #[.string ⟨#[97]⟩, .int .u64 1, .string ⟨#[120]⟩] w fun e w' => e = .returned (.agg #[.string ⟨#[97]⟩, .int .u64 1, .bool false, .string ⟨#[120]⟩]) ∧ Below w.heap.size w w' := by
  have q := ent10_any ⟨#[97]⟩ 1 ⟨#[120]⟩ w
  unfold mkE En.v at q
  rw [em10_x] at q
  exact q
theorem ent10_2 (w : World) : Calls Try.prog 19 #[.string ⟨#[98]⟩, .int .u64 5, .string ⟨#[]⟩] w fun e w' => e = .returned (.agg #[.string ⟨#[98]⟩, .int .u64 5, .bool true, .string ⟨#[]⟩]) ∧ Below w.heap.size w w' := by
  have q := ent10_any ⟨#[98]⟩ 5 ⟨#[]⟩ w
  unfold mkE En.v at q
  rw [em10_0] at q
  exact q
theorem ent10_3 (w : World) : Calls Try.prog 19 #[.string ⟨#[98]⟩, .int .u64 2, .string ⟨#[121]⟩] w fun e w' => e = .returned (.agg #[.string ⟨#[98]⟩, .int .u64 2, .bool false, .string ⟨#[121]⟩]) ∧ Below w.heap.size w w' := by
  have q := ent10_any ⟨#[98]⟩ 2 ⟨#[121]⟩ w
  unfold mkE En.v at q
  rw [em10_y] at q
  exact q
theorem ent10_4 (w : World) : Calls Try.prog 19 #[.string ⟨#[98]⟩, .int .u64 1, .string ⟨#[120]⟩] w fun e w' => e = .returned (.agg #[.string ⟨#[98]⟩, .int .u64 1, .bool false, .string ⟨#[120]⟩]) ∧ Below w.heap.size w w' := by
  have q := ent10_any ⟨#[98]⟩ 1 ⟨#[120]⟩ w
  unfold mkE En.v at q
  rw [em10_x] at q
  exact q

def F1 : En := ⟨⟨⟨#[97]⟩, 1, false⟩, ⟨#[120]⟩⟩
def F2 : En := ⟨⟨⟨#[98]⟩, 5, true⟩, ⟨#[]⟩⟩
def F3 : En := ⟨⟨⟨#[98]⟩, 2, false⟩, ⟨#[121]⟩⟩
def F4 : En := ⟨⟨⟨#[98]⟩, 1, false⟩, ⟨#[120]⟩⟩
def S3 : List En := [F1, F2, F3]
theorem s3_ok : okF S3 = true := by decide +kernel
theorem s3_q : SQ S3 := by intro e he; simp only [S3, List.mem_cons, List.not_mem_nil, or_false] at he; rcases he with rfl | rfl | rfl <;> decide
theorem s3_is : IsF (filB S3) (some S3) := ⟨s3_ok, s3_q, rfl⟩
theorem s3_no : okA [F4, F1] = false := by decide +kernel
theorem nil10 : okA [] = false := by decide +kernel
theorem put10_a (w : World) : Calls Try.prog 8 #[.slice (some ⟨w.heap.size, 0, none⟩) 3 3] (w.alloc (.cells #[.string ⟨#[97]⟩, .int .u64 1, .bool false, .string ⟨#[120]⟩, .string ⟨#[98]⟩, .int .u64 5, .bool true, .string ⟨#[]⟩, .string ⟨#[98]⟩, .int .u64 2, .bool false, .string ⟨#[121]⟩] 40)) fun e w' =>
    ∃ A c, e = .returned (.tuple #[.slice A (filB S3).length c, .int .i64 0]) ∧ w'.ownsRow w.heap.size 5 1 (.slice A (filB S3).length c) (filB S3).length ((filB S3).map bv) ∧ Below w.heap.size w w' := by
  have hb : Below w.heap.size w (w.alloc (.cells (ecs S3).toArray 40)) := (Below.refl _ _).alloc (Nat.le_refl _) _
  refine (sput_any (w.heap.size + 1) 3 3 (some ⟨w.heap.size, 0, none⟩) S3 _ (lit_EL w S3 3 rfl (by decide) (by intro e he; simp only [S3, List.mem_cons, List.not_mem_nil, or_false] at he; rcases he with rfl | rfl | rfl <;> decide)) s3_q).mono ?_
  rintro e w' ⟨hb2, h1, _⟩
  obtain ⟨A, c, he, ho⟩ := h1 s3_ok
  exact ⟨A, c, he, own_base ho hb.size, hb.trans (hb2.mono hb.size)⟩
theorem put10_b (w : World) : Calls Try.prog 8 #[.slice (some ⟨w.heap.size, 0, none⟩) 2 2] (w.alloc (.cells #[.string ⟨#[98]⟩, .int .u64 1, .bool false, .string ⟨#[120]⟩, .string ⟨#[97]⟩, .int .u64 1, .bool false, .string ⟨#[120]⟩] 40)) fun e w' =>
    e = .returned (.tuple #[.slice none 0 0, .int .i64 1]) ∧ Below w.heap.size w w' := by
  have hb : Below w.heap.size w (w.alloc (.cells (ecs [F4, F1]).toArray 40)) := (Below.refl _ _).alloc (Nat.le_refl _) _
  refine (sput_any (w.heap.size + 1) 2 2 (some ⟨w.heap.size, 0, none⟩) [F4, F1] _ (lit_EL w [F4, F1] 2 rfl (by decide) (by intro e he; simp at he; rcases he with rfl | rfl <;> decide)) (by intro e he; simp at he; rcases he with rfl | rfl <;> decide)).mono ?_
  rintro e w' ⟨hb2, _, h1, _⟩
  exact ⟨h1 s3_no, hb.trans (hb2.mono hb.size)⟩
theorem put10_nil (w : World) : Calls Try.prog 8 #[.slice none 0 0] w fun e w' => e = .returned (.tuple #[.slice none 0 0, .int .i64 1]) ∧ Below w.heap.size w w' :=
  (sput_any w.heap.size 0 0 none [] w ⟨Lies.none_ _ _ _ _, Nat.le_refl _, Nat.le_refl _, by unfold maxLen; omega, fun e he => by cases he⟩ (fun e he => by cases he)).mono fun e w' ⟨hb, _, h, _⟩ => ⟨h nil10, hb⟩
theorem g10_1 : getE S3 ⟨#[98]⟩ 9 = some F2 := by kernel_rfl
theorem get10_1 (A : Option Addr) (n c base : Nat) (hn : (filB S3).length = n) (w : World) (ho : w.ownsRow base 5 1 (.slice A n c) n ((filB S3).map bv)) : Calls Try.prog 17 #[.slice A n c, .string ⟨#[98]⟩, .int .u64 9] w fun e w' => e = .returned (.tuple #[.agg #[.string ⟨#[98]⟩, .int .u64 5, .bool true, .string ⟨#[]⟩], .bool true, .int .i64 0]) ∧ Below w.heap.size w w' := by
  obtain ⟨_, _, hv, h1, h2, _⟩ := own_shape ho
  injection hv with e1 e2 e3
  subst e1 e3
  refine (sget_any A n c (filB S3) (some S3) ⟨#[98]⟩ 9 w s3_is (Lies.of_own ho) h1 h2 (by have := filB_le s3_ok; omega)).mono ?_
  rintro e w' ⟨hb, h, _⟩
  have := h S3 rfl
  rw [g10_1] at this
  exact ⟨this, hb⟩
theorem g10_2 : getE S3 ⟨#[98]⟩ 4 = some F3 := by kernel_rfl
theorem get10_2 (A : Option Addr) (n c base : Nat) (hn : (filB S3).length = n) (w : World) (ho : w.ownsRow base 5 1 (.slice A n c) n ((filB S3).map bv)) : Calls Try.prog 17 #[.slice A n c, .string ⟨#[98]⟩, .int .u64 4] w fun e w' => e = .returned (.tuple #[.agg #[.string ⟨#[98]⟩, .int .u64 2, .bool false, .string ⟨#[121]⟩], .bool true, .int .i64 0]) ∧ Below w.heap.size w w' := by
  obtain ⟨_, _, hv, h1, h2, _⟩ := own_shape ho
  injection hv with e1 e2 e3
  subst e1 e3
  refine (sget_any A n c (filB S3) (some S3) ⟨#[98]⟩ 4 w s3_is (Lies.of_own ho) h1 h2 (by have := filB_le s3_ok; omega)).mono ?_
  rintro e w' ⟨hb, h, _⟩
  have := h S3 rfl
  rw [g10_2] at this
  exact ⟨this, hb⟩
theorem g10_3 : getE S3 ⟨#[98]⟩ 1 = none := by decide +kernel
theorem get10_3 (A : Option Addr) (n c base : Nat) (hn : (filB S3).length = n) (w : World) (ho : w.ownsRow base 5 1 (.slice A n c) n ((filB S3).map bv)) : Calls Try.prog 17 #[.slice A n c, .string ⟨#[98]⟩, .int .u64 1] w fun e w' => e = .returned (.tuple #[.agg #[.string ⟨#[]⟩, .int .u64 0, .bool false, .string ⟨#[]⟩], .bool false, .int .i64 0]) ∧ Below w.heap.size w w' := by
  obtain ⟨_, _, hv, h1, h2, _⟩ := own_shape ho
  injection hv with e1 e2 e3
  subst e1 e3
  refine (sget_any A n c (filB S3) (some S3) ⟨#[98]⟩ 1 w s3_is (Lies.of_own ho) h1 h2 (by have := filB_le s3_ok; omega)).mono ?_
  rintro e w' ⟨hb, h, _⟩
  have := h S3 rfl
  rw [g10_3] at this
  exact ⟨this, hb⟩
theorem g10_4 : getE S3 ⟨#[99]⟩ 9 = none := by decide +kernel
theorem get10_4 (A : Option Addr) (n c base : Nat) (hn : (filB S3).length = n) (w : World) (ho : w.ownsRow base 5 1 (.slice A n c) n ((filB S3).map bv)) : Calls Try.prog 17 #[.slice A n c, .string ⟨#[99]⟩, .int .u64 9] w fun e w' => e = .returned (.tuple #[.agg #[.string ⟨#[]⟩, .int .u64 0, .bool false, .string ⟨#[]⟩], .bool false, .int .i64 0]) ∧ Below w.heap.size w w' := by
  obtain ⟨_, _, hv, h1, h2, _⟩ := own_shape ho
  injection hv with e1 e2 e3
  subst e1 e3
  refine (sget_any A n c (filB S3) (some S3) ⟨#[99]⟩ 9 w s3_is (Lies.of_own ho) h1 h2 (by have := filB_le s3_ok; omega)).mono ?_
  rintro e w' ⟨hb, h, _⟩
  have := h S3 rfl
  rw [g10_4] at this
  exact ⟨this, hb⟩
theorem f10_1 : cntM (fromM S3 ⟨⟨#[98]⟩, 4, false⟩).length 9 = 1 := by decide +kernel
theorem from10_1 (A : Option Addr) (n c base : Nat) (hn : (filB S3).length = n) (w : World) (ho : w.ownsRow base 5 1 (.slice A n c) n ((filB S3).map bv)) : Calls Try.prog 18 #[.slice A n c, .agg #[.string ⟨#[98]⟩, .int .u64 4, .bool false], .int .i64 9] w fun e w' => ∃ A2 c2, e = .returned (.tuple #[.slice A2 1 c2, .int .i64 0]) ∧ Below w.heap.size w w' := by
  obtain ⟨_, _, hv, h1, h2, _⟩ := own_shape ho
  injection hv with e1 e2 e3
  subst e1 e3
  refine (sfrom_any A n c (filB S3) (some S3) ⟨⟨#[98]⟩, 4, false⟩ 9 (by decide) w s3_is (Lies.of_own ho) h1 h2 (by have := filB_le s3_ok; omega)).mono ?_
  rintro e w' ⟨hb, h, _⟩
  obtain ⟨A2, c2, st, N, hN, _, _, he, _⟩ := h S3 rfl
  rw [f10_1] at hN
  subst hN
  exact ⟨_, _, he, hb⟩
theorem f10_2 : cntM (fromM S3 ⟨⟨#[97]⟩, 9, false⟩).length 2 = 2 := by decide +kernel
theorem from10_2 (A : Option Addr) (n c base : Nat) (hn : (filB S3).length = n) (w : World) (ho : w.ownsRow base 5 1 (.slice A n c) n ((filB S3).map bv)) : Calls Try.prog 18 #[.slice A n c, .agg #[.string ⟨#[97]⟩, .int .u64 9, .bool false], .int .i64 2] w fun e w' => ∃ A2 c2, e = .returned (.tuple #[.slice A2 2 c2, .int .i64 0]) ∧ Below w.heap.size w w' := by
  obtain ⟨_, _, hv, h1, h2, _⟩ := own_shape ho
  injection hv with e1 e2 e3
  subst e1 e3
  refine (sfrom_any A n c (filB S3) (some S3) ⟨⟨#[97]⟩, 9, false⟩ 2 (by decide) w s3_is (Lies.of_own ho) h1 h2 (by have := filB_le s3_ok; omega)).mono ?_
  rintro e w' ⟨hb, h, _⟩
  obtain ⟨A2, c2, st, N, hN, _, _, he, _⟩ := h S3 rfl
  rw [f10_2] at hN
  subst hN
  exact ⟨_, _, he, hb⟩
theorem all10_a (A : Option Addr) (n c base : Nat) (hn : (filB S3).length = n) (w : World) (ho : w.ownsRow base 5 1 (.slice A n c) n ((filB S3).map bv)) : Calls Try.prog 20 #[.slice A n c] w fun e w' => ∃ A2 c2, e = .returned (.tuple #[.slice A2 3 c2, .int .i64 0]) ∧ Below w.heap.size w w' := by
  obtain ⟨_, _, hv, h1, h2, _⟩ := own_shape ho
  injection hv with e1 e2 e3
  subst e1 e3
  refine (sall_any A n c (filB S3) (some S3) w s3_is (Lies.of_own ho) h1 h2 (by have := filB_le s3_ok; omega)).mono ?_
  rintro e w' ⟨hb, h, _⟩
  obtain ⟨A2, c2, he, _⟩ := h S3 rfl
  exact ⟨_, _, he, hb⟩
theorem all10_b (A : Option Addr) (n c base : Nat) (hn : (filB S3).length = n) (w : World) (ho : w.ownsRow base 5 1 (.slice A n c) n ((filB S3).map bv)) (m : Nat) (hm : m < n) : Calls Try.prog 20 #[.slice A m c] w fun e w' => e = .returned (.tuple #[.slice none 0 0, .int .i64 4]) ∧ Below w.heap.size w w' := by
  obtain ⟨_, _, hv, h1, h2, _⟩ := own_shape ho
  injection hv with e1 e2 e3
  subst e1 e3
  refine (sall_any A m c ((filB S3).take m) none w (isF_cut s3_ok (by omega)) (lies_take (Lies.of_own ho) (by omega)) (by omega) h2 (by have := filB_le s3_ok; omega)).mono ?_
  rintro e w' ⟨hb, _, h⟩
  exact ⟨h rfl, hb⟩
theorem len10 : 12 ≤ (filB S3).length ∧ (filB S3).length ≤ 1400000 := by
  have h1 := filB_len S3
  have h2 := filB_le s3_ok
  omega
end Go.Proofs.Ytghfhojpnbpjoaa

namespace Go.Proofs.Ytghfhojpnbpjoaa
open Go.RowKit
set_option linter.unusedVariables false
set_option maxRecDepth 100000

theorem run_headS (w : World) (A : Option Addr) (n c h : Nat) (h3 : h ≤ c) :
    (Instr.slice 25 (.slice A n c) none (some (.int .i64 (h : Int))) none).run Try.prog w = .ok (.slice A h c) w := by
  obtain ⟨i0, hi, hz0, hz1, hz2⟩ := info_parts byte_info
  unfold Instr.slice
  simp [run_underlying Try.underlying25, Instr.sliceBounds, Instr.sliceBound, asIntOf, sizeOf, typeInfo, hi, h3]
  cases A <;> simp [Addr.add]
theorem eq10_2 (W : World) : (binOp BinOp.eql 40 (.agg #[.string ⟨#[98]⟩, .int .u64 5, .bool true, .string ⟨#[]⟩]) (.agg #[.string ⟨#[98]⟩, .int .u64 5, .bool true, .string ⟨#[]⟩])).run Try.prog W = .ok (.bool true) W := by go_simp
theorem eq10_3 (W : World) : (binOp BinOp.eql 40 (.agg #[.string ⟨#[98]⟩, .int .u64 2, .bool false, .string ⟨#[121]⟩]) (.agg #[.string ⟨#[98]⟩, .int .u64 2, .bool false, .string ⟨#[121]⟩])).run Try.prog W = .ok (.bool true) W := by go_simp

set_option maxHeartbeats 4000000 in
theorem alive10_any (w : World) : Calls Try.prog 6 #[] w fun e w' => e = .returned (.bool true) ∧ Below w.heap.size w w' := by
  obtain ⟨n, hn⟩ : ∃ n, (filB S3).length = n := ⟨_, rfl⟩
  have hl := len10
  rw [hn] at hl
  obtain ⟨hl1, hl2⟩ := hl
  have HPut := Lib.hid put10_a
  rw [hn] at HPut
  have HN := Lib.hid hn
  clear hn
  go_enter Try.func6, Try.ntmps6
  go_wp2_with fail
  refine (ent10_1 _).mono ?_
  rintro e w1 ⟨rfl, hb⟩
  have H := Lib.hid hb; clear hb
  go_wp2_with fail
  refine (ent10_2 _).mono ?_
  rintro e w2 ⟨rfl, hb⟩
  have H := Lib.hid (H.out.trans (hb.mono H.out.size)); clear hb
  go_wp2_with fail
  refine (ent10_3 _).mono ?_
  rintro e w3 ⟨rfl, hb⟩
  have H := Lib.hid (H.out.trans (hb.mono H.out.size)); clear hb
  go_wp2_with fail
  refine (HPut.out _).mono ?_
  rintro e w4 ⟨A, c, rfl, ho, hb⟩
  have H := Lib.hid (H.out.trans (hb.mono H.out.size)); clear hb
  have O := Lib.hid ho; clear ho HPut
  go_wp2_with fail
  refine (get10_1 A n c _ HN.out _ O.out).mono ?_
  rintro e w5 ⟨rfl, hb⟩
  have H := Lib.hid (H.out.trans (hb.mono H.out.size))
  have O := Lib.hid (own_below O.out hb); clear hb
  have hbx : Below w5.heap.size w5 (w5.alloc (.cells #[.string ⟨#[98]⟩, .int .u64 5, .bool true, .string ⟨#[]⟩] 40)) := (Below.refl _ _).alloc (Nat.le_refl _) _
  have X1 : Hid ((w5.alloc (.cells #[.string ⟨#[98]⟩, .int .u64 5, .bool true, .string ⟨#[]⟩] 40)).heap[w5.heap.size]? = some (.cells #[.string ⟨#[98]⟩, .int .u64 5, .bool true, .string ⟨#[]⟩] 40 (0, 0))) := heap_alloc_new w5 _
  have H := Lib.hid (H.out.trans (hbx.mono H.out.size))
  have O := Lib.hid (own_below O.out hbx); clear hbx
  go_wp2_with fail
  obtain ⟨u5, hu5⟩ : ∃ u, w5.alloc (.cells #[.string ⟨#[98]⟩, .int .u64 5, .bool true, .string ⟨#[]⟩] 40) = u := ⟨_, rfl⟩
  rw [hu5] at H O X1 ⊢
  obtain ⟨b1, hb1⟩ : ∃ b, w5.heap.size = b := ⟨_, rfl⟩
  rw [hb1] at X1 ⊢
  clear hu5
  refine (get10_2 A n c _ HN.out _ O.out).mono ?_
  rintro e w6 ⟨rfl, hb⟩
  have X1 := Lib.hid ((hb.block _ (Array.getElem?_eq_some_iff.1 X1.out).1).trans X1.out)
  have H := Lib.hid (H.out.trans (hb.mono H.out.size))
  have O := Lib.hid (own_below O.out hb); clear hb
  have hbx : Below w6.heap.size w6 (w6.alloc (.cells #[.string ⟨#[98]⟩, .int .u64 2, .bool false, .string ⟨#[121]⟩] 40)) := (Below.refl _ _).alloc (Nat.le_refl _) _
  have X1 := Lib.hid ((hbx.block _ (Array.getElem?_eq_some_iff.1 X1.out).1).trans X1.out)
  have X2 : Hid ((w6.alloc (.cells #[.string ⟨#[98]⟩, .int .u64 2, .bool false, .string ⟨#[121]⟩] 40)).heap[w6.heap.size]? = some (.cells #[.string ⟨#[98]⟩, .int .u64 2, .bool false, .string ⟨#[121]⟩] 40 (0, 0))) := heap_alloc_new w6 _
  have H := Lib.hid (H.out.trans (hbx.mono H.out.size))
  have O := Lib.hid (own_below O.out hbx); clear hbx
  go_wp2_with fail
  obtain ⟨u6, hu6⟩ : ∃ u, w6.alloc (.cells #[.string ⟨#[98]⟩, .int .u64 2, .bool false, .string ⟨#[121]⟩] 40) = u := ⟨_, rfl⟩
  rw [hu6] at H O X1 X2 ⊢
  obtain ⟨b2, hb2⟩ : ∃ b, w6.heap.size = b := ⟨_, rfl⟩
  rw [hb2] at X2 ⊢
  clear hu6
  refine (get10_3 A n c _ HN.out _ O.out).mono ?_
  rintro e w7 ⟨rfl, hb⟩
  have X1 := Lib.hid ((hb.block _ (Array.getElem?_eq_some_iff.1 X1.out).1).trans X1.out)
  have X2 := Lib.hid ((hb.block _ (Array.getElem?_eq_some_iff.1 X2.out).1).trans X2.out)
  have H := Lib.hid (H.out.trans (hb.mono H.out.size))
  have O := Lib.hid (own_below O.out hb); clear hb
  have hbx : Below w7.heap.size w7 (w7.alloc (.cells #[.string ⟨#[]⟩, .int .u64 0, .bool false, .string ⟨#[]⟩] 40)) := (Below.refl _ _).alloc (Nat.le_refl _) _
  have X1 := Lib.hid ((hbx.block _ (Array.getElem?_eq_some_iff.1 X1.out).1).trans X1.out)
  have X2 := Lib.hid ((hbx.block _ (Array.getElem?_eq_some_iff.1 X2.out).1).trans X2.out)
  have H := Lib.hid (H.out.trans (hbx.mono H.out.size))
  have O := Lib.hid (own_below O.out hbx); clear hbx
  go_wp2_with fail
  obtain ⟨u7, hu7⟩ : ∃ u, w7.alloc (.cells #[.string ⟨#[]⟩, .int .u64 0, .bool false, .string ⟨#[]⟩] 40) = u := ⟨_, rfl⟩
  rw [hu7] at H O X1 X2 ⊢
  clear hu7
  refine (get10_4 A n c _ HN.out _ O.out).mono ?_
  rintro e w8 ⟨rfl, hb⟩
  have X1 := Lib.hid ((hb.block _ (Array.getElem?_eq_some_iff.1 X1.out).1).trans X1.out)
  have X2 := Lib.hid ((hb.block _ (Array.getElem?_eq_some_iff.1 X2.out).1).trans X2.out)
  have H := Lib.hid (H.out.trans (hb.mono H.out.size))
  have O := Lib.hid (own_below O.out hb); clear hb
  have hbx : Below w8.heap.size w8 (w8.alloc (.cells #[.string ⟨#[]⟩, .int .u64 0, .bool false, .string ⟨#[]⟩] 40)) := (Below.refl _ _).alloc (Nat.le_refl _) _
  have X1 := Lib.hid ((hbx.block _ (Array.getElem?_eq_some_iff.1 X1.out).1).trans X1.out)
  have X2 := Lib.hid ((hbx.block _ (Array.getElem?_eq_some_iff.1 X2.out).1).trans X2.out)
  have H := Lib.hid (H.out.trans (hbx.mono H.out.size))
  have O := Lib.hid (own_below O.out hbx); clear hbx
  go_wp2_with fail
  obtain ⟨u8, hu8⟩ : ∃ u, w8.alloc (.cells #[.string ⟨#[]⟩, .int .u64 0, .bool false, .string ⟨#[]⟩] 40) = u := ⟨_, rfl⟩
  rw [hu8] at H O X1 X2 ⊢
  clear hu8
  refine (from10_1 A n c _ HN.out _ O.out).mono ?_
  rintro e w9 ⟨A9, c9, rfl, hb⟩
  have X1 := Lib.hid ((hb.block _ (Array.getElem?_eq_some_iff.1 X1.out).1).trans X1.out)
  have X2 := Lib.hid ((hb.block _ (Array.getElem?_eq_some_iff.1 X2.out).1).trans X2.out)
  have H := Lib.hid (H.out.trans (hb.mono H.out.size))
  have O := Lib.hid (own_below O.out hb); clear hb
  go_wp2_with fail
  refine (from10_2 A n c _ HN.out _ O.out).mono ?_
  rintro e w10 ⟨A10, c10, rfl, hb⟩
  have X1 := Lib.hid ((hb.block _ (Array.getElem?_eq_some_iff.1 X1.out).1).trans X1.out)
  have X2 := Lib.hid ((hb.block _ (Array.getElem?_eq_some_iff.1 X2.out).1).trans X2.out)
  have H := Lib.hid (H.out.trans (hb.mono H.out.size))
  have O := Lib.hid (own_below O.out hb); clear hb
  go_wp2_with fail
  refine (all10_a A n c _ HN.out _ O.out).mono ?_
  rintro e w11 ⟨A11, c11, rfl, hb⟩
  have X1 := Lib.hid ((hb.block _ (Array.getElem?_eq_some_iff.1 X1.out).1).trans X1.out)
  have X2 := Lib.hid ((hb.block _ (Array.getElem?_eq_some_iff.1 X2.out).1).trans X2.out)
  have H := Lib.hid (H.out.trans (hb.mono H.out.size))
  have O := Lib.hid (own_below O.out hb); clear hb
  go_wp2_with fail
  refine (put10_nil _).mono ?_
  rintro e w12 ⟨rfl, hb⟩
  have X1 := Lib.hid ((hb.block _ (Array.getElem?_eq_some_iff.1 X1.out).1).trans X1.out)
  have X2 := Lib.hid ((hb.block _ (Array.getElem?_eq_some_iff.1 X2.out).1).trans X2.out)
  have H := Lib.hid (H.out.trans (hb.mono H.out.size))
  have O := Lib.hid (own_below O.out hb); clear hb
  go_wp2_with fail
  refine (ent10_4 _).mono ?_
  rintro e w13 ⟨rfl, hb⟩
  have X1 := Lib.hid ((hb.block _ (Array.getElem?_eq_some_iff.1 X1.out).1).trans X1.out)
  have X2 := Lib.hid ((hb.block _ (Array.getElem?_eq_some_iff.1 X2.out).1).trans X2.out)
  have H := Lib.hid (H.out.trans (hb.mono H.out.size))
  have O := Lib.hid (own_below O.out hb); clear hb
  go_wp2_with fail
  refine (ent10_1 _).mono ?_
  rintro e w14 ⟨rfl, hb⟩
  have X1 := Lib.hid ((hb.block _ (Array.getElem?_eq_some_iff.1 X1.out).1).trans X1.out)
  have X2 := Lib.hid ((hb.block _ (Array.getElem?_eq_some_iff.1 X2.out).1).trans X2.out)
  have H := Lib.hid (H.out.trans (hb.mono H.out.size))
  have O := Lib.hid (own_below O.out hb); clear hb
  go_wp2_with fail
  refine (put10_b _).mono ?_
  rintro e w15 ⟨rfl, hb⟩
  have X1 := Lib.hid ((hb.block _ (Array.getElem?_eq_some_iff.1 X1.out).1).trans X1.out)
  have X2 := Lib.hid ((hb.block _ (Array.getElem?_eq_some_iff.1 X2.out).1).trans X2.out)
  have H := Lib.hid (H.out.trans (hb.mono H.out.size))
  have O := Lib.hid (own_below O.out hb); clear hb
  obtain ⟨k, hk⟩ : ∃ k, n - 1 = k := ⟨_, rfl⟩
  have hki : (n : Int) - 1 = (k : Int) := by omega
  have hkn : k < n := by omega
  obtain ⟨_, _, hv, hnc, hcc, _⟩ := own_shape O.out
  injection hv with q1 _ q3
  subst q1 q3
  have hsl := fun W => run_headS W A n c k (by omega)
  clear hk
  go_wp2_with fail
  refine (all10_b A n c _ HN.out _ O.out k hkn).mono ?_
  rintro e w16 ⟨rfl, hb⟩
  have X1 := Lib.hid ((hb.block _ (Array.getElem?_eq_some_iff.1 X1.out).1).trans X1.out)
  have X2 := Lib.hid ((hb.block _ (Array.getElem?_eq_some_iff.1 X2.out).1).trans X2.out)
  have H := Lib.hid (H.out.trans (hb.mono H.out.size))
  have O := Lib.hid (own_below O.out hb); clear hb
  have x0 := cell_of_row w16 b1 0 _ _ (0, 0) X1.out
  have x1 := cell_of_row w16 b1 1 _ _ (0, 0) X1.out
  have x2 := cell_of_row w16 b1 2 _ _ (0, 0) X1.out
  have x3 := cell_of_row w16 b1 3 _ _ (0, 0) X1.out
  have y0 := cell_of_row w16 b2 0 _ _ (0, 0) X2.out
  have y1 := cell_of_row w16 b2 1 _ _ (0, 0) X2.out
  have y2 := cell_of_row w16 b2 2 _ _ (0, 0) X2.out
  have y3 := cell_of_row w16 b2 3 _ _ (0, 0) X2.out
  have HS : Hid (∀ W', Below w16.heap.size w16 W' → W'.cell? ⟨b1, 0, none⟩ = some (.string ⟨#[98]⟩) ∧ W'.cell? ⟨b1, 1, none⟩ = some (.int .u64 5) ∧ W'.cell? ⟨b1, 2, none⟩ = some (.bool true) ∧ W'.cell? ⟨b1, 3, none⟩ = some (.string ⟨#[]⟩) ∧ W'.cell? ⟨b2, 0, none⟩ = some (.string ⟨#[98]⟩) ∧ W'.cell? ⟨b2, 1, none⟩ = some (.int .u64 2) ∧ W'.cell? ⟨b2, 2, none⟩ = some (.bool false) ∧ W'.cell? ⟨b2, 3, none⟩ = some (.string ⟨#[121]⟩)) := fun W' hb' => by
    have hup : ∀ {p v}, w16.cell? p = some v → W'.cell? p = some v := fun {p v} h => (hb'.cell (World.block_lt_of_cell? w16 _ h)).trans h
    exact ⟨hup x0, hup x1, hup x2, hup x3, hup y0, hup y1, hup y2, hup y3⟩
  have hq2 := eq10_2
  have hq3 := eq10_3
  have HD : Hid (Below w16.heap.size w16 w16.drew) := below_drew (Below.refl _ _)
  clear x0 x1 x2 x3 y0 y1 y2 y3 X1 X2 O hsl
  go_wp2_with fail
  go_region_held3 (fun W' => W'.cell? ⟨b1, 0, none⟩ = some (.string ⟨#[98]⟩) ∧ W'.cell? ⟨b1, 1, none⟩ = some (.int .u64 5) ∧ W'.cell? ⟨b1, 2, none⟩ = some (.bool true) ∧ W'.cell? ⟨b1, 3, none⟩ = some (.string ⟨#[]⟩) ∧ W'.cell? ⟨b2, 0, none⟩ = some (.string ⟨#[98]⟩) ∧ W'.cell? ⟨b2, 1, none⟩ = some (.int .u64 2) ∧ W'.cell? ⟨b2, 2, none⟩ = some (.bool false) ∧ W'.cell? ⟨b2, 3, none⟩ = some (.string ⟨#[121]⟩))
    (first | exact HS.out _ HD.out | exact HS.out _ B1 | exact HS.out _ B2 | fail)
    (first
    | (go_at_call 19; (with_reducible refine Calls.mono (ent10_2 _) ?_); rintro e w17 ⟨rfl, hb1⟩; have B1 := HD.out.trans (hb1.mono HD.out.size))
    | (go_at_call 19; (with_reducible refine Calls.mono (ent10_3 _) ?_); rintro e w18 ⟨rfl, hb2⟩; have B2 := B1.trans (hb2.mono B1.size))
    | fail)
  have HF := Lib.hid (H.out.trans (B2.mono H.out.size))
  clear B1 B2
  go_wp2
  go_ret
  exact ⟨rfl, HF.out⟩
end Go.Proofs.Ytghfhojpnbpjoaa

namespace Go.Proofs.Ytghfhojpnbpjoaa
open Go.RowKit
set_option linter.unusedVariables false
set_option maxRecDepth 100000

def Fits (l : List En) : Prop := ∀ x ∈ l, x.m.s < 18446744073709551616 ∧ x.m.k.size ≤ 140737488351232 ∧ x.x.size ≤ 140737488351232
theorem great10_any (A : Option Addr) (n c : Nat) (l : List En) (w : World) (h : Lies w w.heap.size 4 A n (ecs l)) (hm : Fits l) (hn : n ≤ 140737488351232) :
    Calls Try.prog 7 #[.slice A n c] w fun e w' => ∃ b, e = .returned (.bool b) ∧ (b = false → n ≤ 300) ∧ Below w.heap.size w w' := by
  have HE := Lib.hid (entriesSize_any A n c l w h hm hn)
  clear h hm
  by_cases h3 : 300 < n
  · have hi : ((n : Int) > 300) := by omega
    go_enter Try.func7, Try.ntmps7
    go_wp2
    go_ret
    exact ⟨true, rfl, (fun q => by cases q), Below.refl _ _⟩
  · have hi : ¬ ((n : Int) > 300) := by omega
    have H3 := Lib.hid h3
    clear h3
    go_enter Try.func7, Try.ntmps7
    go_wp2_with fail
    refine HE.out.mono ?_
    rintro e w2 ⟨z, q, rfl, hw, _⟩
    have HF : Hid (Below w.heap.size w w2) := by unfold Hid; rw [hw]; exact below_drewN (Below.refl _ _) q
    clear hw HE
    go_wp2
    go_ret
    exact ⟨_, rfl, (fun _ => by have := H3.out; omega), HF.out⟩
theorem el_of {A : Option Addr} {n c : Nat} {l : List En} {W : World} (hl : Lies W W.heap.size 4 A n (ecs l)) (hu : Fits l) (hnc : n ≤ c) (hc : c ≤ 140737488351232) : EL W W.heap.size A n c l := ⟨hl, Nat.le_refl _, hnc, by unfold maxLen; omega, fun e he => (hu e he).2⟩
abbrev zeroEn : Obj := .cells #[.string ⟨#[]⟩, .int .u64 0, .bool false, .string ⟨#[]⟩] 40
theorem zero_en (w W : World) (g : Nat) (hg : w.heap.size = g) (h : Below (w.alloc zeroEn).heap.size (w.alloc zeroEn) W) : (W.cell? ⟨g, 0, none⟩ = some (.string ⟨#[]⟩) ∧ W.cell? ⟨g, 1, none⟩ = some (.int .u64 0) ∧ W.cell? ⟨g, 2, none⟩ = some (.bool false) ∧ W.cell? ⟨g, 3, none⟩ = some (.string ⟨#[]⟩)) ∧
    W.frozen? ⟨g, 0, none⟩ = false ∧ W.frozen? ⟨g, 1, none⟩ = false ∧ W.frozen? ⟨g, 2, none⟩ = false ∧ W.frozen? ⟨g, 3, none⟩ = false := by
  subst hg
  have hr : W.heap[w.heap.size]? = some (.cells #[.string ⟨#[]⟩, .int .u64 0, .bool false, .string ⟨#[]⟩] 40 (0, 0)) := (h.block _ (by simp)).trans (heap_alloc_new w _)
  exact ⟨⟨cell_of_row _ _ 0 _ _ (0, 0) hr, cell_of_row _ _ 1 _ _ (0, 0) hr, cell_of_row _ _ 2 _ _ (0, 0) hr, cell_of_row _ _ 3 _ _ (0, 0) hr⟩, by simp [World.frozen?, hr], by simp [World.frozen?, hr], by simp [World.frozen?, hr], by simp [World.frozen?, hr]⟩
/-- the entry that is none -/
theorem noE_v : noE.v = .agg #[.string ⟨#[]⟩, .int .u64 0, .bool false, .string ⟨#[]⟩] := by kernel_rfl
theorem filB_pos (S : List En) : 12 ≤ (filB S).length := by rw [filB_len]; omega
end Go.Proofs.Ytghfhojpnbpjoaa

