/-
  Contracts of package ints: PutFour.
  Contracts of package ints: GetFour.
  Contracts of package frames: checksum.
  Contracts of package frames: Put.
  Contracts of package frames: Get.
  Plain facts about frames: what is put is read back; a frame that is cut, or in which a byte is another one.
-/
import Derived.Test.YtghfhojpnbpjoaaInA
import Derived.Test.YtghfhojpnbpjoaaSuX
import Derived.Deep.RegionHeld3
namespace Go.Proofs.Ytghfhojpnbpjoaa
open Go.RowKit
set_option linter.unusedVariables false

/-- the four bytes of a number, the highest one first -/
def four (k : Nat) : List UInt8 := [UInt8.ofNat (k / 16777216), UInt8.ofNat (k / 65536 % 256), UInt8.ofNat (k / 256 % 256), UInt8.ofNat (k % 256)]

theorem part_any (g k s : Nat) (w : World) (hk : k < 4294967296) (h : Box w g 45 (.int .u32 (k : Int))) (hs : s ≤ 31) :
    Calls Try.prog 37 #[.int .i64 (s : Int), .pointer (some ⟨g, 0, none⟩)] w fun e w' => e = .returned (.int .u8 ((k / 2 ^ s % 256 : Nat) : Int)) ∧ w = w' := by
  have hc := h.cell
  go_enter Try.func37, Try.ntmps37
  go_wp2
  go_ret
  exact ⟨congrArg (fun x => Ending.returned (Value.int .u8 x)) (by simp), rfl⟩
theorem part24 (g k : Nat) (w : World) (hk : k < 4294967296) (h : Box w g 45 (.int .u32 (k : Int))) :
    Calls Try.prog 37 #[.int .i64 24, .pointer (some ⟨g, 0, none⟩)] w fun e w' => e = .returned (bv (UInt8.ofNat (k / 16777216))) ∧ w = w' :=
  (part_any g k 24 w hk h (by decide)).mono fun e w' ⟨he, hw⟩ => ⟨by rw [he, bv_ofNat _ (by omega), show k / 2 ^ 24 % 256 = k / 16777216 from by omega], hw⟩
theorem part16 (g k : Nat) (w : World) (hk : k < 4294967296) (h : Box w g 45 (.int .u32 (k : Int))) :
    Calls Try.prog 37 #[.int .i64 16, .pointer (some ⟨g, 0, none⟩)] w fun e w' => e = .returned (bv (UInt8.ofNat (k / 65536 % 256))) ∧ w = w' :=
  (part_any g k 16 w hk h (by decide)).mono fun e w' ⟨he, hw⟩ => ⟨by rw [he, bv_ofNat _ (by omega)], hw⟩
theorem part8 (g k : Nat) (w : World) (hk : k < 4294967296) (h : Box w g 45 (.int .u32 (k : Int))) :
    Calls Try.prog 37 #[.int .i64 8, .pointer (some ⟨g, 0, none⟩)] w fun e w' => e = .returned (bv (UInt8.ofNat (k / 256 % 256))) ∧ w = w' :=
  (part_any g k 8 w hk h (by decide)).mono fun e w' ⟨he, hw⟩ => ⟨by rw [he, bv_ofNat _ (by omega)], hw⟩
theorem part0 (g k : Nat) (w : World) (hk : k < 4294967296) (h : Box w g 45 (.int .u32 (k : Int))) :
    Calls Try.prog 37 #[.int .i64 0, .pointer (some ⟨g, 0, none⟩)] w fun e w' => e = .returned (bv (UInt8.ofNat (k % 256))) ∧ w = w' :=
  (part_any g k 0 w hk h (by decide)).mono fun e w' ⟨he, hw⟩ => ⟨by rw [he, bv_ofNat _ (by omega)]; simp, hw⟩

set_option maxHeartbeats 1000000 in
theorem putFour_any (A : Option Addr) (n c k : Nat) (l : List UInt8) (w : World) (h1 : Lies w w.heap.size 1 A n (l.map bv)) (hk : k < 4294967296) (hs : n ≤ 549755813888) :
    Calls Try.prog 16 #[.slice A n c, .int .u32 (k : Int)] w fun e w' => ∃ v, e = .returned v ∧ w'.ownsRow w.heap.size 5 1 v (n + 4) ((l ++ four k).map bv) ∧ Below w.heap.size w w' := by
  have hmf : ∀ (fn : Fn) (first cap : Array Value) (w : World), (Instr.makeFunc fn first cap).run Try.prog w = .ok (.func fn first cap) w := fun _ _ _ _ => rfl
  have hbox := Box.new w 45 (.int .u32 (k : Int))
  have p24 := Lib.hid (part24 _ k _ hk hbox)
  have p16 := Lib.hid (part16 _ k _ hk hbox)
  have p8 := Lib.hid (part8 _ k _ hk hbox)
  have p0 := Lib.hid (part0 _ k _ hk hbox)
  clear hbox
  go_enter Try.func16, Try.ntmps16
  go_wp2_with fail
  refine p24.out.mono ?_
  rintro e w1 ⟨rfl, rfl⟩
  go_wp2_with fail
  refine p16.out.mono ?_
  rintro e w1 ⟨rfl, rfl⟩
  go_wp2_with fail
  refine p8.out.mono ?_
  rintro e w1 ⟨rfl, rfl⟩
  go_wp2_with fail
  refine p0.out.mono ?_
  rintro e w1 ⟨rfl, rfl⟩
  clear p24 p16 p8 p0
  have hB : Below w.heap.size w ((w.alloc (.cells #[.int .u32 (k : Int)] 45)).alloc (.cells ((four k).map bv).toArray 5)) := ((Below.refl _ _).alloc (Nat.le_refl _) _).alloc (by simp) _
  have hL := lits_lie (w := w.alloc (.cells #[.int .u32 (k : Int)] 45)) (g := w.heap.size + 1) (by simp) ((four k).map bv) 5
  have HC := Lib.hid (collect_any A (some ⟨w.heap.size + 1, 0, none⟩) n 4 c 4 l (four k) _ ((h1.below hB).more hB.size) (hL.more (by simp)) (by omega))
  clear hL
  simp only [four, List.map_cons, List.map_nil] at HC
  go_wp2_with fail
  refine HC.out.mono ?_
  rintro e w2 ⟨v2, rfl, hown2, hb2⟩
  go_wp2
  go_ret
  exact ⟨_, rfl, own_base hown2 hB.size, hB.trans (hb2.mono hB.size)⟩
theorem putFour_nil (k : Nat) (w : World) (hk : k < 4294967296) :
    Calls Try.prog 16 #[.slice none 0 0, .int .u32 (k : Int)] w fun e w' => Got w 4 (four k) e w' :=
  (putFour_any none 0 0 k [] w (Lies.none_ _ _ _ _) hk (by decide)).mono fun e w' ⟨v, he, ho, hb⟩ => by
    subst he
    exact got_of (by simpa using ho) hb
theorem putFour_some (A : Option Addr) (n c k : Nat) (l : List UInt8) (w : World) (h1 : Lies w w.heap.size 1 A n (l.map bv)) (hk : k < 4294967296) (hs : n ≤ 549755813888) :
    Calls Try.prog 16 #[.slice A n c, .int .u32 (k : Int)] w fun e w' => GotS w (n + 4) (l ++ four k) e w' :=
  (putFour_any A n c k l w h1 hk hs).mono fun e w' ⟨v, he, ho, hb⟩ => by
    subst he
    exact gotS_of (by omega) ho hb

end Go.Proofs.Ytghfhojpnbpjoaa

namespace Go.Proofs.Ytghfhojpnbpjoaa
open Go.RowKit
set_option linter.unusedVariables false

/-- the number in the first four bytes -/
def getFour (l : List UInt8) : Nat × Nat :=
  match l with
  | a :: b :: c :: d :: _ => (a.toNat * 16777216 + b.toNat * 65536 + c.toNat * 256 + d.toNat, 0)
  | _ => (0, 5)
theorem gpart_any (g b o n c i x s : Nat) (w : World) (hx : x < 256) (h : Box w g 25 (.slice (some ⟨b, o, none⟩) n c)) (hi : i < n) (hn : n ≤ 4611686018427387904) (hc : w.cell? ⟨b, o + i, none⟩ = some (.int .u8 (x : Int))) (hs : s ≤ 24) :
    Calls Try.prog 50 #[.int .i64 (i : Int), .int .i64 (s : Int), .pointer (some ⟨g, 0, none⟩)] w fun e w' => e = .returned (.int .u32 ((x * 2 ^ s : Nat) : Int)) ∧ w = w' := by
  have hcb := h.cell
  have hp : 2 ^ s ≤ 2 ^ 24 := Nat.pow_le_pow_right (by decide) hs
  have hm : x * 2 ^ s ≤ 255 * 2 ^ 24 := Nat.mul_le_mul (by omega) hp
  have hwr : IntKind.u32.wrap ((x : Int) * 2 ^ s) = ((x * 2 ^ s : Nat) : Int) := by
    rw [IntKind.wrap_u32']
    have : ((x * 2 ^ s : Nat) : Int) = (x : Int) * 2 ^ s := by simp
    rw [← this]
    omega
  generalize x * 2 ^ s = r at *
  go_enter Try.func50, Try.ntmps50
  go_wp2
  go_ret
  exact ⟨rfl, rfl⟩

theorem or32 (a b sh : Nat) (hb : b < 2 ^ sh) (h : a * 2 ^ sh + b < 4294967296) : bits .or .u32 ((a * 2 ^ sh : Nat) : Int) (b : Int) = ((a * 2 ^ sh + b : Nat) : Int) := by
  rw [u32_or_nat (a * 2 ^ sh) b (by omega) (by omega)]
  have e := Nat.two_pow_add_eq_or_of_lt (i := sh) (b := b) hb a
  rw [Nat.mul_comm (2 ^ sh) a] at e
  rw [← e]

set_option maxHeartbeats 1000000 in
theorem getFour_yes (A : Option Addr) (n c : Nat) (x0 x1 x2 x3 : UInt8) (l : List UInt8) (w : World) (h : Lies w w.heap.size 1 A n ((x0 :: x1 :: x2 :: x3 :: l).map bv)) (hnc : n ≤ c) (hn : n ≤ 4611686018427387904) :
    Calls Try.prog 27 #[.slice A n c] w fun e w' => e = .returned (.tuple #[.int .u32 ((x0.toNat * 16777216 + x1.toNat * 65536 + x2.toNat * 256 + x3.toNat : Nat) : Int), .int .i64 0]) ∧ Below w.heap.size w w' := by
  have hmf : ∀ (fn : Fn) (first cap : Array Value) (w : World), (Instr.makeFunc fn first cap).run Try.prog w = .ok (.func fn first cap) w := fun _ _ _ _ => rfl
  have hl4 : 4 ≤ n := by have := h.len; simp at this; omega
  obtain ⟨b, o, u, rfl, hbB, hu0, hc0⟩ := h.at_ (j := 0) (by omega)
  have hcell : ∀ (i : Nat) (x : UInt8), (x0 :: x1 :: x2 :: x3 :: l)[i]? = some x → w.cell? ⟨b, o + i, none⟩ = some (.int .u8 (x.toNat : Int)) := by
    intro i x hx
    obtain ⟨ad, v, e, _, hv, hcc⟩ := h.spot i (by rcases List.getElem?_eq_some_iff.1 hx with ⟨hh, _⟩; simpa using hh)
    injection e with e
    subst e
    rw [add_lit] at hcc
    rw [List.getElem?_map, hx] at hv
    injection hv with hv
    rw [hcc, ← hv]
  have hW : ∀ (i : Nat) (x : UInt8), (x0 :: x1 :: x2 :: x3 :: l)[i]? = some x → (w.alloc (.cells #[.slice (some ⟨b, o, none⟩) n c] 25)).cell? ⟨b, o + i, none⟩ = some (.int .u8 (x.toNat : Int)) :=
    fun i x hx => (World.cell?_alloc_lt w _ _ hbB).trans (hcell i x hx)
  have hbox := Box.new w 25 (.slice (some ⟨b, o, none⟩) n c)
  have y0 := x0.toNat_lt
  have y1 := x1.toNat_lt
  have y2 := x2.toNat_lt
  have y3 := x3.toNat_lt
  have p0 := Lib.hid (gpart_any _ b o n c 0 x0.toNat 24 _ y0 hbox (by omega) hn (hW 0 x0 rfl) (by decide))
  have p1 := Lib.hid (gpart_any _ b o n c 1 x1.toNat 16 _ y1 hbox (by omega) hn (hW 1 x1 rfl) (by decide))
  have p2 := Lib.hid (gpart_any _ b o n c 2 x2.toNat 8 _ y2 hbox (by omega) hn (hW 2 x2 rfl) (by decide))
  have p3 := Lib.hid (gpart_any _ b o n c 3 x3.toNat 0 _ y3 hbox (by omega) hn (hW 3 x3 rfl) (by decide))
  have e1 : bits .or .u32 ((x0.toNat * 2 ^ 24 : Nat) : Int) ((x1.toNat * 2 ^ 16 : Nat) : Int) = ((x0.toNat * 2 ^ 24 + x1.toNat * 2 ^ 16 : Nat) : Int) := or32 x0.toNat (x1.toNat * 2 ^ 16) 24 (by omega) (by omega)
  have e2 : bits .or .u32 ((x0.toNat * 2 ^ 24 + x1.toNat * 2 ^ 16 : Nat) : Int) ((x2.toNat * 2 ^ 8 : Nat) : Int) = ((x0.toNat * 2 ^ 24 + x1.toNat * 2 ^ 16 + x2.toNat * 2 ^ 8 : Nat) : Int) := by
    have := or32 (x0.toNat * 2 ^ 8 + x1.toNat) (x2.toNat * 2 ^ 8) 16 (by omega) (by omega)
    have e : (x0.toNat * 2 ^ 8 + x1.toNat) * 2 ^ 16 = x0.toNat * 2 ^ 24 + x1.toNat * 2 ^ 16 := by omega
    rw [e] at this; exact this
  have e3 : bits .or .u32 ((x0.toNat * 2 ^ 24 + x1.toNat * 2 ^ 16 + x2.toNat * 2 ^ 8 : Nat) : Int) ((x3.toNat * 2 ^ 0 : Nat) : Int) = ((x0.toNat * 16777216 + x1.toNat * 65536 + x2.toNat * 256 + x3.toNat : Nat) : Int) := by
    have := or32 (x0.toNat * 2 ^ 16 + x1.toNat * 2 ^ 8 + x2.toNat) x3.toNat 8 (by omega) (by omega)
    have e : (x0.toNat * 2 ^ 16 + x1.toNat * 2 ^ 8 + x2.toNat) * 2 ^ 8 = x0.toNat * 2 ^ 24 + x1.toNat * 2 ^ 16 + x2.toNat * 2 ^ 8 := by omega
    rw [e] at this
    rw [show x3.toNat * 2 ^ 0 = x3.toNat from by omega, this]
  have B1 : Below w.heap.size w (w.alloc (.cells #[.slice (some ⟨b, o, none⟩) n c] 25)) := (Below.refl _ _).alloc (Nat.le_refl _) _
  obtain ⟨a0, h0⟩ : ∃ a, x0.toNat * 2 ^ 24 = a := ⟨_, rfl⟩
  obtain ⟨a1, h1⟩ : ∃ a, x1.toNat * 2 ^ 16 = a := ⟨_, rfl⟩
  obtain ⟨a2, h2⟩ : ∃ a, x2.toNat * 2 ^ 8 = a := ⟨_, rfl⟩
  obtain ⟨a3, h3⟩ : ∃ a, x3.toNat * 2 ^ 0 = a := ⟨_, rfl⟩
  obtain ⟨r, hr⟩ : ∃ a, x0.toNat * 16777216 + x1.toNat * 65536 + x2.toNat * 256 + x3.toNat = a := ⟨_, rfl⟩
  rw [hr] at e3 ⊢
  rw [h0] at p0 e1 e2 e3
  rw [h1] at p1 e1 e2 e3
  rw [h2] at p2 e2 e3
  rw [h3] at p3 e3
  clear h0 h1 h2 h3 hr hcell hW hbox h hc0 hu0 y0 y1 y2 y3
  generalize hs01 : a0 + a1 = s01 at *
  generalize hs02 : s01 + a2 = s02 at *
  clear hs01 hs02
  go_enter Try.func27, Try.ntmps27
  go_wp2_with fail
  refine p0.out.mono ?_
  rintro e w1 ⟨rfl, rfl⟩
  go_wp2_with fail
  refine p1.out.mono ?_
  rintro e w1 ⟨rfl, rfl⟩
  go_wp2_with fail
  refine p2.out.mono ?_
  rintro e w1 ⟨rfl, rfl⟩
  go_wp2_with fail
  refine p3.out.mono ?_
  rintro e w1 ⟨rfl, rfl⟩
  clear p0 p1 p2 p3
  go_wp2
  go_ret2
  exact ⟨rfl, B1⟩
theorem getFour_no (A : Option Addr) (n c : Nat) (w : World) (hn : n < 4) :
    Calls Try.prog 27 #[.slice A n c] w fun e w' => e = .returned (.tuple #[.int .u32 0, .int .i64 5]) ∧ Below w.heap.size w w' := by
  go_enter Try.func27, Try.ntmps27
  go_wp2
  go_ret2
  exact ⟨rfl, (Below.refl _ _).alloc (Nat.le_refl _) _⟩
theorem getFour_any (A : Option Addr) (n c : Nat) (l : List UInt8) (w : World) (h : Lies w w.heap.size 1 A n (l.map bv)) (hnc : n ≤ c) (hn : n ≤ 4611686018427387904) :
    Calls Try.prog 27 #[.slice A n c] w fun e w' => e = .returned (.tuple #[.int .u32 ((getFour l).1 : Int), .int .i64 ((getFour l).2 : Int)]) ∧ Below w.heap.size w w' := by
  have hln : l.length = n := by simpa using h.len
  match l, h, hln with
  | x0 :: x1 :: x2 :: x3 :: l, h, _ => exact getFour_yes A n c x0 x1 x2 x3 l w h hnc hn
  | [], _, hln => exact getFour_no A n c w (by simp at hln; omega)
  | [_], _, hln => exact getFour_no A n c w (by simp at hln; omega)
  | [_, _], _, hln => exact getFour_no A n c w (by simp at hln; omega)
  | [_, _, _], _, hln => exact getFour_no A n c w (by simp at hln; omega)
theorem getFour_short (l : List UInt8) (h : l.length < 4) : getFour l = (0, 5) := by
  match l, h with
  | [], _ => rfl
  | [_], _ => rfl
  | [_, _], _ => rfl
  | [_, _, _], _ => rfl
theorem getFour_four (k : Nat) (r : List UInt8) (hk : k < 4294967296) : getFour (four k ++ r) = (k, 0) := by
  unfold four getFour
  simp only [List.cons_append]
  rw [Vi.toNat_ofNat _ (by omega), Vi.toNat_ofNat _ (by omega), Vi.toNat_ofNat _ (by omega), Vi.toNat_ofNat _ (by omega)]
  congr 1
  omega

end Go.Proofs.Ytghfhojpnbpjoaa

namespace Go.Proofs.Ytghfhojpnbpjoaa
open Go.RowKit
set_option linter.unusedVariables false
set_option maxRecDepth 100000

/-- the sum of a length's four bytes and a record -/
def csum (h r : List UInt8) : Nat := Crc.on Crc.tab (Crc.on Crc.tab 0 h) r
theorem csum_lt (h r : List UInt8) : csum h r < 4294967296 := Crc.on_lt _ _ _
/-- a record's frame -/
def fr (r : List UInt8) : List UInt8 := four r.length ++ (four (csum (four r.length) r) ++ r)
theorem four_len (k : Nat) : (four k).length = 4 := rfl
theorem fr_len (r : List UInt8) : (fr r).length = r.length + 8 := by unfold fr; simp only [List.length_append, four_len]; omega

set_option maxHeartbeats 1000000 in
theorem checksum_any (A : Option Addr) (n c : Nat) (l : List UInt8) (w : World) (h : Lies w w.heap.size 1 A n (l.map bv)) (h8 : 8 ≤ n) (hnc : n ≤ c) (hn : n ≤ 1099511627776) :
    Calls Try.prog 28 #[.slice A n c] w fun e w' => e = .returned (.int .u32 (csum (l.take 4) (l.drop 8) : Int)) ∧ Below w.heap.size w w' := by
  have HL := Lib.hid h; clear h
  have c1 : ∀ w, (Instr.slice 25 (.slice A n c) none (some (.int .i64 4)) (some (.int .i64 4))).run Try.prog w = .ok (.slice A 4 4) w := fun w => run_head3 w A n c 4 4 (Nat.le_refl _) (by omega)
  have c2 : ∀ w, (Instr.slice 25 (.slice A n c) (some (.int .i64 8)) (some (.int .i64 (n : Int))) (some (.int .i64 (n : Int)))).run Try.prog w = .ok (.slice (cutA A n 8) (n - 8) (n - 8)) w := fun w => run_cut3 w A n c 8 n n h8 (Nat.le_refl _) hnc
  go_enter Try.func28, Try.ntmps28
  go_wp2_with fail
  refine (table_any w).mono ?_
  rintro e w1 ⟨rfl, hb1⟩
  have HB1 := Lib.hid (lay_below hb1 hb1.size Crc.tab)
  have HT := Lib.hid (lay_tab w1 Crc.tab)
  clear hb1
  go_wp2_with (first
    | refine wpList_lay rfl rfl ?_
    | refine wpList_laid rfl _ _ rfl noughts Crc.tab rfl rfl noughts_len Crc.tab_len ?_)
  refine (of_any w1.heap.size 4 4 w.heap.size A (l.take 4) Crc.tab (lay w1 Crc.tab) HT.out Crc.tab_len Crc.small_tab ?_ (by omega)).mono ?_
  · have := (HL.out.below HB1.out).take_ (m := 4) (by omega)
    rw [List.map_take]; exact this
  rintro e w2 ⟨rfl, rfl⟩
  go_wp2_with fail
  refine (on_any w1.heap.size _ (n - 8) (n - 8) w.heap.size (cutA A n 8) (l.drop 8) Crc.tab _ HT.out Crc.tab_len Crc.small_tab (Crc.on_lt _ _ _) ?_ (by omega)).mono ?_
  · exact (HL.out.below HB1.out).part h8
  rintro e w2 ⟨rfl, rfl⟩
  go_wp2
  go_ret
  exact ⟨rfl, HB1.out⟩
end Go.Proofs.Ytghfhojpnbpjoaa

namespace Go.Proofs.Ytghfhojpnbpjoaa
open Go.RowKit
set_option linter.unusedVariables false
set_option maxRecDepth 100000

theorem lay1 (a r : List UInt8) (ha : a.length = 4) : over (List.replicate (8 + r.length) 0) 0 a = a ++ (List.replicate 4 0 ++ List.replicate r.length 0) := by
  unfold over
  rw [List.take_zero, List.nil_append, List.drop_replicate, List.replicate_append_replicate, ha]
  congr 2
  omega
theorem lay2 (a z y r : List UInt8) (ha : a.length = 4) (hz : z.length = 4) (hy : y.length = r.length) : over (a ++ (z ++ y)) 8 r = a ++ (z ++ r) := by
  unfold over
  have e1 : (a ++ (z ++ y)).take 8 = a ++ z := by
    rw [← List.append_assoc, List.take_append_of_le_length (by simp; omega), List.take_of_length_le (by simp; omega)]
  rw [e1, List.drop_eq_nil_of_le (by simp; omega), List.append_nil, List.append_assoc]
theorem lay3 (a z b r : List UInt8) (ha : a.length = 4) (hz : z.length = 4) (hb : b.length = 4) : over (a ++ (z ++ r)) 4 b = a ++ (b ++ r) := by
  unfold over
  rw [List.take_append_of_le_length (by omega), List.take_of_length_le (by omega), hb, ← List.append_assoc a z r, List.drop_append, List.drop_eq_nil_of_le (by simp; omega), List.nil_append, List.append_assoc]
  rw [show 4 + 4 - (a ++ z).length = 0 from by simp; omega, List.drop_zero]

theorem framesPut_bad (A : Option Addr) (n c : Nat) (w : World) (hn : 65536 < n) (hm : n ≤ 1099511627776) :
    Calls Try.prog 75 #[.slice A n c] w fun e w' => e = .returned (.tuple #[.slice none 0 0, .int .i64 3]) ∧ w' = w := by
  go_enter Try.func75, Try.ntmps75
  go_wp2
  go_ret2
  exact ⟨rfl, rfl⟩

def Fine (_ : World) : Prop := True
theorem fine (w : World) : Fine w := trivial

set_option maxHeartbeats 2000000 in
theorem framesPut_ok (A : Option Addr) (n c : Nat) (r : List UInt8) (w : World) (h : Lies w w.heap.size 1 A n (r.map bv)) (hn : n ≤ 65536) :
    Calls Try.prog 75 #[.slice A n c] w fun e w' => ∃ g, e = .returned (.tuple #[.slice (some ⟨g, 0, none⟩) (n + 8) (n + 8), .int .i64 0]) ∧
      w'.ownsRow w.heap.size 5 1 (.slice (some ⟨g, 0, none⟩) (n + 8) (n + 8)) (n + 8) ((fr r).map bv) ∧ Below w.heap.size w w' := by
  have hr := h.blen
  have HL := Lib.hid h; clear h
  have hw1 : IntKind.u32.wrap (n : Int) = (n : Int) := by rw [IntKind.wrap_u32']; omega
  go_enter Try.func75, Try.ntmps75
  go_wp2_with (at_make; refine wpList_makeB _ rfl _ _ rfl _ _ _ _ (n + 8) rfl rfl (by omega) (by omega) (by omega) ?_; intro w1 hown1 hg1)
  have hb1 : Below w.heap.size w w1 := (Below.refl _ _).grown hg1 (Nat.le_refl _) (by simp)
  clear hg1
  have HB1 := Lib.hid hb1; clear hb1
  have HO1 := Lib.hid hown1; clear hown1
  have cut1 : ∀ W, (Instr.slice 25 (.slice (some ⟨w.heap.size, 0, none⟩) (n + 8) (n + 8)) (some (.int .i64 8)) none none).run Try.prog W = .ok (.slice (cutA (some ⟨w.heap.size, 0, none⟩) (n + 8) 8) n n) W := fun W => by
    have := run_cut W (some ⟨w.heap.size, 0, none⟩) (n + 8) (n + 8) 8 (by omega)
    rw [Nat.add_sub_cancel] at this; exact this
  have cut2 : ∀ W, (Instr.slice 25 (.slice (some ⟨w.heap.size, 0, none⟩) (n + 8) (n + 8)) (some (.int .i64 4)) (some (.int .i64 8)) (some (.int .i64 8))).run Try.prog W = .ok (.slice (some ⟨w.heap.size, 4, none⟩) 4 4) W := fun W => run_cut3 W (some ⟨w.heap.size, 0, none⟩) (n + 8) (n + 8) 4 8 8 (by omega) (by omega) (by omega)
  go_wp2_with fail
  refine (putFour_nil n w1 (by omega)).mono ?_
  rintro e w2 ⟨A2, c2, rfl, _, _, hown2, hb2⟩
  have O2 := own_below HO1.out hb2
  have HB2 := Lib.hid (HB1.out.trans (hb2.mono HB1.out.size)); clear hb2 HB1 HO1
  go_wp2_with (refine wpList_copyIn rfl (.tmp 12) (.tmp 16) rfl w.heap.size w.heap.size (n + 8) (n + 8) 0 (n + 8) (n + 8) _ rfl O2 w2.heap.size A2 4 c2 ((four n).map bv) rfl (Lies.of_own hown2) (bv_one _) (by omega) (by omega) ?_)
  intro w3 O3 hg3
  have hb3 : Below w.heap.size w w3 := HB2.out.grown hg3 HB2.out.size (fun k hk => by injection hk with hk; omega)
  have HB3 := Lib.hid hb3
  have O3' : w3.ownsRow w.heap.size 5 1 (.slice (some ⟨w.heap.size, 0, none⟩) (n + 8) (n + 8)) (n + 8) ((four n ++ (List.replicate 4 0 ++ List.replicate n 0)).map bv) := by
    have e := lay1 (four n) r rfl
    rw [hr, Nat.add_comm 8 n] at e
    rw [← e, over_map, List.map_replicate]; exact O3
  obtain ⟨X, hX⟩ : ∃ X, four n ++ (List.replicate 4 0 ++ List.replicate n 0) = X := ⟨_, rfl⟩
  rw [hX] at O3'
  have HX3 := Lib.hid hX; clear hX
  have L3 := Lib.hid ((HL.out.below hb3).more hb3.size)
  clear hb3 hg3 O3 O2 hown2 HB2
  go_wp2_with (refine wpList_copyAt rfl (.tmp 19) (.tmp 20) rfl w.heap.size w.heap.size (n + 8) (n + 8) 8 n n (n + 8) _ rfl O3' (by omega) w3.heap.size A n c (r.map bv) rfl L3.out (bv_one _) (by omega) (by omega) ?_)
  intro w4 O4 hg4
  have hb4 : Below w.heap.size w w4 := HB3.out.grown hg4 HB3.out.size (fun k hk => by injection hk with hk; omega)
  have HB4 := Lib.hid hb4
  have O4' : w4.ownsRow w.heap.size 5 1 (.slice (some ⟨w.heap.size, 0, none⟩) (n + 8) (n + 8)) (n + 8) ((four n ++ (List.replicate 4 0 ++ r)).map bv) := by
    rw [← lay2 (four n) (List.replicate 4 0) (List.replicate n 0) r rfl (by simp) (by simp [hr]), HX3.out, over_map]; exact O4
  have CS := checksum_any (some ⟨w.heap.size, 0, none⟩) (n + 8) (n + 8) _ w4.drew (Lies.of_own O4').drew (by omega) (Nat.le_refl _) (by omega)
  have e4 : (four n ++ (List.replicate 4 0 ++ r)).take 4 = four n := rfl
  have e8 : (four n ++ (List.replicate 4 0 ++ r)).drop 8 = r := rfl
  rw [e4, e8] at CS
  have HCS := Lib.hid CS
  have HO4 := Lib.hid O4'
  have HS : Hid (csum (four n) r < 4294967296) := csum_lt _ _
  obtain ⟨s, hs⟩ : ∃ s, csum (four n) r = s := ⟨_, rfl⟩
  rw [hs] at HCS HS
  have HX := Lib.hid hs
  clear hb4 hg4 O4 O4' HX3 O3' L3 HB3 CS e4 e8 hs cut1
  go_wp2_with fail
  go_region_held3 (fun w' => Fine w') (exact fine _)
    (first
    | (go_at_call 28; refine HCS.out.mono ?_; rintro e w5 ⟨rfl, hb5⟩)
    | (go_at_call 16; refine (putFour_nil s _ HS.out).mono ?_; rintro e w6 ⟨A6, c6, rfl, _, _, hown6, hb6⟩; obtain ⟨w7, hcp, O7, hg7⟩ := run_copyIn w6 w.heap.size 3 w.heap.size (n + 8) (n + 8) 4 4 4 _ (own_below (own_below (w := w4.drew) HO4.out hb5) hb6) w6.heap.size A6 4 c6 ((four s).map bv) (Lies.of_own hown6) (bv_one _) (Nat.le_refl _) (by omega))
    | fail)
  have hb6' : Below w.heap.size w w6 := (below_drew HB4.out).trans ((hb5.mono HB4.out.size).trans (hb6.mono (Nat.le_trans HB4.out.size hb5.size)))
  have hb7 : Below w.heap.size w w7 := hb6'.grown hg7 hb6'.size (fun k hk => by injection hk with hk; omega)
  have O7' : w7.ownsRow w.heap.size 5 1 (.slice (some ⟨w.heap.size, 0, none⟩) (n + 8) (n + 8)) (n + 8) ((fr r).map bv) := by
    have e : fr r = over (four n ++ (List.replicate 4 0 ++ r)) 4 (four s) := by
      rw [lay3 (four n) (List.replicate 4 0) (four s) r rfl (by simp) rfl]
      unfold fr
      rw [hr, HX.out]
    rw [e, over_map]; exact O7
  have HO7 := Lib.hid O7'; have HB7 := Lib.hid hb7
  clear O7' hb7 O7 hg7 hcp hb6' hb6 hb5 hown6 HO4 HCS cut2 HB4
  go_wp2
  go_ret2
  exact ⟨_, rfl, HO7.out, HB7.out⟩
end Go.Proofs.Ytghfhojpnbpjoaa

namespace Go.Proofs.Ytghfhojpnbpjoaa
open Go.RowKit
set_option linter.unusedVariables false
set_option maxRecDepth 100000

/-- the length that a frame tells -/
def flen (l : List UInt8) : Nat := (getFour l).1
/-- what Get answers: the record, how many bytes it took, the error -/
def gotF (l : List UInt8) : List UInt8 × Nat × Nat :=
  if l.length < 8 then ([], 0, 5)
  else if 65536 < flen l then ([], 0, 4)
  else if l.length < 8 + flen l then ([], 0, 5)
  else if flen (l.drop 4) ≠ csum (l.take 4) ((l.drop 8).take (flen l)) then ([], 0, 4)
  else ((l.drop 8).take (flen l), 8 + flen l, 0)
theorem flen_lt (l : List UInt8) : flen l < 4294967296 := by
  unfold flen getFour
  split
  · rename_i a b c d _
    have := a.toNat_lt; have := b.toNat_lt; have := c.toNat_lt; have := d.toNat_lt
    show a.toNat * 16777216 + b.toNat * 65536 + c.toNat * 256 + d.toNat < 4294967296
    omega
  · decide
theorem getFour_yes2 (l : List UInt8) (h : 4 ≤ l.length) : getFour l = (flen l, 0) := by
  match l, h with
  | a :: b :: c :: d :: l, _ => rfl

/-- what was answered: the record in new memory, how many bytes it took, the error -/
def GotF (w : World) (r : List UInt8) (t e : Nat) (en : Ending) (w' : World) : Prop :=
  ∃ v, en = .returned (.tuple #[v, .int .i64 (t : Int), .int .i64 (e : Int)]) ∧ w'.ownsRow w.heap.size 5 1 v r.length (r.map bv) ∧ Below w.heap.size w w'
theorem own_empty (w : World) (base : Nat) : w.ownsRow base 5 1 (.slice none 0 0) 0 (([] : List UInt8).map bv) := ⟨rfl, .inl ⟨rfl, rfl⟩⟩

theorem framesGet_a (A : Option Addr) (n c : Nat) (w : World) (hn : n < 8) :
    Calls Try.prog 10 #[.slice A n c] w fun e w' => GotF w [] 0 5 e w' := by
  go_enter Try.func10, Try.ntmps10
  go_wp2
  go_ret3
  exact ⟨_, rfl, own_empty _ _, Below.refl _ _⟩

set_option maxHeartbeats 1000000 in
theorem framesGet_b (A : Option Addr) (n c : Nat) (l : List UInt8) (w : World) (h : Lies w w.heap.size 1 A n (l.map bv)) (hnc : n ≤ c) (hn : n ≤ 4611686018427387904) (h8 : 8 ≤ n) (hk : 65536 < flen l) :
    Calls Try.prog 10 #[.slice A n c] w fun e w' => GotF w [] 0 4 e w' := by
  have H := getFour_any A n c l w h hnc hn
  rw [getFour_yes2 l (by have := h.blen; omega)] at H
  have HF := Lib.hid H; clear H h
  have hkl := flen_lt l
  generalize flen l = k at *
  go_enter Try.func10, Try.ntmps10
  go_wp2_with fail
  refine HF.out.mono ?_
  rintro e w1 ⟨rfl, hb1⟩
  go_wp2
  go_ret3
  exact ⟨_, rfl, own_empty _ _, hb1⟩

set_option maxHeartbeats 1000000 in
theorem framesGet_c (A : Option Addr) (n c : Nat) (l : List UInt8) (w : World) (h : Lies w w.heap.size 1 A n (l.map bv)) (hnc : n ≤ c) (hn : n ≤ 4611686018427387904) (h8 : 8 ≤ n) (hk : flen l ≤ 65536) (hs : n < 8 + flen l) :
    Calls Try.prog 10 #[.slice A n c] w fun e w' => GotF w [] 0 5 e w' := by
  have H := getFour_any A n c l w h hnc hn
  rw [getFour_yes2 l (by have := h.blen; omega)] at H
  have HF := Lib.hid H; clear H h
  have hkl := flen_lt l
  generalize flen l = k at *
  go_enter Try.func10, Try.ntmps10
  go_wp2_with fail
  refine HF.out.mono ?_
  rintro e w1 ⟨rfl, hb1⟩
  go_wp2
  go_ret3
  exact ⟨_, rfl, own_empty _ _, hb1⟩

set_option maxHeartbeats 2000000 in
theorem framesGet_d (A : Option Addr) (n c : Nat) (l : List UInt8) (w : World) (h : Lies w w.heap.size 1 A n (l.map bv)) (hnc : n ≤ c) (hn : n ≤ 4611686018427387904) (h8 : 8 ≤ n) (hk : flen l ≤ 65536) (hs : 8 + flen l ≤ n) :
    Calls Try.prog 10 #[.slice A n c] w fun e w' => if flen (l.drop 4) ≠ csum (l.take 4) ((l.drop 8).take (flen l)) then GotF w [] 0 4 e w' else GotF w ((l.drop 8).take (flen l)) (8 + flen l) 0 e w' := by
  have hln := h.blen
  have H := getFour_any A n c l w h hnc hn
  rw [getFour_yes2 l (by omega)] at H
  have HF := Lib.hid H; clear H
  obtain ⟨k, hkk⟩ : ∃ k, flen l = k := ⟨_, rfl⟩
  rw [hkk] at hk hs HF ⊢
  have HK := Lib.hid hkk; clear hkk
  have L1 : Lies w w.heap.size 1 A (8 + k) ((l.take (8 + k)).map bv) := lies_take h hs
  have e1 : (l.take (8 + k)).take 4 = l.take 4 := by rw [List.take_take]; congr 1; omega
  have e2 : (l.take (8 + k)).drop 8 = (l.drop 8).take k := by rw [List.drop_take]; congr 1; omega
  have e3 : flen ((l.take (8 + k)).drop 4) = flen (l.drop 4) := by
    match l, hln with
    | _ :: _ :: _ :: _ :: x0 :: x1 :: x2 :: x3 :: l', _ => rw [Nat.add_comm 8 k]; rfl
    | [], h | [_], h | [_, _], h | [_, _, _], h | [_, _, _, _], h | [_, _, _, _, _], h | [_, _, _, _, _, _], h | [_, _, _, _, _, _, _], h => simp at h; omega
  have hlt : (l.take (8 + k)).length = 8 + k := by simp; omega
  obtain ⟨f, hf⟩ : ∃ f, l.take (8 + k) = f := ⟨_, rfl⟩
  rw [hf] at L1 e1 e2 e3 hlt
  rw [← e1, ← e2, ← e3]
  have HL := Lib.hid L1
  have HLT := Lib.hid hlt
  clear h L1 e1 e2 e3 hln hf hlt
  obtain ⟨s, hs2⟩ : ∃ s, flen (f.drop 4) = s := ⟨_, rfl⟩
  obtain ⟨t, ht⟩ : ∃ t, csum (f.take 4) (f.drop 8) = t := ⟨_, rfl⟩
  have hsl : s < 4294967296 := by rw [← hs2]; exact flen_lt _
  have htl : t < 4294967296 := by rw [← ht]; exact csum_lt _ _
  rw [hs2, ht]
  have HS := Lib.hid hs2; have HT := Lib.hid ht
  have hcut0 : ∀ W, (Instr.slice 25 (.slice A n c) none (some (.int .i64 (8 + (k : Int)))) (some (.int .i64 (8 + (k : Int))))).run Try.prog W = .ok (.slice A (8 + k) (8 + k)) W := fun W => by
    have := run_head3 W A n c (8 + k) (8 + k) (Nat.le_refl _) (by omega)
    rw [show ((8 + k : Nat) : Int) = 8 + (k : Int) from by omega] at this; exact this
  have hcut1 : ∀ W, (Instr.slice 25 (.slice A (8 + k) (8 + k)) (some (.int .i64 4)) none none).run Try.prog W = .ok (.slice (cutA A (8 + k) 4) (4 + k) (4 + k)) W := fun W => by
    have := run_cut W A (8 + k) (8 + k) 4 (by omega)
    rw [show 8 + k - 4 = 4 + k from by omega] at this; exact this
  have hcut2 : ∀ W, (Instr.slice 25 (.slice A (8 + k) (8 + k)) (some (.int .i64 8)) none none).run Try.prog W = .ok (.slice (cutA A (8 + k) 8) k k) W := fun W => by
    have := run_cut W A (8 + k) (8 + k) 8 (by omega)
    rw [show 8 + k - 8 = k from by omega] at this; exact this
  clear hs2 ht
  go_enter Try.func10, Try.ntmps10
  go_wp2_with fail
  refine HF.out.mono ?_
  rintro e w1 ⟨rfl, hb1⟩
  have HB1 := Lib.hid hb1
  clear hb1 HF
  have G2 := getFour_any (cutA A (8 + k) 4) (4 + k) (4 + k) (f.drop 4) w1 (by
    have := ((HL.out.below HB1.out).more HB1.out.size).cutA (m := 4) (c := 8 + k) (by omega) (Nat.le_refl _)
    rw [show 8 + k - 4 = 4 + k from by omega] at this; exact this) (Nat.le_refl _) (by omega)
  rw [getFour_yes2 _ (by simp; have := HLT.out; omega), HS.out] at G2
  have HG2 := Lib.hid G2; clear G2
  go_wp2_with fail
  refine HG2.out.mono ?_
  rintro e w2 ⟨rfl, hb2⟩
  have HB2 := Lib.hid (HB1.out.trans (hb2.mono HB1.out.size)); clear hb2 HG2 HB1
  have CS := checksum_any A (8 + k) (8 + k) f w2 ((HL.out.below HB2.out).more HB2.out.size) (by omega) (Nat.le_refl _) (by omega)
  rw [HT.out] at CS
  have HCS := Lib.hid CS; clear CS
  go_wp2_with fail
  refine HCS.out.mono ?_
  rintro e w3 ⟨rfl, hb3⟩
  have HB3 := Lib.hid (HB2.out.trans (hb3.mono HB2.out.size)); clear hb3 HCS HB2
  by_cases hst : s = t
  · have hne : ((s : Int) != (t : Int)) = false := by simp [hst]
    have LR : Lies w3 w3.heap.size 1 (cutA A (8 + k) 8) k ((f.drop 8).map bv) := by
      have := ((HL.out.below HB3.out).more HB3.out.size).cutA (m := 8) (c := 8 + k) (by omega) (Nat.le_refl _)
      rw [show 8 + k - 8 = k from by omega] at this; exact this
    have HLR := Lib.hid LR; clear LR
    have hlr : (f.drop 8).length = k := by simp; have := HLT.out; omega
    obtain ⟨r, hr⟩ : ∃ r, f.drop 8 = r := ⟨_, rfl⟩
    rw [hr] at HLR hlr
    have HR := Lib.hid hr
    clear hr HS HT HLT
    go_wp2_with (at_make; refine wpList_makeB _ rfl _ _ rfl _ _ _ _ k rfl rfl (by omega) (by omega) (by omega) ?_)
    intro w4 hown4 hg4
    have hb4 : Below w3.heap.size w3 w4 := (Below.refl _ _).grown hg4 (Nat.le_refl _) (by simp)
    have HB4 := Lib.hid (HB3.out.trans (hb4.mono HB3.out.size))
    have L4 := Lib.hid ((HLR.out.below hb4).more hb4.size)
    clear hg4 hb4 HLR
    go_wp2_with (refine wpList_copyIn rfl (.tmp 44) (.tmp 46) rfl w3.heap.size w3.heap.size k k 0 k k _ rfl hown4 w4.heap.size (cutA A (8 + k) 8) k k (r.map bv) rfl L4.out (bv_one _) (by omega) (by omega) ?_)
    intro w5 O5 hg5
    have hb5 : Below w.heap.size w w5 := HB4.out.grown hg5 HB4.out.size (fun j hj => by injection hj with hj; have := HB3.out.size; omega)
    have O5' : w5.ownsRow w.heap.size 5 1 (.slice (some ⟨w3.heap.size, 0, none⟩) k k) k (r.map bv) := by
      have e : over ((List.replicate k (0 : UInt8)).map bv) 0 (r.map bv) = r.map bv := by
        unfold over
        rw [List.take_zero, List.nil_append, List.drop_eq_nil_of_le (by simp; omega), List.append_nil]
      rw [List.map_replicate] at e
      rw [e] at O5
      exact own_base O5 HB3.out.size
    have HO := Lib.hid O5'; have HB5 := Lib.hid hb5
    clear O5 O5' hb5 hg5 hown4 L4 HB4
    go_wp2
    go_ret3
    try rw [if_neg (by simpa using hst)]
    rw [HR.out]
    refine ⟨.slice (some ⟨w3.heap.size, 0, none⟩) k k, ?_, ?_, HB5.out⟩
    · rw [show ((8 + k : Nat) : Int) = 8 + (k : Int) from by omega]; rfl
    · rw [hlr]; exact HO.out
  · have hne : ((s : Int) != (t : Int)) = true := by simp; omega
    go_wp2
    go_ret3
    try rw [if_pos hst]
    exact ⟨_, rfl, own_empty _ _, HB3.out⟩

theorem framesGet_any (A : Option Addr) (n c : Nat) (l : List UInt8) (w : World) (h : Lies w w.heap.size 1 A n (l.map bv)) (hnc : n ≤ c) (hn : n ≤ 4611686018427387904) :
    Calls Try.prog 10 #[.slice A n c] w fun e w' => GotF w (gotF l).1 (gotF l).2.1 (gotF l).2.2 e w' := by
  have hl := h.blen
  unfold gotF
  rw [hl]
  by_cases h8 : n < 8
  · rw [if_pos h8]; exact framesGet_a A n c w h8
  rw [if_neg h8]
  by_cases hk : 65536 < flen l
  · rw [if_pos hk]; exact framesGet_b A n c l w h hnc hn (by omega) hk
  rw [if_neg hk]
  by_cases hs : n < 8 + flen l
  · rw [if_pos hs]; exact framesGet_c A n c l w h hnc hn (by omega) (by omega) hs
  rw [if_neg hs]
  refine (framesGet_d A n c l w h hnc hn (by omega) (by omega) (by omega)).mono fun e w' h => ?_
  by_cases he : flen (l.drop 4) ≠ csum (l.take 4) ((l.drop 8).take (flen l))
  · rw [if_pos he] at h ⊢; exact h
  · rw [if_neg he] at h ⊢; exact h
end Go.Proofs.Ytghfhojpnbpjoaa

namespace Go.Proofs.Ytghfhojpnbpjoaa
open Go.RowKit
set_option linter.unusedVariables false

theorem flen_four (k : Nat) (r : List UInt8) (hk : k < 4294967296) : flen (four k ++ r) = k := by unfold flen; rw [getFour_four k r hk]
theorem fr_drop4 (r x : List UInt8) : (fr r ++ x).drop 4 = four (csum (four r.length) r) ++ (r ++ x) := by
  unfold fr; rw [List.append_assoc, List.append_assoc]; rfl
theorem fr_take4 (r x : List UInt8) : (fr r ++ x).take 4 = four r.length := by unfold fr; rw [List.append_assoc]; rfl
theorem fr_drop8 (r x : List UInt8) : (fr r ++ x).drop 8 = r ++ x := by unfold fr; rw [List.append_assoc, List.append_assoc]; rfl
theorem fr_flen (r x : List UInt8) (h : r.length ≤ 65536) : flen (fr r ++ x) = r.length := by
  unfold fr; rw [List.append_assoc]; exact flen_four _ _ (by omega)
theorem got_fr (r x : List UInt8) (h : r.length ≤ 65536) : gotF (fr r ++ x) = (r, 8 + r.length, 0) := by
  have hl := fr_len r
  unfold gotF
  rw [fr_flen r x h, fr_drop4, fr_take4, fr_drop8, flen_four _ _ (csum_lt _ _), List.take_append_of_le_length (Nat.le_refl _), List.take_length]
  rw [if_neg (by simp; omega), if_neg (by omega), if_neg (by simp; omega), if_neg (by simp)]
theorem got_fr0 (r : List UInt8) (h : r.length ≤ 65536) : gotF (fr r) = (r, 8 + r.length, 0) := by
  have := got_fr r [] h
  rwa [List.append_nil] at this
theorem fgot_cut (r : List UInt8) (h : r.length ≤ 65536) (m : Nat) (hm : m < r.length + 8) : gotF ((fr r).take m) = ([], 0, 5) := by
  have hl := fr_len r
  have hlm : ((fr r).take m).length = m := by simp; omega
  unfold gotF
  rw [hlm]
  by_cases h8 : m < 8
  · rw [if_pos h8]
  · rw [if_neg h8]
    have e : flen ((fr r).take m) = r.length := by
      unfold fr
      rw [List.take_append, List.take_of_length_le (by rw [four_len]; omega)]
      exact flen_four _ _ (by omega)
    rw [e, if_neg (by omega), if_pos (by omega)]
theorem four_eta (a b c d : UInt8) : four (a.toNat * 16777216 + b.toNat * 65536 + c.toNat * 256 + d.toNat) = [a, b, c, d] := by
  have := a.toNat_lt; have := b.toNat_lt; have := c.toNat_lt; have := d.toNat_lt
  unfold four
  have e1 : (a.toNat * 16777216 + b.toNat * 65536 + c.toNat * 256 + d.toNat) / 16777216 = a.toNat := by omega
  have e2 : (a.toNat * 16777216 + b.toNat * 65536 + c.toNat * 256 + d.toNat) / 65536 % 256 = b.toNat := by omega
  have e3 : (a.toNat * 16777216 + b.toNat * 65536 + c.toNat * 256 + d.toNat) / 256 % 256 = c.toNat := by omega
  have e4 : (a.toNat * 16777216 + b.toNat * 65536 + c.toNat * 256 + d.toNat) % 256 = d.toNat := by omega
  rw [e1, e2, e3, e4, UInt8.ofNat_toNat, UInt8.ofNat_toNat, UInt8.ofNat_toNat, UInt8.ofNat_toNat]
theorem flen_eta (l : List UInt8) (h : 4 ≤ l.length) : four (flen l) = l.take 4 := by
  match l, h with
  | a :: b :: c :: d :: l, _ => exact four_eta a b c d
theorem flen_inj {l l' : List UInt8} (h : 4 ≤ l.length) (h' : 4 ≤ l'.length) (e : flen l = flen l') : l.take 4 = l'.take 4 := by
  rw [← flen_eta l h, ← flen_eta l' h', e]
/-- what is got is a record whose frame the bytes begin with -/
theorem fgot_back (l : List UInt8) (h : (gotF l).2.2 = 0) : (gotF l).1.length ≤ 65536 ∧ (gotF l).2.1 = (gotF l).1.length + 8 ∧ (gotF l).2.1 ≤ l.length ∧ l.take (gotF l).2.1 = fr (gotF l).1 := by
  unfold gotF at h ⊢
  by_cases h8 : l.length < 8
  · rw [if_pos h8] at h; cases h
  rw [if_neg h8] at h ⊢
  by_cases hk : 65536 < flen l
  · rw [if_pos hk] at h; cases h
  rw [if_neg hk] at h ⊢
  by_cases hs : l.length < 8 + flen l
  · rw [if_pos hs] at h; cases h
  rw [if_neg hs] at h ⊢
  by_cases hc : flen (l.drop 4) ≠ csum (l.take 4) ((l.drop 8).take (flen l))
  · rw [if_pos hc] at h; cases h
  rw [if_neg hc]
  have hc' : flen (l.drop 4) = csum (l.take 4) ((l.drop 8).take (flen l)) := Decidable.not_not.1 hc
  have hlr : ((l.drop 8).take (flen l)).length = flen l := by simp; omega
  refine ⟨by rw [hlr]; omega, by rw [hlr]; show 8 + flen l = _; omega, by show 8 + flen l ≤ _; omega, ?_⟩
  show l.take (8 + flen l) = _
  unfold fr
  rw [hlr, flen_eta l (by omega), ← hc', flen_eta (l.drop 4) (by simp; omega), List.take_add, ← List.append_assoc]
  congr 1
  rw [← List.take_add]
theorem fgot_err (l : List UInt8) : (gotF l).2.2 = 0 ∨ ((gotF l).2.2 = 4 ∨ (gotF l).2.2 = 5) ∧ gotF l = ([], 0, (gotF l).2.2) := by
  unfold gotF
  split
  · exact .inr ⟨.inr rfl, rfl⟩
  split
  · exact .inr ⟨.inl rfl, rfl⟩
  split
  · exact .inr ⟨.inr rfl, rfl⟩
  split
  · exact .inr ⟨.inl rfl, rfl⟩
  · exact .inl rfl
/-- frames of unlike records part, whatever stands behind -/
theorem fr_begin (a b x y : List UInt8) (ha : a.length ≤ 65536) (hb : b.length ≤ 65536) (h : fr a ++ x = fr b ++ y) : a = b := by
  have h1 := got_fr a x ha
  rw [h, got_fr b y hb] at h1
  injection h1 with h1 _
  exact h1.symm
theorem fr_min (a b : List UInt8) (ha : a.length ≤ 65536) (hb : b.length ≤ 65536) (n : Nat) (hn : n = min (a.length + 8) (b.length + 8)) (h : (fr a).take n = (fr b).take n) : a = b := by
  have la := fr_len a; have lb := fr_len b
  rcases Nat.le_total a.length b.length with hab | hab
  · have e : n = (fr a).length := by omega
    rw [e, List.take_length] at h
    have h2 : fr a ++ (fr b).drop (fr a).length = fr b ++ [] := by
      rw [List.append_nil]
      conv => lhs; rw [h]
      rw [List.length_take, Nat.min_eq_left (by omega)]
      exact List.take_append_drop _ _
    exact fr_begin a b _ _ ha hb h2
  · have e : n = (fr b).length := by omega
    rw [e, List.take_length] at h
    have h2 : fr a ++ [] = fr b ++ (fr a).drop (fr b).length := by
      rw [List.append_nil]
      conv => rhs; rw [← h]
      rw [List.length_take, Nat.min_eq_left (by omega)]
      exact (List.take_append_drop _ _).symm
    exact fr_begin a b _ _ ha hb h2
end Go.Proofs.Ytghfhojpnbpjoaa

