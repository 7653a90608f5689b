/-
  append of bytes onto a row of the call's own, after which the old slice is read still.
  Contracts of layer 8's helper entry, and what its alive calls.
  bucketlinelaw08's alive answers true.
-/
import Derived.Test.YtiodiiedgmobjaaMem
import Derived.Test.YtiodiiedgmobjaaBkPQ
import Derived.Test.YtiodiiedgmobjaaBkNR
namespace Go.Proofs.Ytiodiiedgmobjaa
open Go.RowKit
set_option linter.unusedVariables false
set_option maxRecDepth 100000

theorem wpList_app8 (w : World) {ops : Array Oper} {rest : List Oper} {o : Oper} {a : Act} {Q : Exit → Act → World → Prop} (hgd : o.guard = none) (s x : Operand)
    (ho : o.op = .call { callee := .builtin .append, args := #[s, x], argTypes := #[23, 23] })
    (base : Nat) (A : Option Addr) (n c : Nat) (l : List UInt8) (hs : a.eval s = .slice A n c) (hown : w.ownsRow base 5 1 (.slice A n c) n (l.map bv))
    (ad : Addr) (m c2 : Nat) (l2 : List UInt8) (hx : a.eval x = .slice (some ad) m c2) (hl2 : l2.length = m) (hm : 0 < m) (hc : ∀ j u, (l2.map bv)[j]? = some u → w.cell? (ad.add j) = some u)
    (h63 : n + m ≤ 1000000) (hbase : base ≤ w.heap.size)
    (h : ∀ A' c' w', w'.ownsRow base 5 1 (.slice A' (n + m) c') (n + m) ((l ++ l2).map bv) → w.grownBy w' (Value.slice A n c).ownBlock → Lies w' w'.heap.size 1 A n (l.map bv) → n + m ≤ c' → c' ≤ maxLen →
      wpList Try.prog ops Q rest (a.put o.dst (.slice A' (n + m) c')) w') : wpList Try.prog ops Q (o :: rest) a w := by
  obtain ⟨i0, hi, hz0, hz1, hz2⟩ := info_parts byte_info
  have hmap : (l ++ l2).map bv = l.map bv ++ l2.map bv := List.map_append
  have hln : l.length = n := by have := hown.1; simpa using this
  obtain ⟨A0, c0, hv, hnc, hcm, hA⟩ := own_shape hown
  injection hv with e1 e2 e3
  subst e1 e3
  by_cases hfit : n + m ≤ c
  · have h0 := hown
    rcases h0.2 with ⟨hv, hn0⟩ | ⟨g, cap, cur, hv, hb, hh, h1, h2, _⟩
    · injection hv with e1 e2 e3
      omega
    · injection hv with e1 e2 e3
      subst e1 e3
      refine wpList_append_fits w hgd s x 23 ho base 5 i0 1 Try.underlying23 hi hz1 g n c (l.map bv) hs hown ad m c2 (l2.map bv) hx (by rw [List.length_map, hl2]; omega) hc (bv_one l2) hfit ?_
      intro w' ho' hg'
      refine h (some ⟨g, 0, none⟩) c w' (by rw [hmap]; exact ho') hg' ?_ hfit hcm
      have := lies_take (m := n) (Lies.of_own (by rw [← hmap] at ho'; exact ho')) (by omega)
      rw [List.take_append_of_le_length (by omega), List.take_of_length_le (by omega)] at this
      exact this
  · refine wpList_append_grows w hgd s x 23 ho 5 i0 _ 1 1 Try.underlying23 hi hz0 hz1 hz2 rfl (by decide) A n c (l.map bv) hs (fun e => ⟨by have := hA.1 e; omega, hA.1 e⟩) (by rw [List.length_map, hln]; omega) ?_ ad m c2 (l2.map bv) hx (by rw [List.length_map, hl2]; omega) hc (bv_one l2) (by omega) (by unfold maxLen; omega) (by omega) ?_
    · intro b e j u hu
      subst e
      obtain ⟨ad', u', e', _, hx', hc'⟩ := (Lies.of_own hown).spot j (List.getElem?_eq_some_iff.1 hu).1
      injection e' with e'
      subst e'
      rw [hu] at hx'
      injection hx' with hx'
      subst hx'
      exact hc'
    · intro v' w' ho' hg'
      obtain ⟨A', c', rfl, hn', hc', _⟩ := own_shape ho'
      refine h A' c' w' (by rw [hmap]; exact own_base ho' hbase) ⟨hg'.os, hg'.tape, hg'.output, hg'.size, fun k hk _ => hg'.block k hk (by simp)⟩ ?_ hn' hc'
      have hb : Below w.heap.size w w' := ⟨hg'.os, hg'.tape, hg'.output, hg'.size, fun k hk => hg'.block k hk (by simp)⟩
      exact ((Lies.of_own hown).below hb).more hb.size
end Go.Proofs.Ytiodiiedgmobjaa

namespace Go.Proofs.Ytiodiiedgmobjaa
open Go.RowKit
set_option linter.unusedVariables false
set_option maxRecDepth 100000

/-- an entry with a value; gone, if it has none -/
def mkE (k : ByteArray) (s : Nat) (v : ByteArray) : En := ⟨⟨k, s, v.toList.isEmpty⟩, v⟩
theorem ent8_any (k : ByteArray) (s : Nat) (v : ByteArray) (w : World) :
    Calls Try.prog 19 #[.string k, .int .u64 (s : Int), .string v] w fun e w' => e = .returned (mkE k s v).v ∧ Below w.heap.size w w' := by
  go_enter Try.func19, Try.ntmps19
  go_wp2
  have h : (w.alloc (Obj.cells #[Value.string k, Value.int IntKind.u64 (s : Int), Value.bool v.toList.isEmpty, Value.string v] 41)).heap[w.heap.size]? = some (.cells #[Value.string k, Value.int IntKind.u64 (s : Int), Value.bool v.toList.isEmpty, Value.string v] 41 (0, 0)) := heap_alloc_new w _
  have hb : Below w.heap.size w (w.alloc (Obj.cells #[Value.string k, Value.int IntKind.u64 (s : Int), Value.bool v.toList.isEmpty, Value.string v] 41)) := (Below.refl _ _).alloc (Nat.le_refl _) _
  revert h hb
  generalize w.alloc (Obj.cells #[Value.string k, Value.int IntKind.u64 (s : Int), Value.bool v.toList.isEmpty, Value.string v] 41) = W
  intro h hb
  have z0 : W.cell? ⟨w.heap.size, 0, none⟩ = some (.string k) := cell_of_row W _ 0 _ _ (0, 0) h
  have z1 : W.cell? ⟨w.heap.size, 1, none⟩ = some (.int .u64 (s : Int)) := cell_of_row W _ 1 _ _ (0, 0) h
  have z2 : W.cell? ⟨w.heap.size, 2, none⟩ = some (.bool v.toList.isEmpty) := cell_of_row W _ 2 _ _ (0, 0) h
  have z3 : W.cell? ⟨w.heap.size, 3, none⟩ = some (.string v) := cell_of_row W _ 3 _ _ (0, 0) h
  exact bodyPost_ret (v := .agg #[.string k, .int .u64 (s : Int), .bool v.toList.isEmpty, .string v]) (by simp [results, Try.results19, go_sem, z0, z1, z2, z3]) rfl ⟨rfl, hb⟩

/-- a literal list of entries -/
theorem lits_lieE {w : World} {g : Nat} (hg : g = w.heap.size) (l : List En) : Lies (w.alloc (.cells (ecs l).toArray 41)) (g + 1) 4 (some ⟨g, 0, none⟩) l.length (ecs l) := by
  subst hg
  refine ⟨by rw [ecs_len], fun j hj => ⟨_, (ecs l)[j], rfl, by simp, List.getElem?_eq_getElem hj, ?_⟩⟩
  rw [add_lit]
  have h : (w.alloc (.cells (ecs l).toArray 41)).heap[w.heap.size]? = some (.cells (ecs l).toArray 41 (0, 0)) := heap_alloc_new w _
  rw [Nat.zero_add, cell_of_row _ w.heap.size j (ecs l).toArray 41 (0, 0) h, List.getElem?_toArray]
  exact List.getElem?_eq_getElem hj
theorem lit_EL (w : World) (l : List En) (n : Nat) (hn : l.length = n) (h2 : n ≤ 1000) (hs : ∀ e ∈ l, e.m.k.size ≤ 140737488351232 ∧ e.x.size ≤ 140737488351232) :
    EL (w.alloc (.cells (ecs l).toArray 41)) (w.heap.size + 1) (some ⟨w.heap.size, 0, none⟩) n n l := by
  subst hn
  exact ⟨lits_lieE rfl l, by simp, Nat.le_refl _, by unfold maxLen; omega, hs⟩

def EA : En := ⟨⟨⟨#[97, 98]⟩, 5, false⟩, ⟨#[118]⟩⟩
def EB : En := ⟨⟨⟨#[97, 98, 99]⟩, 9, true⟩, ⟨#[]⟩⟩
def EC : En := ⟨⟨⟨#[98]⟩, 1, false⟩, ⟨#[120]⟩⟩
def ED : En := ⟨⟨⟨#[97]⟩, 1, false⟩, ⟨#[120]⟩⟩
def ab8 : List UInt8 := [0, 2, 97, 98, 5, 0, 1, 118, 2, 1, 99, 9, 1, 0, 0, 0, 1]
theorem ab_ok : okB [EA, EB] = true := by decide +kernel
theorem ab_enc : encB [EA, EB] = ab8 := by decide +kernel
theorem cd_no : okB [EC, ED] = false := by decide +kernel
theorem nil_no : okB [] = false := by decide +kernel
theorem m20 : (fromM [EA, EB] ⟨⟨#[97, 98, 99]⟩, 20, false⟩).length = 1 := by decide +kernel
theorem mb : (fromM [EA, EB] ⟨⟨#[98]⟩, 0, false⟩).length = 0 := by decide +kernel
theorem ab_get : getB ab8 = some [EA, EB] := by rw [← ab_enc]; exact getB_enc _ ab_ok (by intro e he; simp at he; rcases he with rfl | rfl <;> decide)
theorem zz_no : getB [0, 0] = none := none_of fun S h he _ => by have := (encB_len S h).1; rw [he] at this; simp at this
theorem ab_no : getB (ab8 ++ [0]) = none := by rw [← ab_enc]; exact no_snoc _ ab_ok 0

/-! what alive calls, one by one -/
theorem put8_ab (w : World) : Calls Try.prog 11 #[.slice (some ⟨w.heap.size, 0, none⟩) 2 2] (w.alloc (.cells #[.string ⟨#[97, 98]⟩, .int .u64 5, .bool false, .string ⟨#[118]⟩, .string ⟨#[97, 98, 99]⟩, .int .u64 9, .bool true, .string ⟨#[]⟩] 41)) fun e w' =>
    ∃ A c, e = .returned (.tuple #[.slice A 17 c, .int .i64 0]) ∧ w'.ownsRow w.heap.size 5 1 (.slice A 17 c) 17 (ab8.map bv) ∧ Below w.heap.size w w' := by
  have hb : Below w.heap.size w (w.alloc (.cells (ecs [EA, EB]).toArray 41)) := (Below.refl _ _).alloc (Nat.le_refl _) _
  refine (bput_any [EA, EB] (by intro e he; simp at he; rcases he with rfl | rfl <;> decide) (some ⟨w.heap.size, 0, none⟩) 2 2 (w.heap.size + 1) _ (lit_EL w [EA, EB] 2 rfl (by decide) (by intro e he; simp at he; rcases he with rfl | rfl <;> decide))).mono ?_
  rintro e w' ⟨hb2, h1, _⟩
  obtain ⟨A, c, he, ho⟩ := h1 ab_ok
  rw [ab_enc] at he ho
  exact ⟨A, c, he, own_base ho hb.size, hb.trans (hb2.mono hb.size)⟩
theorem put8_cd (w : World) : Calls Try.prog 11 #[.slice (some ⟨w.heap.size, 0, none⟩) 2 2] (w.alloc (.cells #[.string ⟨#[98]⟩, .int .u64 1, .bool false, .string ⟨#[120]⟩, .string ⟨#[97]⟩, .int .u64 1, .bool false, .string ⟨#[120]⟩] 41)) fun e w' =>
    e = .returned (.tuple #[.slice none 0 0, .int .i64 1]) ∧ Below w.heap.size w w' := by
  have hb : Below w.heap.size w (w.alloc (.cells (ecs [EC, ED]).toArray 41)) := (Below.refl _ _).alloc (Nat.le_refl _) _
  refine (bput_any [EC, ED] (by intro e he; simp at he; rcases he with rfl | rfl <;> decide) (some ⟨w.heap.size, 0, none⟩) 2 2 (w.heap.size + 1) _ (lit_EL w [EC, ED] 2 rfl (by decide) (by intro e he; simp at he; rcases he with rfl | rfl <;> decide))).mono ?_
  rintro e w' ⟨hb2, _, h1⟩
  exact ⟨h1 cd_no, hb.trans (hb2.mono hb.size)⟩
theorem put8_nil (w : World) : Calls Try.prog 11 #[.slice none 0 0] w fun e w' => e = .returned (.tuple #[.slice none 0 0, .int .i64 1]) ∧ Below w.heap.size w w' :=
  (bput_any [] (fun e he => by cases he) none 0 0 w.heap.size w ⟨Lies.none_ _ _ _ _, Nat.le_refl _, Nat.le_refl _, by unfold maxLen; omega, fun e he => by cases he⟩).mono fun e w' ⟨hb, _, h⟩ => ⟨h nil_no, hb⟩
theorem get8_ab (A : Option Addr) (c base : Nat) (w : World) (ho : w.ownsRow base 5 1 (.slice A 17 c) 17 (ab8.map bv)) : Calls Try.prog 13 #[.slice A 17 c] w fun e w' =>
    ∃ A2 c2, e = .returned (.tuple #[.slice A2 2 c2, .int .i64 0]) ∧ Below w.heap.size w w' := by
  obtain ⟨_, _, hv, hn, hc, _⟩ := own_shape ho
  injection hv with e1 e2 e3
  subst e1 e3
  refine (bget_any A 17 c ab8 w (Lies.of_own ho) hn hc (by omega)).mono ?_
  rintro e w' ⟨hb, h1, _⟩
  obtain ⟨A2, c2, he, _⟩ := h1 _ ab_get
  exact ⟨A2, c2, he, hb⟩
theorem seek8_ab (m : Mk) (k : Nat) (hk : (fromM [EA, EB] m).length = k) (A : Option Addr) (c base : Nat) (w : World) (ho : w.ownsRow base 5 1 (.slice A 17 c) 17 (ab8.map bv)) : Calls Try.prog 16 #[.slice A 17 c, m.v] w fun e w' =>
    ∃ A2 c2, e = .returned (.tuple #[.slice A2 k c2, .int .i64 0]) ∧ Below w.heap.size w w' := by
  obtain ⟨_, _, hv, hn, hc, _⟩ := own_shape ho
  injection hv with e1 e2 e3
  subst e1 e3
  refine (bseek_any A 17 c ab8 m w (Lies.of_own ho) hn hc (by omega)).mono ?_
  rintro e w' ⟨hb, h1, _⟩
  obtain ⟨A2, c2, j, he, hj, hd, _⟩ := h1 _ ab_get
  have : [EA, EB].length - j = k := by rw [← hk, ← hd, List.length_drop]
  rw [this] at he
  exact ⟨_, _, he, hb⟩
theorem get8_zz (w : World) : Calls Try.prog 13 #[.slice (some ⟨w.heap.size, 0, none⟩) 2 2] (w.alloc (.cells #[.int .u8 0, .int .u8 0] 5)) fun e w' => e = .returned (.tuple #[.slice none 0 0, .int .i64 4]) ∧ Below w.heap.size w w' := by
  have hb : Below w.heap.size w (w.alloc (.cells #[.int .u8 0, .int .u8 0] 5)) := (Below.refl _ _).alloc (Nat.le_refl _) _
  refine (bget_any (some ⟨w.heap.size, 0, none⟩) 2 2 [0, 0] _ (lit_lies w [0, 0]) (Nat.le_refl _) (by unfold maxLen; omega) (by omega)).mono ?_
  rintro e w' ⟨hb2, _, h⟩
  exact ⟨h zz_no, hb.trans (hb2.mono hb.size)⟩
theorem get8_no (A : Option Addr) (c base : Nat) (w : World) (ho : w.ownsRow base 5 1 (.slice A 18 c) 18 ((ab8 ++ [0]).map bv)) : Calls Try.prog 13 #[.slice A 18 c] w fun e w' => e = .returned (.tuple #[.slice none 0 0, .int .i64 4]) ∧ Below w.heap.size w w' := by
  obtain ⟨_, _, hv, hn, hc, _⟩ := own_shape ho
  injection hv with e1 e2 e3
  subst e1 e3
  refine (bget_any A 18 c (ab8 ++ [0]) w (Lies.of_own ho) hn hc (by omega)).mono ?_
  rintro e w' ⟨hb, _, h⟩
  exact ⟨h ab_no, hb⟩
end Go.Proofs.Ytiodiiedgmobjaa

namespace Go.Proofs.Ytiodiiedgmobjaa
open Go.RowKit
set_option linter.unusedVariables false
set_option maxRecDepth 100000

theorem em118 : (⟨#[118]⟩ : ByteArray).toList.isEmpty = false := by decide +kernel
theorem em120 : (⟨#[120]⟩ : ByteArray).toList.isEmpty = false := by decide +kernel
theorem em0 : (⟨#[]⟩ : ByteArray).toList.isEmpty = true := by decide +kernel
theorem ent8_1 (w : World) : Calls Try.prog 19 #[.string ⟨#[97, 98]⟩, .int .u64 5, .string ⟨#[118]⟩] w fun e w' => e = .returned (.agg #[.string ⟨#[97, 98]⟩, .int .u64 5, .bool false, .string ⟨#[118]⟩]) ∧ Below w.heap.size w w' := by
  have q := ent8_any ⟨#[97, 98]⟩ 5 ⟨#[118]⟩ w
  unfold mkE En.v at q
  rw [em118] at q
  exact q
theorem ent8_2 (w : World) : Calls Try.prog 19 #[.string ⟨#[97, 98, 99]⟩, .int .u64 9, .string ⟨#[]⟩] w fun e w' => e = .returned (.agg #[.string ⟨#[97, 98, 99]⟩, .int .u64 9, .bool true, .string ⟨#[]⟩]) ∧ Below w.heap.size w w' := by
  have q := ent8_any ⟨#[97, 98, 99]⟩ 9 ⟨#[]⟩ w
  unfold mkE En.v at q
  rw [em0] at q
  exact q
theorem ent8_3 (w : World) : Calls Try.prog 19 #[.string ⟨#[98]⟩, .int .u64 1, .string ⟨#[120]⟩] w fun e w' => e = .returned (.agg #[.string ⟨#[98]⟩, .int .u64 1, .bool false, .string ⟨#[120]⟩]) ∧ Below w.heap.size w w' := by
  have q := ent8_any ⟨#[98]⟩ 1 ⟨#[120]⟩ w
  unfold mkE En.v at q
  rw [em120] at q
  exact q
theorem ent8_4 (w : World) : Calls Try.prog 19 #[.string ⟨#[97]⟩, .int .u64 1, .string ⟨#[120]⟩] w fun e w' => e = .returned (.agg #[.string ⟨#[97]⟩, .int .u64 1, .bool false, .string ⟨#[120]⟩]) ∧ Below w.heap.size w w' := by
  have q := ent8_any ⟨#[97]⟩ 1 ⟨#[120]⟩ w
  unfold mkE En.v at q
  rw [em120] at q
  exact q
theorem seek8_1 (A : Option Addr) (c base : Nat) (w : World) (ho : w.ownsRow base 5 1 (.slice A 17 c) 17 (ab8.map bv)) : Calls Try.prog 16 #[.slice A 17 c, .agg #[.string ⟨#[97, 98, 99]⟩, .int .u64 20, .bool false]] w fun e w' => ∃ A2 c2, e = .returned (.tuple #[.slice A2 1 c2, .int .i64 0]) ∧ Below w.heap.size w w' := seek8_ab ⟨⟨#[97, 98, 99]⟩, 20, false⟩ 1 m20 A c base w ho
theorem seek8_2 (A : Option Addr) (c base : Nat) (w : World) (ho : w.ownsRow base 5 1 (.slice A 17 c) 17 (ab8.map bv)) : Calls Try.prog 16 #[.slice A 17 c, .agg #[.string ⟨#[98]⟩, .int .u64 0, .bool false]] w fun e w' => ∃ A2 c2, e = .returned (.tuple #[.slice A2 0 c2, .int .i64 0]) ∧ Below w.heap.size w w' := seek8_ab ⟨⟨#[98]⟩, 0, false⟩ 0 mb A c base w ho

set_option maxHeartbeats 4000000 in
theorem alive8_any (w : World) : Calls Try.prog 9 #[] w fun e w' => e = .returned (.bool true) ∧ Below w.heap.size w w' := by
  go_enter Try.func9, Try.ntmps9
  go_wp2_with fail
  refine (ent8_1 _).mono ?_
  rintro e w1 ⟨rfl, hb⟩
  have H := Lib.hid hb; clear hb
  go_wp2_with fail
  refine (ent8_2 _).mono ?_
  rintro e w2 ⟨rfl, hb⟩
  have H := Lib.hid (H.out.trans (hb.mono H.out.size)); clear hb
  go_wp2_with fail
  refine (put8_ab _).mono ?_
  rintro e w3 ⟨A, c, rfl, ho, hb⟩
  have H0 := H
  have H := Lib.hid (H.out.trans (hb.mono H.out.size))
  have H2 := Lib.hid hb; clear hb
  have O := Lib.hid ho; clear ho
  go_wp2_with fail
  refine (get8_ab A c _ _ O.out).mono ?_
  rintro e w4 ⟨A2, c2, rfl, hb⟩
  have H := Lib.hid (H.out.trans (hb.mono H.out.size))
  have H2 := Lib.hid (H2.out.trans (hb.mono H2.out.size))
  have O := Lib.hid (own_below O.out hb); clear hb
  go_wp2_with fail
  refine (seek8_1 A c _ _ O.out).mono ?_
  rintro e w5 ⟨A3, c3, rfl, hb⟩
  have H := Lib.hid (H.out.trans (hb.mono H.out.size))
  have H2 := Lib.hid (H2.out.trans (hb.mono H2.out.size))
  have O := Lib.hid (own_below O.out hb); clear hb
  go_wp2_with fail
  refine (seek8_2 A c _ _ O.out).mono ?_
  rintro e w6 ⟨A4, c4, rfl, hb⟩
  have H := Lib.hid (H.out.trans (hb.mono H.out.size))
  have H2 := Lib.hid (H2.out.trans (hb.mono H2.out.size))
  have O := Lib.hid (own_below O.out hb); clear hb
  go_wp2_with fail
  refine (put8_nil _).mono ?_
  rintro e w7 ⟨rfl, hb⟩
  have H := Lib.hid (H.out.trans (hb.mono H.out.size))
  have H2 := Lib.hid (H2.out.trans (hb.mono H2.out.size))
  have O := Lib.hid (own_below O.out hb); clear hb
  go_wp2_with fail
  refine (ent8_3 _).mono ?_
  rintro e w8 ⟨rfl, hb⟩
  have H := Lib.hid (H.out.trans (hb.mono H.out.size))
  have H2 := Lib.hid (H2.out.trans (hb.mono H2.out.size))
  have O := Lib.hid (own_below O.out hb); clear hb
  go_wp2_with fail
  refine (ent8_4 _).mono ?_
  rintro e w9 ⟨rfl, hb⟩
  have H := Lib.hid (H.out.trans (hb.mono H.out.size))
  have H2 := Lib.hid (H2.out.trans (hb.mono H2.out.size))
  have O := Lib.hid (own_below O.out hb); clear hb
  go_wp2_with fail
  refine (put8_cd _).mono ?_
  rintro e w10 ⟨rfl, hb⟩
  have H := Lib.hid (H.out.trans (hb.mono H.out.size))
  have H2 := Lib.hid (H2.out.trans (hb.mono H2.out.size))
  have O := Lib.hid (own_below O.out hb); clear hb
  go_wp2_with fail
  refine (get8_zz _).mono ?_
  rintro e w11 ⟨rfl, hb⟩
  have H := Lib.hid (H.out.trans (hb.mono H.out.size))
  have H2 := Lib.hid (H2.out.trans (hb.mono H2.out.size))
  have O := Lib.hid (own_below O.out hb); clear hb
  have HZ : Hid (w2.heap.size ≤ w11.heap.size) := by
    exact H2.out.size
  go_wp2_with (at_builtin; refine wpList_app8 _ rfl (.tmp 58) (.tmp 59) rfl w2.heap.size A 17 c ab8 rfl (O.out.alloc _) ⟨w11.heap.size, 0, none⟩ 1 1 [0] rfl rfl (by decide) ?k1 (by decide) ?k2 ?_)
  case k1 =>
    intro j u hu
    have hj := (List.getElem?_eq_some_iff.1 hu).1
    have : j = 0 := by simpa using hj
    subst this
    have hu2 : u = bv 0 := by simpa using hu.symm
    rw [hu2]
    exact (Box.new w11 5 (bv 0)).cell
  case k2 => have := HZ.out; simp; omega
  intro A5 c5 w12 ho hg hl hn hc
  have hupA : Below w11.heap.size w11 (w11.alloc (.cells #[.int .u8 0] 5)) := (Below.refl _ _).alloc (Nat.le_refl _) _
  have hown := own_below O.out hupA
  have hbw : Below w.heap.size w w12 := (H.out.trans (hupA.mono H.out.size)).grown hg (by have := H.out.size; simp; omega) (fun k hk => Nat.le_trans (H0.out.size) (hown.lt k hk).1)
  have HBW := Lib.hid hbw; have HO := Lib.hid ho; have HL := Lib.hid hl
  clear hupA hown hbw hg ho hl hn hc O H H2 HZ
  go_wp2_with fail
  refine (get8_no A5 c5 _ _ HO.out).mono ?_
  rintro e w13 ⟨rfl, hb⟩
  have hl13 := HL.out.below hb
  have hstr : (convert 23 9 (.slice A 17 c)).run Try.prog w13 = .ok (.string ⟨#[0, 2, 97, 98, 5, 0, 1, 118, 2, 1, 99, 9, 1, 0, 0, 0, 1]⟩) w13 := run_str (P := Try.prog) w13 23 9 5 Try.underlying23 Try.underlying5 Try.underlying9 (l := ab8) c hl13
  have HF := Lib.hid (HBW.out.trans (hb.mono HBW.out.size))
  have hq : ((⟨#[0, 2, 97, 98, 5, 0, 1, 118, 2, 1, 99, 9, 1, 0, 0, 0, 1]⟩ : ByteArray).toList == (⟨#[0, 2, 97, 98, 5, 0, 1, 118, 2, 1, 99, 9, 1, 0, 0, 0, 1]⟩ : ByteArray).toList) = true := by simp
  clear hl13 hb HO HL HBW
  go_wp2
  go_ret
  exact ⟨rfl, HF.out⟩
end Go.Proofs.Ytiodiiedgmobjaa

