/-
  Package edits: inOrder, Do.
-/
import Derived.Test.YtnnocjnmfabnaaaEdE
import Derived.Test.YtnnocjnmfabnaaaEdF
namespace Go.Proofs.Ytnnocjnmfabnaaa
open Go.RowKit
set_option linter.unusedVariables false
set_option maxRecDepth 100000

set_option maxHeartbeats 1000000 in
theorem sortedFunc_any (g N Bm : Nat) (mm : List Fi) (w : World) (hM : FMap w g N mm) (hm : w.cell? ⟨Bm, 0, none⟩ = some (.map (some g))) (hN : N ≤ 900000) (hnd : (nms mm).Nodup) (hml : mm.length ≤ 900000) :
    Calls Try.prog 21 #[.func (.func 37) #[] #[.pointer (some ⟨Bm, 0, none⟩)], .func (.func 23) #[] #[]] w fun e w' =>
      ∃ v L, e = .returned v ∧ L.Perm mm ∧ UpFi L ∧ w'.ownsRow w.heap.size 37 4 v L.length (fcs L) ∧ Below w.heap.size w w' := by
  have HC := Lib.hid (ecollect_any g N Bm mm w hM hm hN)
  clear hM hm
  go_enter Try.func21, Try.ntmps21
  go_wp2_with fail
  refine HC.out.mono ?_
  rintro e w1 ⟨v, xs, rfl, hp, ho, hb⟩
  have hxl : xs.length ≤ 900000 := by rw [hp.length_eq]; exact hml
  have hnx : (nms xs).Nodup := ((hp.map Fi.num).nodup_iff).2 hnd
  obtain ⟨n, hn⟩ : ∃ n, xs.length = n := ⟨_, rfl⟩
  rw [hn] at ho hxl
  rcases ho.2 with ⟨rfl, h0⟩ | ⟨g1, cap, cur, rfl, hg1, _⟩
  · subst h0
    have hx0 : xs = [] := List.eq_nil_of_length_eq_zero hn
    subst hx0
    have HF : Hid (∃ v' L, Ending.returned (Value.slice none 0 0) = .returned v' ∧ L.Perm mm ∧ UpFi L ∧ w1.ownsRow w.heap.size 37 4 v' L.length (fcs L) ∧ Below w.heap.size w w1) := ⟨_, [], rfl, hp, List.Pairwise.nil, ho, hb⟩
    have HS := Lib.hid (sortF_nil w1)
    clear ho hb hp hn hnx HC
    go_wp2_with fail
    with_reducible refine Calls.mono HS.out ?_
    rintro e w2 ⟨rfl, rfl⟩
    go_wp2
    go_ret
    exact HF.out
  · have HS := Lib.hid (sortF_any g1 n cap w.heap.size xs w1 ho (by omega))
    have HX : Hid (xs.Perm mm ∧ (nms xs).Nodup ∧ xs.length = n ∧ Below w.heap.size w w1 ∧ w.heap.size ≤ g1) := ⟨hp, hnx, hn, hb, hg1⟩
    clear ho hb hp hn hnx HC
    go_wp2_with fail
    with_reducible refine Calls.mono HS.out ?_
    rintro e w2 ⟨rfl, L, hL, hna, ho2, hg2⟩
    obtain ⟨hp, hnx, hn, hb, hg1⟩ := HX.out
    have HF : Hid (∃ v' L, Ending.returned (Value.slice (some ⟨g1, 0, none⟩) n cap) = .returned v' ∧ L.Perm mm ∧ UpFi L ∧ w2.ownsRow w.heap.size 37 4 v' L.length (fcs L) ∧ Below w.heap.size w w2) :=
      ⟨_, L, rfl, hL.trans hp, hna.up (((hL.map Fi.num).nodup_iff).2 hnx), by rw [hL.length_eq, hn]; exact ho2, hb.trans ⟨hg2.os, hg2.tape, hg2.output, hg2.size, fun k hk => hg2.block k (Nat.lt_of_lt_of_le hk hb.size) (by simp; omega)⟩⟩
    clear hp hnx hn hb hg1 hL hna ho2 hg2 HS
    go_wp2
    go_ret
    exact HF.out

theorem inOrder_any (g N : Nat) (mm : List Fi) (w : World) (hM : FMap w g N mm) (hN : N ≤ 900000) (hml : mm.length ≤ 900000) :
    Calls Try.prog 16 #[.map (some g)] w fun e w' => ∃ v L, e = .returned v ∧ L.Perm mm ∧ UpFi L ∧ w'.ownsRow w.heap.size 37 4 v L.length (fcs L) ∧ Below w.heap.size w w' := by
  have hnd : (nms mm).Nodup := by obtain ⟨D, _, h⟩ := hM; exact h.nd
  have hb : Below w.heap.size w (w.alloc (.cells #[.map (some g)] 47)) := (Below.refl _ _).alloc (Nat.le_refl _) _
  have hx := heap_alloc_new w (.cells #[.map (some g)] 47)
  have HS := Lib.hid (sortedFunc_any g N w.heap.size mm (w.alloc (.cells #[.map (some g)] 47)) (hM.kept (gro_alloc w _ none) (by simp)) (cell_of_row _ _ 0 _ _ (0, 0) hx) hN hnd hml)
  have HB := Lib.hid hb
  clear hM hb hx hnd
  go_enter Try.func16, Try.ntmps16
  go_wp2_with fail
  with_reducible refine Calls.mono (values_any g w) ?_
  rintro e w1 ⟨rfl, rfl⟩
  go_wp2_with fail
  with_reducible refine Calls.mono HS.out ?_
  rintro e w2 ⟨v, L, rfl, hp, hu, ho, hb2⟩
  have HF : Hid (∃ v' L, Ending.returned v = .returned v' ∧ L.Perm mm ∧ UpFi L ∧ w2.ownsRow w.heap.size 37 4 v' L.length (fcs L) ∧ Below w.heap.size w w2) := ⟨v, L, rfl, hp, hu, own_base ho (by simp), HB.out.trans (hb2.mono HB.out.size)⟩
  clear hp hu ho hb2 HS
  go_wp2
  go_ret
  exact HF.out

/-- what Do answers -/
def SDo (w : World) (l a : List Fi) (r : List Nat) (e : Ending) (w' : World) : Prop :=
  Below w.heap.size w w' ∧ ((DoOk l a r ∧ ∃ A n c L, e = .returned (.tuple #[.slice A n c, .int .i64 0]) ∧ L.Perm (left l r ++ a) ∧ UpFi L ∧ L.length = n ∧ w'.ownsRow w.heap.size 37 4 (.slice A n c) n (fcs L)) ∨
    (¬ DoOk l a r ∧ e = .returned (.tuple #[.slice none 0 0, .int .i64 1])))
/-- an edit, in its block -/
def EdAt (w : World) (g : Nat) (A1 : Option Addr) (n1 c1 : Nat) (A2 : Option Addr) (n2 c2 : Nat) (j x s : Nat) : Prop :=
  w.heap[g]? = some (.cells #[.slice A1 n1 c1, .slice A2 n2 c2, .int .u32 (j : Int), .int .u32 (x : Int), .int .u64 (s : Int)] 27 (0, 0))

set_option maxHeartbeats 4000000 in
theorem do_any (n1 n2 n3 : Nat) (P1 P2 P3 : Option Addr) (c1 c2 c3 : Nat) (l a : List Fi) (r : List Nat) (j x s : Nat) (w : World)
    (h1 : Lies w w.heap.size 4 P1 n1 (fcs l)) (h2 : Lies w w.heap.size 4 P2 n2 (fcs a)) (h3 : Lies w w.heap.size 1 P3 n3 (kvs r))
    (s1 : ∀ f ∈ l, szFi f) (s2 : ∀ f ∈ a, szFi f) (s3 : ∀ k ∈ r, k < 4294967296) (l1 : n1 ≤ 10000) (l2 : n2 ≤ 10000) (l3 : n3 ≤ 10000) :
    Calls Try.prog 6 #[.slice P1 n1 c1, .agg #[.slice P2 n2 c2, .slice P3 n3 c3, .int .u32 (j : Int), .int .u32 (x : Int), .int .u64 (s : Int)]] w (SDo w l a r) := by
  have e1 := h1.flen; have e2 := h2.flen
  have hE : EdAt (w.alloc (.cells #[.slice P2 n2 c2, .slice P3 n3 c3, .int .u32 (j : Int), .int .u32 (x : Int), .int .u64 (s : Int)] 27)) w.heap.size P2 n2 c2 P3 n3 c3 j x s := heap_alloc_new w _
  have hB : Below w.heap.size w (w.alloc (.cells #[.slice P2 n2 c2, .slice P3 n3 c3, .int .u32 (j : Int), .int .u32 (x : Int), .int .u64 (s : Int)] 27)) := (Below.refl _ _).alloc (Nat.le_refl _) _
  obtain ⟨W1, hW1⟩ : ∃ W, w.alloc (.cells #[.slice P2 n2 c2, .slice P3 n3 c3, .int .u32 (j : Int), .int .u32 (x : Int), .int .u64 (s : Int)] 27) = W := ⟨_, rfl⟩
  rw [hW1] at hE hB
  have hz1 : W1.heap.size = w.heap.size + 1 := by rw [← hW1]; simp
  have hM := FMap.made W1
  have hB2 : Below w.heap.size w (W1.alloc (.map #[] 0)) := hB.alloc hB.size _
  have hE2 : EdAt (W1.alloc (.map #[] 0)) w.heap.size P2 n2 c2 P3 n3 c3 j x s := (Below.heap_alloc W1 _ _ (by omega)).trans hE
  have hz2 : (W1.alloc (.map #[] 0)).heap.size = w.heap.size + 2 := by simp [hz1]
  rw [hz1] at hM
  obtain ⟨W2, hW2⟩ : ∃ W, W1.alloc (.map #[] 0) = W := ⟨_, rfl⟩
  rw [hW2] at hM hB2 hE2 hz2
  have hg0 : w.heap.size < w.heap.size + 1 := Nat.lt_succ_self _
  have HA := Lib.hid (add_any (w.heap.size + 1) 0 n1 c1 P1 [] l W2 hM ((h1.below hB2).more hB2.size) s1 (by omega) (by omega))
  have HBase : Hid (W2.heap.size = w.heap.size + 2 ∧ Below w.heap.size w W2 ∧ EdAt W2 w.heap.size P2 n2 c2 P3 n3 c3 j x s) := ⟨hz2, hB2, hE2⟩
  have HIn := Lib.hid (show _ ∧ _ ∧ _ ∧ _ from ⟨h2, h3, s2, s3⟩)
  have HLn := Lib.hid (show _ ∧ _ from ⟨e1, e2⟩)
  have hmm := @run_makeMap Try.prog
  clear hE hB hM hB2 hE2 hz2 h1 h2 h3 s1 s2 s3 e1 e2
  go_enter Try.func6, Try.ntmps6
  go_wp2_with fail
  clear hW1 hW2 hmm
  obtain ⟨g, hg⟩ : ∃ g, w.heap.size + 1 = g := ⟨_, rfl⟩
  rw [hg] at HA ⊢
  have HG := Lib.hid hg
  have up : Hid (∀ {W W' : World}, W2.heap.size ≤ W.heap.size ∧ Below w.heap.size w W ∧ EdAt W w.heap.size P2 n2 c2 P3 n3 c3 j x s → W.grownBy W' (some g) → W2.heap.size ≤ W'.heap.size ∧ Below w.heap.size w W' ∧ EdAt W' w.heap.size P2 n2 c2 P3 n3 c3 j x s) := by
    rintro W W' ⟨q1, q2, q3⟩ k
    have := HG.out
    have hz := HBase.out.1
    exact ⟨Nat.le_trans q1 k.size, q2.trans ⟨k.os, k.tape, k.output, k.size, fun i hi => k.block i (Nat.lt_of_lt_of_le hi q2.size) (by simp; omega)⟩, (k.block _ (by omega) (by simp; omega)).trans q3⟩
  have HZ : Hid (W2.heap.size ≤ W2.heap.size ∧ Below w.heap.size w W2 ∧ EdAt W2 w.heap.size P2 n2 c2 P3 n3 c3 j x s) := ⟨Nat.le_refl _, HBase.out.2⟩
  clear hg hz1 hg0
  with_reducible refine Calls.mono HA.out ?_
  rintro e w3 ⟨hg3, (⟨hok1, rfl, hm3⟩ | ⟨hno, rfl⟩)⟩
  · have Z3 := Lib.hid (up.out HZ.out hg3)
    rw [List.nil_append, Nat.zero_add] at hm3
    obtain ⟨z1, z2, z3⟩ := Z3.out
    have HR := Lib.hid (remove_any g n1 n3 c3 P3 l r w3 hm3 ((HIn.out.2.1.below z2).more z2.size) HIn.out.2.2.2 (by omega))
    have O1 := Lib.hid hok1
    have k1 : w3.cell? ⟨w.heap.size, 1, none⟩ = some (.slice P3 n3 c3) := cell_of_row _ _ 1 _ _ (0, 0) z3
    have k0 : w3.cell? ⟨w.heap.size, 0, none⟩ = some (.slice P2 n2 c2) := cell_of_row _ _ 0 _ _ (0, 0) z3
    clear z1 z2 z3 hm3 hg3 HA hok1
    go_wp2_with fail
    with_reducible refine Calls.mono HR.out ?_
    rintro e w4 ⟨hg4, (⟨hok2, rfl, hm4⟩ | ⟨hno, rfl⟩)⟩
    · have Z4 := Lib.hid (up.out Z3.out hg4)
      obtain ⟨z1, z2, z3⟩ := Z4.out
      have HA2 := Lib.hid (add_any g n1 n2 c2 P2 (left l r) a w4 hm4 ((HIn.out.1.below z2).more z2.size) HIn.out.2.2.1 (by omega) (by omega))
      have O2 := Lib.hid hok2
      have k0 : w4.cell? ⟨w.heap.size, 0, none⟩ = some (.slice P2 n2 c2) := cell_of_row _ _ 0 _ _ (0, 0) z3
      clear z1 z2 z3 hm4 hg4 HR hok2 k1
      go_wp2_with fail
      with_reducible refine Calls.mono HA2.out ?_
      rintro e w5 ⟨hg5, (⟨hok3, rfl, hm5⟩ | ⟨hno, rfl⟩)⟩
      · have Z5 := Lib.hid (up.out Z4.out hg5)
        have hll : (left l r ++ a).length ≤ 900000 := by
          rw [List.length_append]
          have h1 : (left l r).length ≤ l.length := List.length_filter_le _ _
          have h2 := HLn.out
          omega
        have HI := Lib.hid (inOrder_any g (n1 + n2) (left l r ++ a) w5 hm5 (by omega) hll)
        have O3 := Lib.hid hok3
        clear hm5 hg5 HA2 hok3 k0
        go_wp2_with fail
        with_reducible refine Calls.mono HI.out ?_
        rintro e w6 ⟨v, L, rfl, hp, hu, ho, hb⟩
        obtain ⟨A, c, rfl, _⟩ := own_shape ho
        obtain ⟨n, hn⟩ : ∃ n, L.length = n := ⟨_, rfl⟩
        rw [hn] at ho
        rw [hn]
        have HF : Hid (SDo w l a r (.returned (.tuple #[.slice A n c, .int .i64 0])) w6) :=
          ⟨Z5.out.2.1.trans (hb.mono Z5.out.2.1.size), .inl ⟨⟨O1.out, O2.out, O3.out⟩, A, n, c, L, rfl, hp, hu, hn, own_base ho Z5.out.2.1.size⟩⟩
        clear hp hu ho hb hn HI
        go_wp2
        go_ret2
        exact HF.out
      · have HF : Hid (SDo w l a r (.returned (.tuple #[.slice none 0 0, .int .i64 1])) w5) := ⟨(up.out Z4.out hg5).2.1, .inr ⟨fun h => hno h.2.2, rfl⟩⟩
        clear hg5 hno k0
        go_wp2
        go_ret2
        exact HF.out
    · have HF : Hid (SDo w l a r (.returned (.tuple #[.slice none 0 0, .int .i64 1])) w4) := ⟨(up.out Z3.out hg4).2.1, .inr ⟨fun h => hno h.2.1, rfl⟩⟩
      clear hg4 hno k0 k1
      go_wp2
      go_ret2
      exact HF.out
  · have HF : Hid (SDo w l a r (.returned (.tuple #[.slice none 0 0, .int .i64 1])) w3) := ⟨(up.out HZ.out hg3).2.1, .inr ⟨fun h => hno h.1, rfl⟩⟩
    clear hg3 hno
    go_wp2
    go_ret2
    exact HF.out
end Go.Proofs.Ytnnocjnmfabnaaa
