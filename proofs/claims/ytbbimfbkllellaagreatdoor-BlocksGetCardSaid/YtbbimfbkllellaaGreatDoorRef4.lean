/-
  The document's own answers of layer 4: Check, Less, Cmp.
-/
import Derived.Test.YtbbimfbkllellaaGreatDoorCmpAB
import Derived.Deep.QuietTactic
import Derived.BigQuiet
namespace Go.Proofs.YtbbimfbkllellaaGreatDoor
open Go.RowKit
set_option linter.unusedVariables false

theorem rchk_any (s : ByteArray) (w : World) (hs : s.size ≤ 9223372036854775807) :
    Calls Tryz.prog 137 #[.string s] w fun e w' => e = .returned (.bool (chk s)) ∧ w = w' := by
  unfold chk
  by_cases h1 : 1 ≤ s.size
  · have hd1 : decide (1 ≤ (s.size : Int)) = true := by simp; omega
    by_cases h2 : s.size ≤ 32
    · have hd : decide ((s.size : Int) ≤ 32) = true := by simp; omega
      rw [decide_eq_true (⟨h1, h2⟩ : 1 ≤ s.size ∧ s.size ≤ 32)]
      go_enter Tryz.func137, Tryz.ntmps137
      go_wp2
      go_ret
      exact ⟨rfl, rfl⟩
    · have hd : decide ((s.size : Int) ≤ 32) = false := by simp; omega
      rw [decide_eq_false (fun h => h2 h.2 : ¬ (1 ≤ s.size ∧ s.size ≤ 32))]
      go_enter Tryz.func137, Tryz.ntmps137
      go_wp2
      go_ret
      exact ⟨rfl, rfl⟩
  · have hd1 : decide (1 ≤ (s.size : Int)) = false := by simp; omega
    rw [decide_eq_false (fun h => h1 h.1 : ¬ (1 ≤ s.size ∧ s.size ≤ 32))]
    go_enter Tryz.func137, Tryz.ntmps137
    go_wp2
    go_ret
    exact ⟨rfl, rfl⟩

theorem less_at : ∀ (k : Nat) (l m : List UInt8) (x y : UInt8), l[k]? = some x → m[k]? = some y → l.take k = m.take k → x ≠ y → Op.bytesLess l m = decide (x.toNat < y.toNat)
  | 0, a :: l, b :: m, x, y, hx, hy, _, hne => by
    simp at hx hy; subst hx hy
    unfold Op.bytesLess
    have : (a == b) = false := by simpa using hne
    rw [this, Bool.false_and, Bool.or_false]
    by_cases h : a < b
    · rw [decide_eq_true h, decide_eq_true (UInt8.lt_iff_toNat_lt.1 h)]
    · rw [decide_eq_false h, decide_eq_false (fun q => h (UInt8.lt_iff_toNat_lt.2 q))]
  | k + 1, a :: l, b :: m, x, y, hx, hy, he, hne => by
    simp at hx hy he
    obtain ⟨rfl, he⟩ := he
    unfold Op.bytesLess
    rw [less_at k l m x y hx hy he hne]
    simp
  | _, [], _, _, _, hx, _, _, _ => by simp at hx
  | _, _ :: _, [], _, _, _, hy, _, _ => by simp at hy
theorem less_end : ∀ (k : Nat) (l m : List UInt8), l.take k = m.take k → k ≤ l.length → k ≤ m.length → (k = l.length ∨ k = m.length) → Op.bytesLess l m = decide (l.length < m.length)
  | 0, [], [], _, _, _, _ => by simp [Op.bytesLess]
  | 0, [], b :: m, _, _, _, _ => by simp [Op.bytesLess]
  | 0, a :: l, [], _, _, _, _ => by simp [Op.bytesLess]
  | 0, a :: l, b :: m, _, _, _, h => by simp at h
  | k + 1, a :: l, b :: m, he, h1, h2, h3 => by
    simp at he h1 h2 h3
    obtain ⟨rfl, he⟩ := he
    unfold Op.bytesLess
    rw [less_end k l m he h1 h2 h3]
    simp
  | k + 1, [], _, _, h1, _, _ => by simp at h1
  | k + 1, _ :: _, [], _, _, h2, _ => by simp at h2

/-- a byte of a text -/
theorem run_idx (s : ByteArray) (k : Nat) (x : UInt8) (h : s.data.toList[k]? = some x) (w : World) : (Instr.index 9 (.string s) (.int .i64 (k : Int))).run Tryz.prog w = .ok (.int .u8 (x.toNat : Int)) w := by
  have h2 : s[k]? = some x := by
    rw [Array.getElem?_toList] at h
    obtain ⟨hk, e⟩ := Array.getElem?_eq_some_iff.1 h
    have hk2 : k < s.size := hk
    rw [getElem?_pos s k hk2]
    exact congrArg some e
  unfold Instr.index
  simp [asIntOf, run_underlying Tryz.underlying9, h2]

set_option maxHeartbeats 2000000 in
theorem rless_any (a b : ByteArray) (w : World) (ha : a.size ≤ 1000000) (hb : b.size ≤ 1000000) :
    Calls Tryz.prog 125 #[.string a, .string b] w fun e w' => e = .returned (.bool (lessB a b)) ∧ ∃ q, w' = w.drewN q := by
  have hal : a.data.toList.length = a.size := Array.length_toList
  have hbl : b.data.toList.length = b.size := Array.length_toList
  have HL : Hid (lessB a b = Op.bytesLess a.data.toList b.data.toList) := by unfold Hid lessB; rw [Lib.toList_data, Lib.toList_data]
  have HA := Lib.hid hal; have HB := Lib.hid hbl
  clear hal hbl
  go_enter Tryz.func125, Tryz.ntmps125
  go_wp2
  go_loopw [5] (fun i wr => ∃ k q : Nat, k ≤ a.size ∧ k ≤ b.size ∧ i = .int .i64 (k : Int) ∧ a.data.toList.take k = b.data.toList.take k ∧ wr = w.drewN q) (fun i _ => a.size - (intOf i).toNat)
  case atStart => exact ⟨0, 0, Nat.zero_le _, Nat.zero_le _, rfl, by simp, rfl⟩
  case round =>
    obtain ⟨k, q, hka, hkb, rfl, heq, rfl⟩ := hrel
    have HE := Lib.hid heq; clear heq
    by_cases h1 : k < a.size
    · by_cases h2 : k < b.size
      · obtain ⟨x, hx⟩ : ∃ x, a.data.toList[k]? = some x := ⟨_, List.getElem?_eq_getElem (by rw [HA.out]; exact h1)⟩
        obtain ⟨y, hy⟩ : ∃ y, b.data.toList[k]? = some y := ⟨_, List.getElem?_eq_getElem (by rw [HB.out]; exact h2)⟩
        have r1 := run_idx a k x hx
        have r2 := run_idx b k y hy
        have d1 : decide (k < a.size) = true := decide_eq_true h1
        have d2 : decide (k < b.size) = true := decide_eq_true h2
        by_cases hxy : x = y
        · have hbq : ((x.toNat : Int) != (y.toNat : Int)) = false := by simp [hxy]
          have HT := Lib.hid (show a.data.toList.take (k + 1) = b.data.toList.take (k + 1) from by rw [List.take_add_one, List.take_add_one, HE.out, hx, hy, hxy])
          clear hx hy hxy
          generalize x.toNat = xn at *
          generalize y.toNat = yn at *
          go_wp2
          go_quiet (fail)
          go_wp2
          go_roundw
          case rel => exact ⟨k + 1, _, h1, h2, by go_num, HT.out, by first | rfl | (rw [World.drewN_drewN])⟩
          case measure => simp [intOf]; omega
        · have hbq : ((x.toNat : Int) != (y.toNat : Int)) = true := by
            have : x.toNat ≠ y.toNat := fun h => hxy (UInt8.toNat_inj.1 h)
            simp; omega
          have HT := Lib.hid (show lessB a b = decide (x.toNat < y.toNat) from by rw [HL.out, less_at k _ _ x y hx hy HE.out hxy])
          clear hx hy hxy
          generalize x.toNat = xn at *
          generalize y.toNat = yn at *
          go_wp2
          go_quiet (fail)
          go_wp2
          generalize hW : World.drewN _ _ = W2
          have HW : Hid (∃ m, W2 = w.drewN m) := by subst hW; exact ⟨_, by first | rfl | (rw [World.drewN_drewN])⟩
          clear hW
          go_quiet (fail)
          go_wp2
          go_ret
          obtain ⟨m, rfl⟩ := HW.out
          exact ⟨by rw [HT.out]; rfl, _, by first | rfl | (rw [World.drewN_drewN])⟩
      · have d1 : decide (k < a.size) = true := decide_eq_true h1
        have d2 : decide (k < b.size) = false := decide_eq_false h2
        have HT := Lib.hid (show lessB a b = false from by
          rw [HL.out, less_end k _ _ HE.out (by rw [HA.out]; omega) (by rw [HB.out]; omega) (.inr (by rw [HB.out]; omega)), HA.out, HB.out]
          exact decide_eq_false (by omega))
        have d3 : decide (a.size < b.size) = false := decide_eq_false (by omega)
        go_wp2
        go_ret
        exact ⟨by rw [HT.out]; rfl, q, rfl⟩
    · have d1 : decide (k < a.size) = false := decide_eq_false h1
      by_cases hlt : a.size < b.size
      · have HT := Lib.hid (show lessB a b = true from by
          rw [HL.out, less_end k _ _ HE.out (by rw [HA.out]; omega) (by rw [HB.out]; omega) (.inl (by rw [HA.out]; omega)), HA.out, HB.out]
          exact decide_eq_true hlt)
        have d3 : decide (a.size < b.size) = true := decide_eq_true hlt
        go_wp2
        go_ret
        exact ⟨by rw [HT.out]; rfl, q, rfl⟩
      · have HT := Lib.hid (show lessB a b = false from by
          rw [HL.out, less_end k _ _ HE.out (by rw [HA.out]; omega) (by rw [HB.out]; omega) (.inl (by rw [HA.out]; omega)), HA.out, HB.out]
          exact decide_eq_false hlt)
        have d3 : decide (a.size < b.size) = false := decide_eq_false hlt
        go_wp2
        go_ret
        exact ⟨by rw [HT.out]; rfl, q, rfl⟩

/-- the cells of two marks in blocks of their own -/
theorem two_marks (a b : Mk) (w : World) : MkAt ((w.alloc (.cells #[.string a.k, .int .u64 (a.s : Int), .bool a.g] 25)).alloc (.cells #[.string b.k, .int .u64 (b.s : Int), .bool b.g] 25)) w.heap.size a ∧
    MkAt ((w.alloc (.cells #[.string a.k, .int .u64 (a.s : Int), .bool a.g] 25)).alloc (.cells #[.string b.k, .int .u64 (b.s : Int), .bool b.g] 25)) (w.heap.size + 1) b ∧
    Below w.heap.size w ((w.alloc (.cells #[.string a.k, .int .u64 (a.s : Int), .bool a.g] 25)).alloc (.cells #[.string b.k, .int .u64 (b.s : Int), .bool b.g] 25)) ∧
    ((w.alloc (.cells #[.string a.k, .int .u64 (a.s : Int), .bool a.g] 25)).alloc (.cells #[.string b.k, .int .u64 (b.s : Int), .bool b.g] 25)).heap.size = w.heap.size + 1 + 1 := by
  generalize ha : Obj.cells #[Value.string a.k, .int .u64 (a.s : Int), .bool a.g] 25 = oa
  generalize hb : Obj.cells #[Value.string b.k, .int .u64 (b.s : Int), .bool b.g] 25 = ob
  have s1 : (w.alloc oa).heap.size = w.heap.size + 1 := by simp
  have h1 : (w.alloc oa).heap[w.heap.size]? = some oa := heap_alloc_new w _
  have h2 : ((w.alloc oa).alloc ob).heap[w.heap.size + 1]? = some ob := by rw [← s1]; exact heap_alloc_new _ _
  refine ⟨?_, ?_, ((Below.refl _ _).alloc (Nat.le_refl _) oa).alloc (by omega) ob, by simp⟩
  · unfold MkAt; rw [ha]; exact (Below.heap_alloc _ _ _ (by omega)).trans h1
  · unfold MkAt; rw [hb]; exact h2

set_option maxHeartbeats 2000000 in
theorem rcmp_any (a b : Mk) (w : World) (ha : a.k.size ≤ 1000000) (hb : b.k.size ≤ 1000000) :
    Calls Tryz.prog 84 #[a.v, b.v] w fun e w' => e = .returned (.int .i64 (cmpM a b)) ∧ Below w.heap.size w w' := by
  obtain ⟨ka, sa, ga⟩ := a
  obtain ⟨kb, sb, gb⟩ := b
  obtain ⟨m1, m2, hB, hZ⟩ := two_marks ⟨ka, sa, ga⟩ ⟨kb, sb, gb⟩ w
  dsimp only at ha hb hB
  have L1 : Hid (∀ W, Calls Tryz.prog 125 #[.string ka, .string kb] W fun e w' => e = .returned (.bool (lessB ka kb)) ∧ ∃ q, w' = W.drewN q) := fun W => rless_any ka kb W ha hb
  have L2 : Hid (∀ W, Calls Tryz.prog 125 #[.string kb, .string ka] W fun e w' => e = .returned (.bool (lessB kb ka)) ∧ ∃ q, w' = W.drewN q) := fun W => rless_any kb ka W hb ha
  have HB := Lib.hid hB
  have M1 := Lib.hid m1; have M2 := Lib.hid m2
  have q1 := m1.cell; have q2 := m2.cell
  rw [cmpM_eq]
  dsimp only at q1 q2 ⊢
  unfold Mk.v
  clear hB hZ m1 m2 ha hb
  cases e1 : lessB ka kb
  · cases e2 : lessB kb ka
    · have HS : Hid (cmpS ka kb = 0) := by unfold Hid cmpS; rw [e1, e2]; rfl
      rw [HS.out, if_neg (by decide)]
      rw [e1] at L1; rw [e2] at L2
      clear e1 e2
      by_cases h1 : sb < sa
      · have HN : Hid (cmpN sb sa = -1) := by unfold Hid cmpN; rw [if_pos h1]
        rw [HN.out, if_pos (by decide)]
        have d1 : decide (sb < sa) = true := decide_eq_true h1
        go_enter Tryz.func84, Tryz.ntmps84
        go_wp2_with fail
        refine (L1.out _).mono ?_
        rintro e w1 ⟨rfl, n1, rfl⟩
        have HB0 := Lib.hid (below_drewN HB.out n1)
        go_wp2_with fail
        refine (L2.out _).mono ?_
        rintro e w2 ⟨rfl, n2, rfl⟩
        have HB1 := Lib.hid (below_drewN HB.out (n1 + n2))
        go_wp2
        go_ret
        exact ⟨rfl, HB1.out⟩
      · have d1 : decide (sb < sa) = false := decide_eq_false h1
        by_cases h2 : sa < sb
        · have HN : Hid (cmpN sb sa = 1) := by unfold Hid cmpN; rw [if_neg h1, if_pos h2]
          rw [HN.out, if_pos (by decide)]
          have d2 : decide (sa < sb) = true := decide_eq_true h2
          go_enter Tryz.func84, Tryz.ntmps84
          go_wp2_with fail
          refine (L1.out _).mono ?_
          rintro e w1 ⟨rfl, n1, rfl⟩
          have HB0 := Lib.hid (below_drewN HB.out n1)
          go_wp2_with fail
          refine (L2.out _).mono ?_
          rintro e w2 ⟨rfl, n2, rfl⟩
          have HB1 := Lib.hid (below_drewN HB.out (n1 + n2))
          go_wp2
          go_ret
          exact ⟨rfl, HB1.out⟩
        · have HN : Hid (cmpN sb sa = 0) := by unfold Hid cmpN; rw [if_neg h1, if_neg h2]
          rw [HN.out, if_neg (by decide)]
          have d2 : decide (sa < sb) = false := decide_eq_false h2
          cases ga <;> cases gb
          ·
            go_enter Tryz.func84, Tryz.ntmps84
            go_wp2_with fail
            refine (L1.out _).mono ?_
            rintro e w1 ⟨rfl, n1, rfl⟩
            have HB0 := Lib.hid (below_drewN HB.out n1)
            go_wp2_with fail
            refine (L2.out _).mono ?_
            rintro e w2 ⟨rfl, n2, rfl⟩
            have HB1 := Lib.hid (below_drewN HB.out (n1 + n2))
            go_wp2
            go_ret
            exact ⟨rfl, HB1.out⟩
          ·
            go_enter Tryz.func84, Tryz.ntmps84
            go_wp2_with fail
            refine (L1.out _).mono ?_
            rintro e w1 ⟨rfl, n1, rfl⟩
            have HB0 := Lib.hid (below_drewN HB.out n1)
            go_wp2_with fail
            refine (L2.out _).mono ?_
            rintro e w2 ⟨rfl, n2, rfl⟩
            have HB1 := Lib.hid (below_drewN HB.out (n1 + n2))
            go_wp2
            go_ret
            exact ⟨rfl, HB1.out⟩
          ·
            go_enter Tryz.func84, Tryz.ntmps84
            go_wp2_with fail
            refine (L1.out _).mono ?_
            rintro e w1 ⟨rfl, n1, rfl⟩
            have HB0 := Lib.hid (below_drewN HB.out n1)
            go_wp2_with fail
            refine (L2.out _).mono ?_
            rintro e w2 ⟨rfl, n2, rfl⟩
            have HB1 := Lib.hid (below_drewN HB.out (n1 + n2))
            go_wp2
            go_ret
            exact ⟨rfl, HB1.out⟩
          ·
            go_enter Tryz.func84, Tryz.ntmps84
            go_wp2_with fail
            refine (L1.out _).mono ?_
            rintro e w1 ⟨rfl, n1, rfl⟩
            have HB0 := Lib.hid (below_drewN HB.out n1)
            go_wp2_with fail
            refine (L2.out _).mono ?_
            rintro e w2 ⟨rfl, n2, rfl⟩
            have HB1 := Lib.hid (below_drewN HB.out (n1 + n2))
            go_wp2
            go_ret
            exact ⟨rfl, HB1.out⟩
    · have HS : Hid (cmpS ka kb = 1) := by unfold Hid cmpS; rw [e1, e2]; rfl
      rw [HS.out, if_pos (by decide)]
      rw [e1] at L1; rw [e2] at L2
      clear e1 e2
      go_enter Tryz.func84, Tryz.ntmps84
      go_wp2_with fail
      refine (L1.out _).mono ?_
      rintro e w1 ⟨rfl, n1, rfl⟩
      have HB0 := Lib.hid (below_drewN HB.out n1)
      go_wp2_with fail
      refine (L2.out _).mono ?_
      rintro e w2 ⟨rfl, n2, rfl⟩
      have HB1 := Lib.hid (below_drewN HB.out (n1 + n2))
      go_wp2
      go_ret
      exact ⟨rfl, HB1.out⟩
  · have HS : Hid (cmpS ka kb = -1) := by unfold Hid cmpS; rw [e1]; rfl
    rw [HS.out, if_pos (by decide)]
    rw [e1] at L1
    clear e1
    go_enter Tryz.func84, Tryz.ntmps84
    go_wp2_with fail
    refine (L1.out _).mono ?_
    rintro e w1 ⟨rfl, n1, rfl⟩
    have HB0 := Lib.hid (below_drewN HB.out n1)
    go_wp2_with fail
    go_ret
    exact ⟨rfl, HB0.out⟩
end Go.Proofs.YtbbimfbkllellaaGreatDoor
