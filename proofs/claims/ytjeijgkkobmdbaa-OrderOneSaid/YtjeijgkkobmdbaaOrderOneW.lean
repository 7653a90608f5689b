/-
  The walk of OrderOne.
-/
import Derived.Test.YtjeijgkkobmdbaaAlive4
import Derived.Test.YtjeijgkkobmdbaaGreat
import Derived.Test.YtjeijgkkobmdbaaCmpB
namespace Go.Proofs.Ytjeijgkkobmdbaa
open Go.RowKit
set_option linter.unusedVariables false
set_option maxRecDepth 100000

/-- three marks in blocks of their own -/
def mk3 (a b c : Mk) (w : World) : World :=
  ((w.alloc (.cells #[.string a.k, .int .u64 (a.s : Int), .bool a.g] 24)).alloc (.cells #[.string b.k, .int .u64 (b.s : Int), .bool b.g] 24)).alloc (.cells #[.string c.k, .int .u64 (c.s : Int), .bool c.g] 24)
theorem mk3_facts (a b c : Mk) (w : World) : MkAt (mk3 a b c w) w.heap.size a ∧ MkAt (mk3 a b c w) (w.heap.size + 1) b ∧ MkAt (mk3 a b c w) (w.heap.size + 1 + 1) c ∧ Below w.heap.size w (mk3 a b c w) ∧ (mk3 a b c w).heap.size = w.heap.size + 1 + 1 + 1 := by
  unfold mk3 MkAt
  generalize ha : Obj.cells #[Value.string a.k, .int .u64 (a.s : Int), .bool a.g] 24 = oa
  generalize hb : Obj.cells #[Value.string b.k, .int .u64 (b.s : Int), .bool b.g] 24 = ob
  generalize hc : Obj.cells #[Value.string c.k, .int .u64 (c.s : Int), .bool c.g] 24 = oc
  have s1 : (w.alloc oa).heap.size = w.heap.size + 1 := by simp
  have s2 : ((w.alloc oa).alloc ob).heap.size = w.heap.size + 1 + 1 := by simp
  have h1 : (w.alloc oa).heap[w.heap.size]? = some oa := heap_alloc_new w _
  have h2 : ((w.alloc oa).alloc ob).heap[w.heap.size + 1]? = some ob := by rw [← s1]; exact heap_alloc_new _ _
  have h3 : (((w.alloc oa).alloc ob).alloc oc).heap[w.heap.size + 1 + 1]? = some oc := by rw [← s2]; exact heap_alloc_new _ _
  refine ⟨?_, ?_, h3, (((Below.refl _ _).alloc (Nat.le_refl _) oa).alloc (by omega) ob).alloc (by omega) oc, by simp⟩
  · exact (Below.heap_alloc _ _ _ (by omega)).trans ((Below.heap_alloc _ _ _ (by omega)).trans h1)
  · exact (Below.heap_alloc _ _ _ (by omega)).trans h2

set_option maxHeartbeats 2000000 in
theorem orderOne_big (a b c : Mk) (w : World) (ha : a.k.size ≤ 140737488351232) (hb : b.k.size ≤ 140737488351232) (hc : c.k.size ≤ 140737488351232) (hbig : 100000 < ksum [a, b, c]) :
    Calls Try.prog 5 #[a.v, b.v, c.v] w fun e w' => e = .returned (.bool true) ∧ Below w.heap.size w w' := by
  obtain ⟨m1, m2, m3, hB, hZ⟩ := mk3_facts a b c w
  have M1 := Lib.hid m1; have M2 := Lib.hid m2; have M3 := Lib.hid m3; have HB := Lib.hid hB; have HZ := Lib.hid hZ
  have hm : ∀ m ∈ [a, b, c], m.k.size ≤ 140737488351232 := by
    intro m h
    simp only [List.mem_cons, List.not_mem_nil, or_false] at h
    rcases h with rfl | rfl | rfl <;> assumption
  have HM := Lib.hid hm; have HK := Lib.hid (decide_eq_true hbig)
  clear m1 m2 m3 hB hZ ha hb hc hm hbig
  unfold Mk.v
  go_enter Try.func5, Try.ntmps5
  go_wp2_with fail
  change Calls _ _ _ (mk3 a b c w) _
  generalize mk3 a b c w = W at *
  refine (alive4_any W).mono ?_
  rintro e w1 ⟨rfl, hb1⟩
  generalize hg : w.heap.size = g at *
  have HG := Lib.hid hg; clear hg
  have e1 : MkAt w1 g a := M1.out.below hb1 (by have := HZ.out; omega)
  have e2 : MkAt w1 (g + 1) b := M2.out.below hb1 (by have := HZ.out; omega)
  have e3 : MkAt w1 (g + 1 + 1) c := M3.out.below hb1 (by have := HZ.out; omega)
  have q1 := e1.cell; have q2 := e2.cell; have q3 := e3.cell
  have HB1 := Lib.hid hb1
  clear e1 e2 e3 hb1
  go_wp2_with fail
  refine (great_lit [a, b, c] w1 3 _ _ rfl rfl rfl (by decide) HM.out true HK.out).mono ?_
  rintro e w2 ⟨rfl, hb2⟩
  have HB2 := Lib.hid hb2
  clear hb2 q1 q2 q3
  go_wp2_with fail
  refine (alive4_any w2).mono ?_
  rintro e w3 ⟨rfl, hb3⟩
  go_wp2
  go_ret
  refine ⟨rfl, ?_⟩
  rw [HG.out]
  exact HB.out.trans ((HB1.out.trans ((HB2.out.trans (hb3.mono HB2.out.size)).mono HB1.out.size)).mono (by have := HZ.out; omega))

theorem tri_ok {α : Type} {c : α → α → Int} (h : Tri c) (a b d : α) : (0 < c a b ∨ 0 < c b d ∨ c a d ≤ 0 ∧ (c a d < 0 ↔ c a b < 0 ∨ c b d < 0)) ∧ (c a b < 0 ∨ c b d < 0 ∨ 0 ≤ c a d) := by
  have t1 := h.three a b; have t2 := h.three b d; have t3 := h.three a d
  have s1 := h.same a b; have s2 := h.same b d
  have n1 := h.turn a b; have n2 := h.turn b d; have n3 := h.turn a d
  have o1 := h.on a b d; have o2 := h.on d b a
  by_cases e1 : c a b = 0
  · have := s1 e1; subst this
    have := h.self a
    omega
  · by_cases e2 : c b d = 0
    · have := s2 e2; subst this
      have := h.self b
      omega
    · by_cases p1 : c a b < 0
      · by_cases p2 : c b d < 0
        · have := o1 p1 p2; omega
        · omega
      · by_cases p2 : c b d < 0
        · omega
        · have := o2 (by omega) (by omega); omega
/-- three marks lie there still -/
def M3 (w : World) (g : Nat) (a b c : Mk) : Prop := (MkAt w g a ∧ MkAt w (g + 1) b ∧ MkAt w (g + 1 + 1) c) ∧ g + 1 + 1 < w.heap.size
theorem M3.on {w w' : World} {g : Nat} {a b c : Mk} (h : M3 w g a b c) (hb : Below w.heap.size w w') : M3 w' g a b c :=
  ⟨⟨h.1.1.below hb (by have := h.2; omega), h.1.2.1.below hb (by have := h.2; omega), h.1.2.2.below hb h.2⟩, Nat.lt_of_lt_of_le h.2 hb.size⟩

set_option maxHeartbeats 4000000 in
theorem orderOne_small (a b c : Mk) (w : World) (ha : a.k.size ≤ 140737488351232) (hb : b.k.size ≤ 140737488351232) (hc : c.k.size ≤ 140737488351232) (hsm : ¬ 100000 < ksum [a, b, c]) :
    Calls Try.prog 5 #[a.v, b.v, c.v] w fun e w' => e = .returned (.bool true) ∧ Below w.heap.size w w' := by
  obtain ⟨m1, m2, m3, hB, hZ⟩ := mk3_facts a b c w
  have HM0 := Lib.hid (show M3 (mk3 a b c w) w.heap.size a b c from ⟨⟨m1, m2, m3⟩, by omega⟩)
  have HB : Hid (Kept w (mk3 a b c w)) := hB
  have hm : ∀ m ∈ [a, b, c], m.k.size ≤ 140737488351232 := by
    intro m h
    simp only [List.mem_cons, List.not_mem_nil, or_false] at h
    rcases h with rfl | rfl | rfl <;> assumption
  have HM := Lib.hid hm; have HK := Lib.hid (decide_eq_false hsm)
  have T1 := tri_M.three a b; have T2 := tri_M.three b c; have T3 := tri_M.three a c
  have hT : cmpM b a = - cmpM a b := tri_M.turn a b
  have C1 : Hid (∀ W, Calls Try.prog 14 #[.agg #[.string a.k, .int .u64 (a.s : Int), .bool a.g], .agg #[.string b.k, .int .u64 (b.s : Int), .bool b.g]] W fun e w' => e = .returned (.int .i64 (cmpM a b)) ∧ Below W.heap.size W w') := fun W => cmp_any a b W
  have C2 : Hid (∀ W, Calls Try.prog 14 #[.agg #[.string b.k, .int .u64 (b.s : Int), .bool b.g], .agg #[.string c.k, .int .u64 (c.s : Int), .bool c.g]] W fun e w' => e = .returned (.int .i64 (cmpM b c)) ∧ Below W.heap.size W w') := fun W => cmp_any b c W
  have C3 : Hid (∀ W, Calls Try.prog 14 #[.agg #[.string a.k, .int .u64 (a.s : Int), .bool a.g], .agg #[.string c.k, .int .u64 (c.s : Int), .bool c.g]] W fun e w' => e = .returned (.int .i64 (cmpM a c)) ∧ Below W.heap.size W w') := fun W => cmp_any a c W
  have C4 : Hid (∀ W, Calls Try.prog 14 #[.agg #[.string b.k, .int .u64 (b.s : Int), .bool b.g], .agg #[.string a.k, .int .u64 (a.s : Int), .bool a.g]] W fun e w' => e = .returned (.int .i64 (cmpM b a)) ∧ Below W.heap.size W w') := fun W => cmp_any b a W
  rw [hT] at C4
  have F := tri_ok tri_M a b c
  have X1 : -1 ≤ cmpM a b ∧ cmpM a b ≤ 1 := by omega
  have X2 : -1 ≤ cmpM b c ∧ cmpM b c ≤ 1 := by omega
  have X3 : -1 ≤ cmpM a c ∧ cmpM a c ≤ 1 := by omega
  have HZ1 := Lib.hid (tri_M.zero a b)
  generalize cmpM a b = x at *
  generalize cmpM b c = y at *
  generalize cmpM a c = z at *
  have d1 : decide (x < -1) = false := by simp; omega
  have d2 : decide (1 < x) = false := by simp; omega
  have HF := Lib.hid F
  have HX2 := Lib.hid X2; have HX3 := Lib.hid X3
  clear hT T1 T2 T3 F X2 X3 m1 m2 m3 hB hZ ha hb hc hm hsm
  unfold Mk.v
  go_enter Try.func5, Try.ntmps5
  go_wp2_with fail
  change Calls _ _ _ (mk3 a b c w) _
  generalize mk3 a b c w = W at *
  refine (alive4_any W).mono ?_
  rintro e w1 ⟨rfl, hb1⟩
  generalize hg : w.heap.size = g at *
  have HG := Lib.hid hg; clear hg
  have N1 := Lib.hid (HM0.out.on hb1); have B1 := Lib.hid (HB.out.on hb1)
  clear hb1 HM0 HB
  have q1 := N1.out.1.1.cell; have q2 := N1.out.1.2.1.cell; have q3 := N1.out.1.2.2.cell
  go_wp2_with fail
  refine (great_lit [a, b, c] w1 3 _ _ rfl rfl rfl (by decide) HM.out false HK.out).mono ?_
  rintro e w2 ⟨rfl, hb2⟩
  have N2 := Lib.hid (N1.out.on hb2); have B2 := Lib.hid (B1.out.on hb2)
  clear hb2 q1 q2 q3 N1 B1
  have q1 := N2.out.1.1.cell; have q2 := N2.out.1.2.1.cell; have q3 := N2.out.1.2.2.cell
  go_wp2_with fail
  refine (C1.out w2).mono ?_
  rintro e w3 ⟨rfl, hb3⟩
  have N3 := Lib.hid (N2.out.on hb3); have B3 := Lib.hid (B2.out.on hb3)
  clear hb3 q1 q2 q3 N2 B2
  have q1 := N3.out.1.1.cell; have q2 := N3.out.1.2.1.cell; have q3 := N3.out.1.2.2.cell
  go_wp2_with fail
  refine (C2.out w3).mono ?_
  rintro e w4 ⟨rfl, hb4⟩
  have N4 := Lib.hid (N3.out.on hb4); have B4 := Lib.hid (B3.out.on hb4)
  clear hb4 q1 q2 q3 N3 B3
  have q1 := N4.out.1.1.cell; have q2 := N4.out.1.2.1.cell; have q3 := N4.out.1.2.2.cell
  go_wp2_with fail
  refine (C3.out w4).mono ?_
  rintro e w5 ⟨rfl, hb5⟩
  have N5 := Lib.hid (N4.out.on hb5); have B5 := Lib.hid (B4.out.on hb5)
  clear hb5 q1 q2 q3 N4 B4
  have q1 := N5.out.1.1.cell; have q2 := N5.out.1.2.1.cell; have q3 := N5.out.1.2.2.cell
  go_wp2_with fail
  refine (C4.out w5).mono ?_
  rintro e w6 ⟨rfl, hb6⟩
  have N6 := Lib.hid (N5.out.on hb6); have B6 := Lib.hid (B5.out.on hb6)
  clear hb6 q1 q2 q3 N5 B5
  have q1 := N6.out.1.1.cell; have q2 := N6.out.1.2.1.cell; have q3 := N6.out.1.2.2.cell
  have hF := HF.out; have hX2 := HX2.out; have hX3 := HX3.out
  have hxv : x = -1 ∨ x = 0 ∨ x = 1 := by omega
  have hyv : y = -1 ∨ y = 0 ∨ y = 1 := by omega
  have hzv : z = -1 ∨ z = 0 ∨ z = 1 := by omega
  clear d1 d2 X1 hX2 hX3 HX2 HX3 HF C1 C2 C3 C4 HM HK
  have KX : Hid (a.k.toList = b.k.toList → a.k = b.k) := fun h => txt_ext (by rwa [Lib.toList_data, Lib.toList_data] at h)
  rcases hxv with rfl | rfl | rfl
  · have hne : ¬ a = b := fun h => by have := HZ1.out.2 h; omega
    have HNE := Lib.hid hne
    clear HZ1 hne
    rcases hyv with rfl | rfl | rfl <;> rcases hzv with rfl | rfl | rfl <;> first
      | (exfalso; omega)
      | (clear hF
         by_cases hk : a.k.toList = b.k.toList
         · by_cases hs : a.s = b.s
           · have hgg : ¬ a.g = b.g := fun h => HNE.out (by obtain ⟨k1, s1, g1⟩ := a; obtain ⟨k2, s2, g2⟩ := b; have e1 := KX.out hk; dsimp only at e1 hs h; subst e1 hs h; rfl)
             go_wp2
             go_ret
             exact ⟨rfl, B6.out⟩
           · go_wp2
             go_ret
             exact ⟨rfl, B6.out⟩
         · go_wp2
           go_ret
           exact ⟨rfl, B6.out⟩)
  · have he : a = b := HZ1.out.1 rfl
    subst he
    clear HZ1
    rcases hyv with rfl | rfl | rfl <;> rcases hzv with rfl | rfl | rfl <;> first
      | (exfalso; omega)
      | (clear hF
         go_wp2
         go_ret
         exact ⟨rfl, B6.out⟩)
  · have hne : ¬ a = b := fun h => by have := HZ1.out.2 h; omega
    have HNE := Lib.hid hne
    clear HZ1 hne
    rcases hyv with rfl | rfl | rfl <;> rcases hzv with rfl | rfl | rfl <;> first
      | (exfalso; omega)
      | (clear hF
         by_cases hk : a.k.toList = b.k.toList
         · by_cases hs : a.s = b.s
           · have hgg : ¬ a.g = b.g := fun h => HNE.out (by obtain ⟨k1, s1, g1⟩ := a; obtain ⟨k2, s2, g2⟩ := b; have e1 := KX.out hk; dsimp only at e1 hs h; subst e1 hs h; rfl)
             go_wp2
             go_ret
             exact ⟨rfl, B6.out⟩
           · go_wp2
             go_ret
             exact ⟨rfl, B6.out⟩
         · go_wp2
           go_ret
           exact ⟨rfl, B6.out⟩)

theorem orderOne_walk (a b c : Mk) (w : World) (xa : a.s < 18446744073709551616) (ya : a.k.size ≤ 140737488351232) (xb : b.s < 18446744073709551616) (yb : b.k.size ≤ 140737488351232) (xc : c.s < 18446744073709551616) (yc : c.k.size ≤ 140737488351232) :
    Calls Try.prog 5 #[a.v, b.v, c.v] w fun e w' => e = .returned (.bool true) ∧ Below w.heap.size w w' := by
  by_cases h : 100000 < ksum [a, b, c]
  · exact orderOne_big a b c w ya yb yc h
  · exact orderOne_small a b c w ya yb yc h
end Go.Proofs.Ytjeijgkkobmdbaa
