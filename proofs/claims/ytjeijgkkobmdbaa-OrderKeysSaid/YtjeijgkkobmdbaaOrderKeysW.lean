/-
  The walk of OrderKeys.
-/
import Derived.Test.YtjeijgkkobmdbaaAlive4
import Derived.Test.YtjeijgkkobmdbaaKept
namespace Go.Proofs.Ytjeijgkkobmdbaa
open Go.RowKit
set_option linter.unusedVariables false
set_option maxRecDepth 100000

theorem less_app (l m : List UInt8) : Op.bytesLess l (l ++ m) = decide (m ≠ []) := by
  induction l with
  | nil => cases m <;> simp [Op.bytesLess]
  | cons a l ih => rw [List.cons_append]; unfold Op.bytesLess; rw [ih]; simp
theorem less_two (l : List UInt8) (a b : UInt8) (h : a ≠ b) : Op.bytesLess (l ++ [a, b]) (l ++ [b, a]) = decide (a.toNat < b.toNat) := by
  induction l with
  | nil =>
    simp only [List.nil_append]
    unfold Op.bytesLess
    have : (a == b) = false := by simpa using h
    rw [this, Bool.false_and, Bool.or_false]
    by_cases h : a < b
    · rw [decide_eq_true h, decide_eq_true (UInt8.lt_iff_toNat_lt.1 h)]
    · rw [decide_eq_false h, decide_eq_false (fun q => h (UInt8.lt_iff_toNat_lt.2 q))]
  | cons c l ih => rw [List.cons_append, List.cons_append]; unfold Op.bytesLess; rw [ih]; simp
theorem app_data (k : ByteArray) (l : List UInt8) : (k ++ ⟨l.toArray⟩ : ByteArray).data.toList = k.data.toList ++ l := by simp
theorem lessB_app (k : ByteArray) (c : UInt8) : lessB k (k ++ ⟨#[c]⟩) = true := by
  unfold lessB
  rw [Lib.toList_data, Lib.toList_data, show (⟨#[c]⟩ : ByteArray) = ⟨[c].toArray⟩ from rfl, app_data, less_app]
  simp
theorem lessB_two (k : ByteArray) (a b : UInt8) (h : a ≠ b) : lessB (k ++ ⟨#[a, b]⟩) (k ++ ⟨#[b, a]⟩) = decide (a.toNat < b.toNat) := by
  unfold lessB
  rw [Lib.toList_data, Lib.toList_data, show (⟨#[a, b]⟩ : ByteArray) = ⟨[a, b].toArray⟩ from rfl, show (⟨#[b, a]⟩ : ByteArray) = ⟨[b, a].toArray⟩ from rfl, app_data, app_data, less_two _ _ _ h]
theorem cmp_begins (k : ByteArray) (c : UInt8) (s t : Nat) : cmpM ⟨k, s, false⟩ ⟨k ++ ⟨#[c]⟩, t, false⟩ = -1 ∧ cmpM ⟨k ++ ⟨#[c]⟩, t, false⟩ ⟨k, s, false⟩ = 1 := by
  have h : cmpM ⟨k, s, false⟩ ⟨k ++ ⟨#[c]⟩, t, false⟩ = -1 := by
    rw [cmpM_eq]
    have : cmpS k (k ++ ⟨#[c]⟩) = -1 := by unfold cmpS; rw [lessB_app, if_pos rfl]
    simp only [this]; rfl
  exact ⟨h, by rw [tri_M.turn, h]; rfl⟩
theorem cmp_parts (k : ByteArray) (a b : UInt8) (s t : Nat) (h : a ≠ b) : cmpM ⟨k ++ ⟨#[a, b]⟩, s, false⟩ ⟨k ++ ⟨#[b, a]⟩, t, false⟩ = if a.toNat < b.toNat then -1 else 1 := by
  rw [cmpM_eq]
  have h2 : a.toNat ≠ b.toNat := fun e => h (UInt8.toNat_inj.1 e)
  by_cases hl : a.toNat < b.toNat
  · have : cmpS (k ++ ⟨#[a, b]⟩) (k ++ ⟨#[b, a]⟩) = -1 := by unfold cmpS; rw [lessB_two k a b h, decide_eq_true hl, if_pos rfl]
    simp only [this, if_pos hl]; rfl
  · have : cmpS (k ++ ⟨#[a, b]⟩) (k ++ ⟨#[b, a]⟩) = 1 := by
      unfold cmpS
      rw [lessB_two k a b h, decide_eq_false hl, lessB_two k b a (Ne.symm h), decide_eq_true (by omega)]; rfl
    simp only [this, if_neg hl]; rfl
theorem cmp_same (k : ByteArray) (s t : Nat) : cmpM ⟨k, s, false⟩ ⟨k, t, false⟩ = cmpN t s := by
  rw [cmpM_eq]
  have : cmpS k k = 0 := tri_S.self k
  simp only [this]
  by_cases h : cmpN t s = 0
  · rw [h]; rfl
  · simp [h]

/-- a literal as a string -/
theorem str_lit (l : List UInt8) (W : World) (g n : Nat) (hg : W.heap.size = g) (hn : l.length = n) :
    (convert 28 9 (.slice (some ⟨g, 0, none⟩) n n)).run Try.prog (W.alloc (.cells (l.map bv).toArray 5)) = .ok (.string ⟨l.toArray⟩) (W.alloc (.cells (l.map bv).toArray 5)) := by
  subst hg hn
  exact run_str _ _ _ 5 Try.underlying28 Try.underlying5 Try.underlying9 l.length (lit_lies W l)

/-- the two arrays in blocks of their own -/
def KB (W : World) (g : Nat) (c0 c1 : UInt8) (s t : Nat) : Prop :=
  W.heap[g]? = some (.cells #[.int .u8 (c0.toNat : Int), .int .u8 (c1.toNat : Int)] 48 (0, 0)) ∧ W.heap[g + 1]? = some (.cells #[.int .u64 (s : Int), .int .u64 (t : Int)] 49 (0, 0)) ∧ g + 1 < W.heap.size
theorem KB.on {W W' : World} {g s t : Nat} {c0 c1 : UInt8} (h : KB W g c0 c1 s t) (hb : Below W.heap.size W W') : KB W' g c0 c1 s t :=
  ⟨(hb.block g (by have := h.2.2; omega)).trans h.1, (hb.block (g + 1) h.2.2).trans h.2.1, Nat.lt_of_lt_of_le h.2.2 hb.size⟩
theorem KB.cells {W : World} {g s t : Nat} {c0 c1 : UInt8} (h : KB W g c0 c1 s t) :
    W.cell? ⟨g, 0, none⟩ = some (.int .u8 (c0.toNat : Int)) ∧ W.cell? ⟨g, 1, none⟩ = some (.int .u8 (c1.toNat : Int)) ∧ W.cell? ⟨g + 1, 0, none⟩ = some (.int .u64 (s : Int)) ∧ W.cell? ⟨g + 1, 1, none⟩ = some (.int .u64 (t : Int)) :=
  ⟨cell_of_row W g 0 _ _ (0, 0) h.1, cell_of_row W g 1 _ _ (0, 0) h.1, cell_of_row W (g + 1) 0 _ _ (0, 0) h.2.1, cell_of_row W (g + 1) 1 _ _ (0, 0) h.2.1⟩
def keyW (w : World) (c0 c1 : UInt8) (s t : Nat) : World := (w.alloc (.cells #[.int .u8 (c0.toNat : Int), .int .u8 (c1.toNat : Int)] 48)).alloc (.cells #[.int .u64 (s : Int), .int .u64 (t : Int)] 49)
theorem keyW_facts (w : World) (c0 c1 : UInt8) (s t : Nat) : KB (keyW w c0 c1 s t) w.heap.size c0 c1 s t ∧ Kept w (keyW w c0 c1 s t) := by
  unfold keyW KB
  generalize hb : Obj.cells #[Value.int .u64 (s : Int), .int .u64 (t : Int)] 49 = ob
  generalize ha : Obj.cells #[Value.int .u8 (c0.toNat : Int), .int .u8 (c1.toNat : Int)] 48 = oa
  have s1 : (w.alloc oa).heap.size = w.heap.size + 1 := by simp
  have h1 : (w.alloc oa).heap[w.heap.size]? = some oa := heap_alloc_new w _
  have h2 : ((w.alloc oa).alloc ob).heap[w.heap.size + 1]? = some ob := by rw [← s1]; exact heap_alloc_new _ _
  exact ⟨⟨(Below.heap_alloc _ _ _ (by omega)).trans h1, h2, by simp⟩, ((Kept.self w).new oa).new ob⟩

set_option maxHeartbeats 1000000 in
theorem orderKeys_big (k : ByteArray) (c0 c1 : UInt8) (s t : Nat) (w : World) (hk : k.size ≤ 140737488351232) (hbig : 100000 < k.size) :
    Calls Try.prog 9 #[.string k, .agg #[.int .u8 (c0.toNat : Int), .int .u8 (c1.toNat : Int)], .agg #[.int .u64 (s : Int), .int .u64 (t : Int)]] w fun e w' => e = .returned (.bool true) ∧ Below w.heap.size w w' := by
  have HB := Lib.hid (keyW_facts w c0 c1 s t).2
  have hd : decide ((100000 : Int) < (k.size : Int)) = true := by simp; omega
  go_enter Try.func9, Try.ntmps9
  go_wp2_with fail
  change Calls _ _ _ (keyW w c0 c1 s t) _
  generalize keyW w c0 c1 s t = W at *
  refine (alive4_any W).mono ?_
  rintro e w1 ⟨rfl, hb1⟩
  have HB1 := Lib.hid (HB.out.on hb1); clear hb1 HB
  go_wp2_with fail
  refine (alive4_any w1).mono ?_
  rintro e w2 ⟨rfl, hb2⟩
  have HB2 := Lib.hid (HB1.out.on hb2); clear hb2 HB1
  go_wp2
  go_ret
  exact ⟨rfl, HB2.out⟩

/-- seven new blocks -/
def al7 (w : World) (o1 o2 o3 o4 o5 o6 o7 : Obj) : World := ((((((w.alloc o1).alloc o2).alloc o3).alloc o4).alloc o5).alloc o6).alloc o7
theorem al7_facts (w : World) (o1 o2 o3 o4 o5 o6 o7 : Obj) : (al7 w o1 o2 o3 o4 o5 o6 o7).heap[w.heap.size + 1]? = some o2 ∧ (al7 w o1 o2 o3 o4 o5 o6 o7).heap[w.heap.size + 1 + 1]? = some o3 ∧ (al7 w o1 o2 o3 o4 o5 o6 o7).heap[w.heap.size + 1 + 1 + 1 + 1]? = some o5 ∧
    (al7 w o1 o2 o3 o4 o5 o6 o7).heap[w.heap.size + 1 + 1 + 1 + 1 + 1 + 1]? = some o7 ∧ Kept w (al7 w o1 o2 o3 o4 o5 o6 o7) ∧ (al7 w o1 o2 o3 o4 o5 o6 o7).heap.size = w.heap.size + 1 + 1 + 1 + 1 + 1 + 1 + 1 := by
  have s1 : (w.alloc o1).heap.size = w.heap.size + 1 := by simp
  have s2 : ((w.alloc o1).alloc o2).heap.size = w.heap.size + 1 + 1 := by simp
  have s3 : (((w.alloc o1).alloc o2).alloc o3).heap.size = w.heap.size + 1 + 1 + 1 := by simp
  have s4 : ((((w.alloc o1).alloc o2).alloc o3).alloc o4).heap.size = w.heap.size + 1 + 1 + 1 + 1 := by simp
  have s5 : (((((w.alloc o1).alloc o2).alloc o3).alloc o4).alloc o5).heap.size = w.heap.size + 1 + 1 + 1 + 1 + 1 := by simp
  have s6 : ((((((w.alloc o1).alloc o2).alloc o3).alloc o4).alloc o5).alloc o6).heap.size = w.heap.size + 1 + 1 + 1 + 1 + 1 + 1 := by simp
  have h2 : ((w.alloc o1).alloc o2).heap[w.heap.size + 1]? = some o2 := by rw [← s1]; exact heap_alloc_new _ _
  have h3 : (((w.alloc o1).alloc o2).alloc o3).heap[w.heap.size + 1 + 1]? = some o3 := by rw [← s2]; exact heap_alloc_new _ _
  have h5 : (((((w.alloc o1).alloc o2).alloc o3).alloc o4).alloc o5).heap[w.heap.size + 1 + 1 + 1 + 1]? = some o5 := by rw [← s4]; exact heap_alloc_new _ _
  have h7 : (al7 w o1 o2 o3 o4 o5 o6 o7).heap[w.heap.size + 1 + 1 + 1 + 1 + 1 + 1]? = some o7 := by unfold al7; rw [← s6]; exact heap_alloc_new _ _
  unfold al7 at *
  refine ⟨?_, ?_, ?_, h7, ((((((Kept.self w).new o1).new o2).new o3).new o4).new o5).new o6 |>.new o7, by simp⟩
  · rw [Below.heap_alloc _ _ _ (by omega), Below.heap_alloc _ _ _ (by omega), Below.heap_alloc _ _ _ (by omega), Below.heap_alloc _ _ _ (by omega), Below.heap_alloc _ _ _ (by omega)]; exact h2
  · rw [Below.heap_alloc _ _ _ (by omega), Below.heap_alloc _ _ _ (by omega), Below.heap_alloc _ _ _ (by omega), Below.heap_alloc _ _ _ (by omega)]; exact h3
  · rw [Below.heap_alloc _ _ _ (by omega), Below.heap_alloc _ _ _ (by omega)]; exact h5

/-- a mark stands in a block, whatever comes -/
def MkIn (w : World) (g : Nat) (m : Mk) : Prop := MkAt w g m ∧ g < w.heap.size
theorem MkIn.on {w w' : World} {g : Nat} {m : Mk} (h : MkIn w g m) (hb : Below w.heap.size w w') : MkIn w' g m := ⟨h.1.below hb h.2, Nat.lt_of_lt_of_le h.2 hb.size⟩

set_option maxHeartbeats 2000000 in
theorem orderKeys_small (k : ByteArray) (c0 c1 : UInt8) (s t : Nat) (w : World) (hk : k.size ≤ 100000) :
    Calls Try.prog 9 #[.string k, .agg #[.int .u8 (c0.toNat : Int), .int .u8 (c1.toNat : Int)], .agg #[.int .u64 (s : Int), .int .u64 (t : Int)]] w fun e w' => e = .returned (.bool true) ∧ Below w.heap.size w w' := by
  have r1 := fun (W : World) (g : Nat) (hg : W.heap.size = g) => str_lit [c0] W g 1 hg rfl
  have r2 := fun (W : World) (g : Nat) (hg : W.heap.size = g) => str_lit [c0, c1] W g 2 hg rfl
  have r3 := fun (W : World) (g : Nat) (hg : W.heap.size = g) => str_lit [c1, c0] W g 2 hg rfl
  simp only [List.map_cons, List.map_nil, bv] at r1 r2 r3
  have hd : decide ((100000 : Int) < (k.size : Int)) = false := by simp; omega
  obtain ⟨hkb, hkw⟩ := keyW_facts w c0 c1 s t
  have HK := Lib.hid hkb; have HB := Lib.hid hkw
  clear hkb hkw
  go_enter Try.func9, Try.ntmps9
  go_wp2_with fail
  change Calls _ _ _ (keyW w c0 c1 s t) _
  generalize keyW w c0 c1 s t = W at *
  refine (alive4_any W).mono ?_
  rintro e w1 ⟨rfl, hb1⟩
  have HK1 := Lib.hid (HK.out.on hb1); have HB1 := Lib.hid (HB.out.on hb1)
  generalize hg : w.heap.size = g at *
  have HG := Lib.hid hg
  have q1 := HK1.out.cells
  have hz1 : g + 1 < w1.heap.size := HK1.out.2.2
  clear hb1 HK HB hg
  have hy0 : g < w1.heap.size := by omega
  have hl0 : g ≤ w1.heap.size := by omega
  have hm0 : g + 1 ≤ w1.heap.size := by omega
  have hp0 : g < w1.heap.size + 1 := by omega
  have hq0 : g + 1 < w1.heap.size + 1 := by omega
  have hl1 : g ≤ w1.heap.size + 1 := by omega
  have hm1 : g + 1 ≤ w1.heap.size + 1 := by omega
  have hp1 : g < w1.heap.size + 1 + 1 := by omega
  have hq1 : g + 1 < w1.heap.size + 1 + 1 := by omega
  have hl2 : g ≤ w1.heap.size + 1 + 1 := by omega
  have hm2 : g + 1 ≤ w1.heap.size + 1 + 1 := by omega
  have hp2 : g < w1.heap.size + 1 + 1 + 1 := by omega
  have hq2 : g + 1 < w1.heap.size + 1 + 1 + 1 := by omega
  have hl3 : g ≤ w1.heap.size + 1 + 1 + 1 := by omega
  have hm3 : g + 1 ≤ w1.heap.size + 1 + 1 + 1 := by omega
  have hp3 : g < w1.heap.size + 1 + 1 + 1 + 1 := by omega
  have hq3 : g + 1 < w1.heap.size + 1 + 1 + 1 + 1 := by omega
  have hl4 : g ≤ w1.heap.size + 1 + 1 + 1 + 1 := by omega
  have hm4 : g + 1 ≤ w1.heap.size + 1 + 1 + 1 + 1 := by omega
  have hp4 : g < w1.heap.size + 1 + 1 + 1 + 1 + 1 := by omega
  have hq4 : g + 1 < w1.heap.size + 1 + 1 + 1 + 1 + 1 := by omega
  have hl5 : g ≤ w1.heap.size + 1 + 1 + 1 + 1 + 1 := by omega
  have hm5 : g + 1 ≤ w1.heap.size + 1 + 1 + 1 + 1 + 1 := by omega
  have hp5 : g < w1.heap.size + 1 + 1 + 1 + 1 + 1 + 1 := by omega
  have hq5 : g + 1 < w1.heap.size + 1 + 1 + 1 + 1 + 1 + 1 := by omega
  have hl6 : g ≤ w1.heap.size + 1 + 1 + 1 + 1 + 1 + 1 := by omega
  have hm6 : g + 1 ≤ w1.heap.size + 1 + 1 + 1 + 1 + 1 + 1 := by omega
  have hp6 : g < w1.heap.size + 1 + 1 + 1 + 1 + 1 + 1 + 1 := by omega
  have hq6 : g + 1 < w1.heap.size + 1 + 1 + 1 + 1 + 1 + 1 + 1 := by omega
  obtain ⟨f2, f3, f5, f7, fk, fz⟩ := al7_facts w1 (.cells #[.int .u8 (c0.toNat : Int)] 5) (.cells #[.string k, .int .u64 (s : Int), .bool false] 24) (.cells #[.string (k ++ ⟨#[c0]⟩), .int .u64 (t : Int), .bool false] 24)
    (.cells #[.int .u8 (c0.toNat : Int), .int .u8 (c1.toNat : Int)] 5) (.cells #[.string (k ++ ⟨#[c0, c1]⟩), .int .u64 (s : Int), .bool false] 24) (.cells #[.int .u8 (c1.toNat : Int), .int .u8 (c0.toNat : Int)] 5) (.cells #[.string (k ++ ⟨#[c1, c0]⟩), .int .u64 (t : Int), .bool false] 24)
  have F := Lib.hid (And.intro f2 (And.intro f3 (And.intro f5 (And.intro f7 (And.intro fk fz)))))
  clear f2 f3 f5 f7 fk fz
  go_wp2_with fail
  change Calls _ _ _ (al7 w1 (.cells #[.int .u8 (c0.toNat : Int)] 5) (.cells #[.string k, .int .u64 (s : Int), .bool false] 24) (.cells #[.string (k ++ ⟨#[c0]⟩), .int .u64 (t : Int), .bool false] 24)
    (.cells #[.int .u8 (c0.toNat : Int), .int .u8 (c1.toNat : Int)] 5) (.cells #[.string (k ++ ⟨#[c0, c1]⟩), .int .u64 (s : Int), .bool false] 24) (.cells #[.int .u8 (c1.toNat : Int), .int .u8 (c0.toNat : Int)] 5) (.cells #[.string (k ++ ⟨#[c1, c0]⟩), .int .u64 (t : Int), .bool false] 24)) _
  generalize al7 w1 (.cells #[.int .u8 (c0.toNat : Int)] 5) (.cells #[.string k, .int .u64 (s : Int), .bool false] 24) (.cells #[.string (k ++ ⟨#[c0]⟩), .int .u64 (t : Int), .bool false] 24)
    (.cells #[.int .u8 (c0.toNat : Int), .int .u8 (c1.toNat : Int)] 5) (.cells #[.string (k ++ ⟨#[c0, c1]⟩), .int .u64 (s : Int), .bool false] 24) (.cells #[.int .u8 (c1.toNat : Int), .int .u8 (c0.toNat : Int)] 5) (.cells #[.string (k ++ ⟨#[c1, c0]⟩), .int .u64 (t : Int), .bool false] 24) = W2 at *
  generalize w1.heap.size = h at *
  have A0 : Hid (MkIn W2 (h + 1) ⟨k, s, false⟩) := ⟨F.out.1, by have := F.out.2.2.2.2.2; omega⟩
  have B0 : Hid (MkIn W2 (h + 1 + 1) ⟨k ++ ⟨#[c0]⟩, t, false⟩) := ⟨F.out.2.1, by have := F.out.2.2.2.2.2; omega⟩
  have C0 : Hid (MkIn W2 (h + 1 + 1 + 1 + 1) ⟨k ++ ⟨#[c0, c1]⟩, s, false⟩) := ⟨F.out.2.2.1, by have := F.out.2.2.2.2.2; omega⟩
  have D0 : Hid (MkIn W2 (h + 1 + 1 + 1 + 1 + 1 + 1) ⟨k ++ ⟨#[c1, c0]⟩, t, false⟩) := ⟨F.out.2.2.2.1, by have := F.out.2.2.2.2.2; omega⟩
  have E0 := Lib.hid (HK1.out.on F.out.2.2.2.2.1); have K0 := Lib.hid (HB1.out.on F.out.2.2.2.2.1)
  have q2 := B0.out.1.cell; have q3 := C0.out.1.cell; have q4 := D0.out.1.cell; have q5 := E0.out.cells
  clear q1
  have q1 := A0.out.1.cell
  have P1 : Hid (∀ W, Calls Try.prog 14 #[.agg #[.string k, .int .u64 (s : Int), .bool false], .agg #[.string (k ++ ⟨#[c0]⟩), .int .u64 (t : Int), .bool false]] W fun e w' => e = .returned (.int .i64 (-1)) ∧ Below W.heap.size W w') := fun W => by
    have := cmp_any ⟨k, s, false⟩ ⟨k ++ ⟨#[c0]⟩, t, false⟩ W
    rw [(cmp_begins k c0 s t).1] at this; exact this
  have P2 : Hid (∀ W, Calls Try.prog 14 #[.agg #[.string (k ++ ⟨#[c0]⟩), .int .u64 (t : Int), .bool false], .agg #[.string k, .int .u64 (s : Int), .bool false]] W fun e w' => e = .returned (.int .i64 1) ∧ Below W.heap.size W w') := fun W => by
    have := cmp_any ⟨k ++ ⟨#[c0]⟩, t, false⟩ ⟨k, s, false⟩ W
    rw [(cmp_begins k c0 s t).2] at this; exact this
  have P3 : Hid (∀ W z, cmpM ⟨k ++ ⟨#[c0, c1]⟩, s, false⟩ ⟨k ++ ⟨#[c1, c0]⟩, t, false⟩ = z → Calls Try.prog 14 #[.agg #[.string (k ++ ⟨#[c0, c1]⟩), .int .u64 (s : Int), .bool false], .agg #[.string (k ++ ⟨#[c1, c0]⟩), .int .u64 (t : Int), .bool false]] W fun e w' => e = .returned (.int .i64 z) ∧ Below W.heap.size W w') := fun W z hz => by
    have := cmp_any ⟨k ++ ⟨#[c0, c1]⟩, s, false⟩ ⟨k ++ ⟨#[c1, c0]⟩, t, false⟩ W
    rw [hz] at this; exact this
  clear HK1 HB1 F r1 r2 r3 hz1 hy0 hl0 hm0 hp0 hq0 hl1 hm1 hp1 hq1 hl2 hm2 hp2 hq2 hl3 hm3 hp3 hq3 hl4 hm4 hp4 hq4 hl5 hm5 hp5 hq5 hl6 hm6 hp6 hq6 hk hd
  go_wp2_with fail
  refine (P1.out W2).mono ?_
  rintro e w3 ⟨rfl, hb⟩
  have A1 := Lib.hid (A0.out.on hb); have B1 := Lib.hid (B0.out.on hb); have C1 := Lib.hid (C0.out.on hb); have D1 := Lib.hid (D0.out.on hb); have E1 := Lib.hid (E0.out.on hb); have K1 := Lib.hid (K0.out.on hb)
  clear hb q1 q2 q3 q4 q5 A0 B0 C0 D0 E0 K0
  have q1 := A1.out.1.cell; have q2 := B1.out.1.cell; have q3 := C1.out.1.cell; have q4 := D1.out.1.cell; have q5 := E1.out.cells
  go_wp2_with fail
  refine (P2.out w3).mono ?_
  rintro e w4 ⟨rfl, hb⟩
  have A2 := Lib.hid (A1.out.on hb); have B2 := Lib.hid (B1.out.on hb); have C2 := Lib.hid (C1.out.on hb); have D2 := Lib.hid (D1.out.on hb); have E2 := Lib.hid (E1.out.on hb); have K2 := Lib.hid (K1.out.on hb)
  clear hb q1 q2 q3 q4 q5 A1 B1 C1 D1 E1 K1
  have q1 := A2.out.1.cell; have q2 := B2.out.1.cell; have q3 := C2.out.1.cell; have q4 := D2.out.1.cell; have q5 := E2.out.cells
  go_wp2_with fail
  clear P1 P2
  by_cases hc : c0 = c1
  · subst hc
    have hcn : ((c0.toNat : Int) == (c0.toNat : Int)) = true := by simp
    have HS := cmp_same (k ++ ⟨#[c0, c0]⟩) s t
    by_cases h1 : t < s
    · have hz : cmpN t s = -1 := by unfold cmpN; rw [if_pos h1]
      have d1 : decide (t < s) = true := decide_eq_true h1
      have d2 : ((s : Int) == (t : Int)) = false := by simp; omega
      refine (P3.out w4 (-1) (by rw [HS, hz])).mono ?_
      clear HS P3
      rintro e w5 ⟨rfl, hb⟩
      have E3 := Lib.hid (E2.out.on hb); have K3 := Lib.hid (K2.out.on hb)
      clear hb q1 q2 q3 q4 q5 A2 B2 C2 D2 E2 K2
      have q5 := E3.out.cells
      go_wp2
      go_ret
      exact ⟨rfl, K3.out⟩
    · have d1 : decide (t < s) = false := decide_eq_false h1
      by_cases h2 : s < t
      · have hz : cmpN t s = 1 := by unfold cmpN; rw [if_neg h1, if_pos h2]
        have d2 : ((s : Int) == (t : Int)) = false := by simp; omega
        refine (P3.out w4 1 (by rw [HS, hz])).mono ?_
        clear HS P3
        rintro e w5 ⟨rfl, hb⟩
        have E3 := Lib.hid (E2.out.on hb); have K3 := Lib.hid (K2.out.on hb)
        clear hb q1 q2 q3 q4 q5 A2 B2 C2 D2 E2 K2
        have q5 := E3.out.cells
        go_wp2
        go_ret
        exact ⟨rfl, K3.out⟩
      · obtain rfl : s = t := by omega
        have hz : cmpN s s = 0 := by unfold cmpN; rw [if_neg h1, if_neg h1]
        have d2 : ((s : Int) == (s : Int)) = true := by simp
        refine (P3.out w4 0 (by rw [HS, hz])).mono ?_
        clear HS P3
        rintro e w5 ⟨rfl, hb⟩
        have E3 := Lib.hid (E2.out.on hb); have K3 := Lib.hid (K2.out.on hb)
        clear hb q1 q2 q3 q4 q5 A2 B2 C2 D2 E2 K2
        have q5 := E3.out.cells
        go_wp2
        go_ret
        exact ⟨rfl, K3.out⟩
  · have hn : c0.toNat ≠ c1.toNat := fun e => hc (UInt8.toNat_inj.1 e)
    have hcn : ((c0.toNat : Int) == (c1.toNat : Int)) = false := by simp; omega
    have HS := cmp_parts k c0 c1 s t hc
    by_cases h1 : c0.toNat < c1.toNat
    · have d1 : decide (c0.toNat < c1.toNat) = true := decide_eq_true h1
      refine (P3.out w4 (-1) (by rw [HS, if_pos h1])).mono ?_
      clear HS P3
      rintro e w5 ⟨rfl, hb⟩
      have E3 := Lib.hid (E2.out.on hb); have K3 := Lib.hid (K2.out.on hb)
      clear hb q1 q2 q3 q4 q5 A2 B2 C2 D2 E2 K2
      have q5 := E3.out.cells
      go_wp2
      go_ret
      exact ⟨rfl, K3.out⟩
    · have d1 : decide (c0.toNat < c1.toNat) = false := decide_eq_false h1
      refine (P3.out w4 1 (by rw [HS, if_neg h1])).mono ?_
      clear HS P3
      rintro e w5 ⟨rfl, hb⟩
      have E3 := Lib.hid (E2.out.on hb); have K3 := Lib.hid (K2.out.on hb)
      clear hb q1 q2 q3 q4 q5 A2 B2 C2 D2 E2 K2
      have q5 := E3.out.cells
      go_wp2
      go_ret
      exact ⟨rfl, K3.out⟩

theorem orderKeys_walk (k : ByteArray) (cs : List UInt8) (s t : Nat) (w : World) (hk : k.size ≤ 140737488351232) (hcs : cs.length = 2) (hs : s < 18446744073709551616) (ht : t < 18446744073709551616) :
    Calls Try.prog 9 #[.string k, .agg (cs.map bv).toArray, .agg #[.int .u64 (s : Int), .int .u64 (t : Int)]] w fun e w' => e = .returned (.bool true) ∧ Below w.heap.size w w' := by
  match cs, hcs with
  | [c0, c1], _ =>
    by_cases h : 100000 < k.size
    · exact orderKeys_big k c0 c1 s t w hk h
    · exact orderKeys_small k c0 c1 s t w (by omega)
end Go.Proofs.Ytjeijgkkobmdbaa
