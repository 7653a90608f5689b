/-
  Layer 11's laws: may a file be; SameIds, SameEdit.
-/
import Derived.Test.YtbnndajpjhgafaaEdI
import Derived.Test.YtbnndajpjhgafaaEdP
namespace Go.Proofs.Ytbnndajpjhgafaa
open Go.RowKit
set_option linter.unusedVariables false
set_option maxRecDepth 100000

set_option maxHeartbeats 2000000 in
theorem may11_any (f : Fi) (w : World) (hs : szFi f) :
    Calls Try.prog 12 #[.agg #[.int .u32 (f.num : Int), .int .i64 f.lv, .string f.a, .string f.z]] w fun e w' => e = .returned (.bool (okFi f)) ∧ Below w.heap.size w w' := by
  obtain ⟨_, _, ha, hz⟩ := hs
  obtain ⟨x, hx⟩ : ∃ x, chk f.a = x := ⟨_, rfl⟩
  obtain ⟨y, hy⟩ : ∃ y, chk f.z = y := ⟨_, rfl⟩
  have CA : Hid (∀ W, Calls Try.prog 27 #[.string f.a] W fun e w' => e = .returned (.bool x) ∧ W = w') := fun W => by rw [← hx]; exact chk_any f.a W (by omega)
  have CZ : Hid (∀ W, Calls Try.prog 27 #[.string f.z] W fun e w' => e = .returned (.bool y) ∧ W = w') := fun W => by rw [← hy]; exact chk_any f.z W (by omega)
  obtain ⟨z0, z1, z2, z3⟩ := (FiAt.new w f).cells
  have HB := Lib.hid (fiW_below w f)
  obtain ⟨W0, hW0⟩ : ∃ W0, fiW w f = W0 := ⟨_, rfl⟩
  rw [hW0] at z0 z1 z2 z3 HB
  have hW1 : w.alloc (.cells #[.int .u32 (f.num : Int), .int .i64 f.lv, .string f.a, .string f.z] 33) = W0 := hW0
  clear hW0
  unfold okFi
  rw [hx, hy]
  clear hx hy
  by_cases h1 : 0 ≤ f.lv
  · have d1 : decide (0 ≤ f.lv) = true := decide_eq_true h1
    rw [d1]
    by_cases h2 : f.lv < 4
    · have d2 : decide (f.lv < 4) = true := decide_eq_true h2
      rw [d2]
      cases x
      · go_enter Try.func12, Try.ntmps12
        go_wp2_with fail
        with_reducible refine Calls.mono (CA.out _) ?_
        rintro e w' ⟨rfl, rfl⟩
        go_wp2
        go_ret
        exact ⟨rfl, HB.out⟩
      · cases y
        · go_enter Try.func12, Try.ntmps12
          go_wp2_with fail
          with_reducible refine Calls.mono (CA.out _) ?_
          rintro e w' ⟨rfl, rfl⟩
          go_wp2_with fail
          with_reducible refine Calls.mono (CZ.out _) ?_
          rintro e w' ⟨rfl, rfl⟩
          go_wp2
          go_ret
          exact ⟨rfl, HB.out⟩
        · have hl : Op.bytesLess f.a.toList f.z.toList = lessB f.a f.z := rfl
          have he : (f.a.toList == f.z.toList) = decide (f.a = f.z) := txt_eqB _ _
          have hg : (lessB f.a f.z || decide (f.a = f.z)) = !lessB f.z f.a := by rw [← lessB_gt f.a f.z, Bool.not_not]
          obtain ⟨b, hb⟩ : ∃ b, lessB f.a f.z = b := ⟨_, rfl⟩
          obtain ⟨c, hc⟩ : ∃ c, decide (f.a = f.z) = c := ⟨_, rfl⟩
          obtain ⟨d, hd⟩ : ∃ d, lessB f.z f.a = d := ⟨_, rfl⟩
          rw [hb] at hl
          rw [hc] at he
          rw [hb, hc, hd] at hg
          rw [hd]
          clear hb hc hd
          go_enter Try.func12, Try.ntmps12
          go_wp2_with fail
          with_reducible refine Calls.mono (CA.out _) ?_
          rintro e w' ⟨rfl, rfl⟩
          go_wp2_with fail
          with_reducible refine Calls.mono (CZ.out _) ?_
          rintro e w' ⟨rfl, rfl⟩
          go_wp2
          go_ret
          exact ⟨rfl, HB.out⟩
    · have d2 : decide (f.lv < 4) = false := decide_eq_false h2
      rw [d2]
      go_enter Try.func12, Try.ntmps12
      go_wp2
      go_ret
      exact ⟨rfl, HB.out⟩
  · have d1 : decide (0 ≤ f.lv) = false := decide_eq_false h1
    rw [d1]
    go_enter Try.func12, Try.ntmps12
    go_wp2
    go_ret
    exact ⟨rfl, HB.out⟩

set_option maxHeartbeats 1000000 in
theorem sameIds_yes {w : World} {A A2 : Option Addr} {n c c2 : Nat} {l : List Nat} (h1 : Lies w w.heap.size 1 A n (kvs l)) (h2 : Lies w w.heap.size 1 A2 n (kvs l)) (hn : n ≤ 4611686018427387904) :
    Calls Try.prog 31 #[.slice A n c, .slice A2 n c2] w fun e w' => e = .returned (.bool true) ∧ Below w.heap.size w w' := by
  have H1 := Lib.hid h1; have H2 := Lib.hid h2
  clear h1 h2
  go_enter Try.func31, Try.ntmps31
  go_wp2
  go_loopw [5] (fun i wr => ∃ k q : Nat, k ≤ n ∧ i = .int .i64 (k : Int) ∧ wr = w.drewN q) (fun i _ => n - (intOf i).toNat)
  case atStart => exact ⟨0, 0, Nat.zero_le _, rfl, rfl⟩
  case round =>
    obtain ⟨k, q, hk, rfl, rfl⟩ := hrel
    by_cases hlt : k < n
    · obtain ⟨b, o, x, rfl, hbB, hu, c0⟩ := H1.out.num hlt
      obtain ⟨b2, o2, x2, rfl, hbB2, hu2, d0⟩ := H2.out.num hlt
      rw [hu] at hu2
      injection hu2 with hu2
      subst hu2
      have hi0 : (0 : Int) ≤ (k : Int) := by omega
      have hi1 : (k : Int) < (n : Int) := by omega
      clear hu
      go_wp2
      go_quiet (fail)
      go_wp2
      go_roundw
      case rel => exact ⟨k + 1, _, hlt, by go_num, by first | rfl | (rw [World.drewN_drewN])⟩
      case measure => simp [intOf]; omega
    · obtain rfl : k = n := by omega
      go_wp2
      go_ret
      exact ⟨rfl, below_drewN (Below.refl _ _) _⟩

section
variable {w : World} {n1 n2 c1 c2 d1 d2 : Nat} {P1 P2 Q1 Q2 : Option Addr}
set_option maxHeartbeats 1000000 in
/-- two edits that hold the same -/
theorem sameEd_yes (x : Edt) (h1 : Lies w w.heap.size 4 P1 n1 (fcs x.add)) (h2 : Lies w w.heap.size 1 P2 n2 (kvs x.rem)) (g1 : Lies w w.heap.size 4 Q1 n1 (fcs x.add)) (g2 : Lies w w.heap.size 1 Q2 n2 (kvs x.rem)) (hn : n1 ≤ 1000000) (hn2 : n2 ≤ 1000000) :
    Calls Try.prog 16 #[.agg #[.slice P1 n1 c1, .slice P2 n2 c2, .int .u32 (x.jn : Int), .int .u32 (x.nx : Int), .int .u64 (x.sq : Int)], .agg #[.slice Q1 n1 d1, .slice Q2 n2 d2, .int .u32 (x.jn : Int), .int .u32 (x.nx : Int), .int .u64 (x.sq : Int)]] w fun e w' => e = .returned (.bool true) ∧ Below w.heap.size w w' := by
  have al : ∀ (w : World) (o : Obj), Below w.heap.size w (w.alloc o) := fun w o => (Below.refl _ _).alloc (Nat.le_refl _) _
  have hE : EtAt (w.alloc (.cells #[.slice P1 n1 c1, .slice P2 n2 c2, .int .u32 (x.jn : Int), .int .u32 (x.nx : Int), .int .u64 (x.sq : Int)] 27)) w.heap.size P1 n1 c1 P2 n2 c2 x.jn x.nx x.sq := heap_alloc_new w _
  have b1 := al w (.cells #[.slice P1 n1 c1, .slice P2 n2 c2, .int .u32 (x.jn : Int), .int .u32 (x.nx : Int), .int .u64 (x.sq : Int)] 27)
  obtain ⟨W1, hW1⟩ : ∃ W, w.alloc (.cells #[.slice P1 n1 c1, .slice P2 n2 c2, .int .u32 (x.jn : Int), .int .u32 (x.nx : Int), .int .u64 (x.sq : Int)] 27) = W := ⟨_, rfl⟩
  have hz1 : W1.heap.size = w.heap.size + 1 := by rw [← hW1]; simp
  rw [hW1] at hE b1
  have hF : EtAt (W1.alloc (.cells #[.slice Q1 n1 d1, .slice Q2 n2 d2, .int .u32 (x.jn : Int), .int .u32 (x.nx : Int), .int .u64 (x.sq : Int)] 27)) W1.heap.size Q1 n1 d1 Q2 n2 d2 x.jn x.nx x.sq := heap_alloc_new W1 _
  have b2 := al W1 (.cells #[.slice Q1 n1 d1, .slice Q2 n2 d2, .int .u32 (x.jn : Int), .int .u32 (x.nx : Int), .int .u64 (x.sq : Int)] 27)
  obtain ⟨W2, hW2⟩ : ∃ W, W1.alloc (.cells #[.slice Q1 n1 d1, .slice Q2 n2 d2, .int .u32 (x.jn : Int), .int .u32 (x.nx : Int), .int .u64 (x.sq : Int)] 27) = W := ⟨_, rfl⟩
  rw [hW2] at hF b2
  rw [hz1] at hF
  have hE2 := hE.below b2 hE.lt
  have b12 : Below w.heap.size w W2 := b1.trans (b2.mono b1.size)
  have HB := Lib.hid b12; have HE := Lib.hid hE2; have HF := Lib.hid hF
  have u : ∀ {W W' : World} {k m : Nat} {A : Option Addr} {xs : List Value}, Lies W W.heap.size k A m xs → Below W.heap.size W W' → Lies W' W'.heap.size k A m xs := fun h hb => (h.below hb).more hb.size
  have HS := Lib.hid (sameF_yes (c := c1) (c2 := d1) (u h1 b12) (u g1 b12) (by omega))
  have H2 := Lib.hid (u h2 b12); have G2 := Lib.hid (u g2 b12)
  obtain ⟨k0, k1, k2, k3, k4⟩ := hE2.cells
  obtain ⟨m0, m1, m2, m3, m4⟩ := hF.cells
  clear h1 h2 g1 g2 hE hF hE2 b1 b2 b12
  go_enter Try.func16, Try.ntmps16
  go_wp2_with fail
  with_reducible refine Calls.mono HS.out ?_
  rintro e w3 ⟨rfl, hb3⟩
  have HS2 := Lib.hid (sameIds_yes (c := c2) (c2 := d2) ((H2.out.below hb3).more hb3.size) ((G2.out.below hb3).more hb3.size) (by omega))
  have HB3 := Lib.hid (HB.out.trans (hb3.mono HB.out.size))
  have HE3 := Lib.hid (HE.out.below hb3 HE.out.lt); have HF3 := Lib.hid (HF.out.below hb3 HF.out.lt)
  clear k0 k1 k2 k3 k4 m0 m1 m2 m3 m4
  obtain ⟨k0, k1, k2, k3, k4⟩ := HE3.out.cells
  obtain ⟨m0, m1, m2, m3, m4⟩ := HF3.out.cells
  clear hb3 HS H2 G2 HE HF HB
  go_wp2_with fail
  with_reducible refine Calls.mono HS2.out ?_
  rintro e w4 ⟨rfl, hb4⟩
  have HB4 := Lib.hid (HB3.out.trans (hb4.mono HB3.out.size))
  have HE4 := Lib.hid (HE3.out.below hb4 HE3.out.lt); have HF4 := Lib.hid (HF3.out.below hb4 HF3.out.lt)
  clear k0 k1 k2 k3 k4 m0 m1 m2 m3 m4
  obtain ⟨k0, k1, k2, k3, k4⟩ := HE4.out.cells
  obtain ⟨m0, m1, m2, m3, m4⟩ := HF4.out.cells
  clear hb4 HS2
  go_wp2
  go_ret
  exact ⟨rfl, HB4.out⟩
end
end Go.Proofs.Ytbnndajpjhgafaa
