/-
  The document's own answer of layer 4: Get.
-/
import Derived.Test.YtjeijgkkobmdbaaRef4
import Derived.Test.YtjeijgkkobmdbaaRef1X
import Derived.Test.YtjeijgkkobmdbaaEnt
namespace Go.Proofs.Ytjeijgkkobmdbaa
open Go.RowKit
set_option linter.unusedVariables false
set_option maxRecDepth 100000

/-- the world in which the document's Get begins -/
def rgW (w : World) : World := w.alloc (.cells #[.string ByteArray.empty, .int .u64 0, .bool false, .string ByteArray.empty] 32)
theorem rgW_facts (w : World) : EnAt (rgW w) w.heap.size En.zero ∧ Below w.heap.size w (rgW w) ∧ (rgW w).heap.size = w.heap.size + 1 := ⟨EnAt.new w En.zero, (Below.refl _ _).alloc (Nat.le_refl _) _, by unfold rgW; simp⟩
theorem rget_lies {A : Option Addr} {n : Nat} {l : List UInt8} {w : World} (h : Lies w w.heap.size 1 A n (l.map bv)) : Lies (rgW w) (rgW w).heap.size 1 A n (l.map bv) := by
  have b := (rgW_facts w).2.1
  exact (h.below b).more b.size

set_option maxHeartbeats 2000000 in
/-- nothing is answered -/
theorem rget_zero (W : World) (g : Nat) (h : EnAt W g En.zero) : EnAt (stE W g En.zero) g En.zero := h.put4 En.zero

set_option maxHeartbeats 1000000 in
theorem rget_kbad (A : Option Addr) (n c e0 : Nat) (l : List UInt8) (w : World) (h : Lies w w.heap.size 1 A n (l.map bv)) (hnc : n ≤ c) (hc : c ≤ 140737488351232) (s : List UInt8) (t : Nat) (hg : getText l = (s, t, e0)) (he : e0 ≠ 0) :
    Calls Try.prog 19 #[.slice A n c] w fun e w' => GotE w (En.zero, 0, e0) e w' := by
  obtain ⟨E, B, Z⟩ := rgW_facts w
  have T := ref_getText A n c _ l (rgW w) (rget_lies h) (by omega) hnc (by unfold maxLen; omega)
  rw [hg] at T
  have HT := Lib.hid T; have HE := Lib.hid E; have HB := Lib.hid B
  have hne : ((e0 : Int) != 0) = true := by simp; omega
  have q := E.cell
  have f0 := E.frozen 0; have f1 := E.frozen 1; have f2 := E.frozen 2; have f3 := E.frozen 3
  clear T E B Z h hg
  go_enter Try.func19, Try.ntmps19
  go_wp2_with fail
  change Calls _ _ _ (rgW w) _
  generalize rgW w = W at *
  refine HT.out.mono ?_
  rintro e w1 ⟨rfl, rfl⟩
  go_wp2
  change bodyPost _ _ _ _ _ (stE W w.heap.size En.zero)
  have HX := HE.out.put4 En.zero
  have HB2 := below_put4 HB.out (Nat.le_refl _) En.zero
  generalize stE W w.heap.size En.zero = W2 at *
  obtain ⟨z0, z1, z2, z3⟩ := HX.cell
  exact bodyPost_ret (v := .tuple #[En.zero.v, .int .i64 0, .int .i64 (e0 : Int)]) (by simp [results, Try.results19, go_sem, z0, z1, z2, z3, En.v]) rfl ⟨rfl, HB2⟩

theorem rg_end {w W : World} {g : Nat} {x : En} (h : EnAt W g x) (hb : Below w.heap.size w W) (hg : w.heap.size ≤ g) (y : En) (o : Obj) : EnAt ((stE W g y).alloc o) g y ∧ Below w.heap.size w ((stE W g y).alloc o) := by
  have h1 := h.put4 y
  have h2 := below_put4 hb hg y
  exact ⟨h1.below ((Below.refl _ _).alloc (Nat.le_refl _) o) h1.lt, h2.alloc h2.size o⟩

set_option maxHeartbeats 3000000 in
theorem rget_kform (A : Option Addr) (n c : Nat) (l : List UInt8) (w : World) (h : Lies w w.heap.size 1 A n (l.map bv)) (hnc : n ≤ c) (hc : c ≤ 140737488351232) (ks : List UInt8) (t1 : Nat) (hg : getText l = (ks, t1, 0)) (hch : chk ⟨ks.toArray⟩ = false) :
    Calls Try.prog 19 #[.slice A n c] w fun e w' => GotE w (En.zero, 0, 4) e w' := by
  obtain ⟨E, B, Z⟩ := rgW_facts w
  have hln := h.blen
  have T := ref_getText A n c _ l (rgW w) (rget_lies h) (by omega) hnc (by unfold maxLen; omega)
  have hks := (getText_took l).2.1
  have ht1 := (getText_took l).1
  rw [hg] at T hks ht1
  dsimp only at hks ht1
  have CK := fun W => rchk_any ⟨ks.toArray⟩ W (by rw [txt_size]; omega)
  rw [hch] at CK
  generalize hkb : (⟨ks.toArray⟩ : ByteArray) = kb at *
  have HT := Lib.hid T; have HE := Lib.hid E; have HB := Lib.hid B; have HC := Lib.hid CK; have HZ := Lib.hid Z
  have q := E.cell
  have f0 := E.frozen 0; have f1 := E.frozen 1; have f2 := E.frozen 2; have f3 := E.frozen 3
  have L := rget_lies h
  clear T E B CK Z hkb hch
  have ht1n : t1 ≤ n := by omega
  clear h hg ht1 hks hln L
  go_enter Try.func19, Try.ntmps19
  go_wp2_with fail
  change Calls _ _ _ (rgW w) _
  generalize rgW w = W at *
  refine HT.out.mono ?_
  rintro e w1 ⟨rfl, rfl⟩
  go_wp2_with fail
  refine (HC.out W).mono ?_
  rintro e w1 ⟨rfl, rfl⟩
  go_wp2
  change bodyPost _ _ _ _ _ (stE W w.heap.size En.zero)
  have HX := HE.out.put4 En.zero
  have HB2 := below_put4 HB.out (Nat.le_refl _) En.zero
  generalize stE W w.heap.size En.zero = W2 at *
  obtain ⟨z0, z1, z2, z3⟩ := HX.cell
  exact bodyPost_ret (v := .tuple #[En.zero.v, .int .i64 0, .int .i64 4]) (by simp [results, Try.results19, go_sem, z0, z1, z2, z3, En.v]) rfl ⟨rfl, HB2⟩

set_option maxHeartbeats 3000000 in
theorem rget_sbad (A : Option Addr) (n c : Nat) (l : List UInt8) (w : World) (h : Lies w w.heap.size 1 A n (l.map bv)) (hnc : n ≤ c) (hc : c ≤ 140737488351232) (ks : List UInt8) (t1 : Nat) (hg : getText l = (ks, t1, 0)) (hch : chk ⟨ks.toArray⟩ = true) (s t2 e2 : Nat) (hs : Vi.get (l.drop t1) = (s, t2, e2)) (he : e2 ≠ 0) :
    Calls Try.prog 19 #[.slice A n c] w fun e w' => GotE w (En.zero, 0, e2) e w' := by
  obtain ⟨E, B, Z⟩ := rgW_facts w
  have hln := h.blen
  have T := ref_getText A n c _ l (rgW w) (rget_lies h) (by omega) hnc (by unfold maxLen; omega)
  have hks := (getText_took l).2.1
  have ht1 := (getText_took l).1
  rw [hg] at T hks ht1
  dsimp only at hks ht1
  have CK := fun W => rchk_any ⟨ks.toArray⟩ W (by rw [txt_size]; omega)
  rw [hch] at CK
  generalize hkb : (⟨ks.toArray⟩ : ByteArray) = kb at *
  have HT := Lib.hid T; have HE := Lib.hid E; have HB := Lib.hid B; have HC := Lib.hid CK; have HZ := Lib.hid Z
  have q := E.cell
  have f0 := E.frozen 0; have f1 := E.frozen 1; have f2 := E.frozen 2; have f3 := E.frozen 3
  have L := rget_lies h
  clear T E B CK Z hkb hch
  have L1 := L.cutA (m := t1) (c := c) (by omega) hnc
  have R := ref_get (cutA A c t1) (n - t1) (c - t1) _ (l.drop t1) (rgW w) L1 (by omega)
  rw [hs] at R
  have HR := Lib.hid R
  have hcut : ∀ W, (Instr.slice 28 (.slice A n c) (some (.int .i64 (t1 : Int))) none none).run Try.prog W = .ok (.slice (cutA A c t1) (n - t1) (c - t1)) W := fun W => run_cut W A n c t1 (by omega)
  clear R L1
  have hne : ((e2 : Int) != 0) = true := by simp; omega
  clear hs he
  have ht1n : t1 ≤ n := by omega
  clear h hg ht1 hks hln L
  go_enter Try.func19, Try.ntmps19
  go_wp2_with fail
  change Calls _ _ _ (rgW w) _
  generalize rgW w = W at *
  refine HT.out.mono ?_
  rintro e w1 ⟨rfl, rfl⟩
  go_wp2_with fail
  refine (HC.out W).mono ?_
  rintro e w1 ⟨rfl, rfl⟩
  go_wp2_with fail
  refine HR.out.mono ?_
  rintro e w1 ⟨rfl, rfl⟩
  go_wp2
  change bodyPost _ _ _ _ _ (stE W w.heap.size En.zero)
  have HX := HE.out.put4 En.zero
  have HB2 := below_put4 HB.out (Nat.le_refl _) En.zero
  generalize stE W w.heap.size En.zero = W2 at *
  obtain ⟨z0, z1, z2, z3⟩ := HX.cell
  exact bodyPost_ret (v := .tuple #[En.zero.v, .int .i64 0, .int .i64 (e2 : Int)]) (by simp [results, Try.results19, go_sem, z0, z1, z2, z3, En.v]) rfl ⟨rfl, HB2⟩

set_option maxHeartbeats 3000000 in
theorem rget_end (A : Option Addr) (n c : Nat) (l : List UInt8) (w : World) (h : Lies w w.heap.size 1 A n (l.map bv)) (hnc : n ≤ c) (hc : c ≤ 140737488351232) (ks : List UInt8) (t1 : Nat) (hg : getText l = (ks, t1, 0)) (hch : chk ⟨ks.toArray⟩ = true) (s t2 : Nat) (hs : Vi.get (l.drop t1) = (s, t2, 0)) (hd : (l.drop t1).drop t2 = []) :
    Calls Try.prog 19 #[.slice A n c] w fun e w' => GotE w (En.zero, 0, 5) e w' := by
  obtain ⟨E, B, Z⟩ := rgW_facts w
  have hln := h.blen
  have T := ref_getText A n c _ l (rgW w) (rget_lies h) (by omega) hnc (by unfold maxLen; omega)
  have hks := (getText_took l).2.1
  have ht1 := (getText_took l).1
  rw [hg] at T hks ht1
  dsimp only at hks ht1
  have CK := fun W => rchk_any ⟨ks.toArray⟩ W (by rw [txt_size]; omega)
  rw [hch] at CK
  generalize hkb : (⟨ks.toArray⟩ : ByteArray) = kb at *
  have HT := Lib.hid T; have HE := Lib.hid E; have HB := Lib.hid B; have HC := Lib.hid CK; have HZ := Lib.hid Z
  have q := E.cell
  have f0 := E.frozen 0; have f1 := E.frozen 1; have f2 := E.frozen 2; have f3 := E.frozen 3
  have L := rget_lies h
  clear T E B CK Z hkb hch
  have L1 := L.cutA (m := t1) (c := c) (by omega) hnc
  have R := ref_get (cutA A c t1) (n - t1) (c - t1) _ (l.drop t1) (rgW w) L1 (by omega)
  rw [hs] at R
  have HR := Lib.hid R
  have hcut : ∀ W, (Instr.slice 28 (.slice A n c) (some (.int .i64 (t1 : Int))) none none).run Try.prog W = .ok (.slice (cutA A c t1) (n - t1) (c - t1)) W := fun W => run_cut W A n c t1 (by omega)
  clear R L1
  have hlen : t1 + t2 = n := by
    have h2 := get_took (l.drop t1)
    rw [hs] at h2
    have e1 := congrArg List.length hd
    rw [List.length_drop, List.length_drop] at e1
    rw [List.length_drop] at h2
    simp at e1 h2; omega
  have hat : ((t1 : Int) + (t2 : Int) == (n : Int)) = true := by simp; omega
  have hsn : t2 ≤ 140737488351232 := by omega
  have HLN := Lib.hid hlen
  clear hs hd hlen
  have ht1n : t1 ≤ n := by omega
  clear h hg ht1 hks hln L
  go_enter Try.func19, Try.ntmps19
  go_wp2_with fail
  change Calls _ _ _ (rgW w) _
  generalize rgW w = W at *
  refine HT.out.mono ?_
  rintro e w1 ⟨rfl, rfl⟩
  go_wp2_with fail
  refine (HC.out W).mono ?_
  rintro e w1 ⟨rfl, rfl⟩
  go_wp2_with fail
  refine HR.out.mono ?_
  rintro e w1 ⟨rfl, rfl⟩
  go_wp2
  change bodyPost _ _ _ _ _ (stE W w.heap.size En.zero)
  have HX := HE.out.put4 En.zero
  have HB2 := below_put4 HB.out (Nat.le_refl _) En.zero
  generalize stE W w.heap.size En.zero = W2 at *
  obtain ⟨z0, z1, z2, z3⟩ := HX.cell
  exact bodyPost_ret (v := .tuple #[En.zero.v, .int .i64 0, .int .i64 5]) (by simp [results, Try.results19, go_sem, z0, z1, z2, z3, En.v]) rfl ⟨rfl, HB2⟩

set_option maxHeartbeats 3000000 in
theorem rget_form (A : Option Addr) (n c : Nat) (l : List UInt8) (w : World) (h : Lies w w.heap.size 1 A n (l.map bv)) (hnc : n ≤ c) (hc : c ≤ 140737488351232) (ks : List UInt8) (t1 : Nat) (hg : getText l = (ks, t1, 0)) (hch : chk ⟨ks.toArray⟩ = true) (s t2 : Nat) (hs : Vi.get (l.drop t1) = (s, t2, 0)) (x : UInt8) (l3 : List UInt8) (hd : (l.drop t1).drop t2 = x :: l3) (hx : 1 < x.toNat) :
    Calls Try.prog 19 #[.slice A n c] w fun e w' => GotE w (En.zero, 0, 4) e w' := by
  obtain ⟨E, B, Z⟩ := rgW_facts w
  have hln := h.blen
  have T := ref_getText A n c _ l (rgW w) (rget_lies h) (by omega) hnc (by unfold maxLen; omega)
  have hks := (getText_took l).2.1
  have ht1 := (getText_took l).1
  rw [hg] at T hks ht1
  dsimp only at hks ht1
  have CK := fun W => rchk_any ⟨ks.toArray⟩ W (by rw [txt_size]; omega)
  rw [hch] at CK
  generalize hkb : (⟨ks.toArray⟩ : ByteArray) = kb at *
  have HT := Lib.hid T; have HE := Lib.hid E; have HB := Lib.hid B; have HC := Lib.hid CK; have HZ := Lib.hid Z
  have q := E.cell
  have f0 := E.frozen 0; have f1 := E.frozen 1; have f2 := E.frozen 2; have f3 := E.frozen 3
  have L := rget_lies h
  clear T E B CK Z hkb hch
  have L1 := L.cutA (m := t1) (c := c) (by omega) hnc
  have R := ref_get (cutA A c t1) (n - t1) (c - t1) _ (l.drop t1) (rgW w) L1 (by omega)
  rw [hs] at R
  have HR := Lib.hid R
  have hcut : ∀ W, (Instr.slice 28 (.slice A n c) (some (.int .i64 (t1 : Int))) none none).run Try.prog W = .ok (.slice (cutA A c t1) (n - t1) (c - t1)) W := fun W => run_cut W A n c t1 (by omega)
  clear R L1
  have e1 := congrArg List.length hd
  rw [List.length_drop, List.length_drop, List.length_cons] at e1
  have hlt : t1 + t2 < n := by omega
  have hat : ((t1 : Int) + (t2 : Int) == (n : Int)) = false := by simp; omega
  obtain ⟨b, o, y, rfl, hbB, hy, hcb⟩ := L.byte hlt
  have hxy : y = x := by
    have : l[t1 + t2]? = some x := by
      rw [List.drop_drop] at hd
      have h0 : (l.drop (t1 + t2))[0]? = some x := by rw [hd]; rfl
      rw [List.getElem?_drop, Nat.add_zero] at h0; exact h0
    rw [this] at hy; injection hy with hy; exact hy.symm
  subst hxy
  have i0 : (0 : Int) ≤ (t1 : Int) + (t2 : Int) := by omega
  have i1 : (t1 : Int) + (t2 : Int) < (n : Int) := by omega
  have i2 : ((t1 : Int) + (t2 : Int)).toNat = t1 + t2 := by omega
  have ht2n : t2 ≤ n := by omega
  have hdx : decide ((1 : Int) < (y.toNat : Int)) = true := by simp; omega
  clear hs hd hy e1
  generalize y.toNat = xn at *
  have ht1n : t1 ≤ n := by omega
  clear h hg ht1 hks hln L
  go_enter Try.func19, Try.ntmps19
  go_wp2_with fail
  change Calls _ _ _ (rgW w) _
  generalize rgW w = W at *
  refine HT.out.mono ?_
  rintro e w1 ⟨rfl, rfl⟩
  go_wp2_with fail
  refine (HC.out W).mono ?_
  rintro e w1 ⟨rfl, rfl⟩
  go_wp2_with fail
  refine HR.out.mono ?_
  rintro e w1 ⟨rfl, rfl⟩
  go_wp2
  change bodyPost _ _ _ _ _ (stE W w.heap.size En.zero)
  have HX := HE.out.put4 En.zero
  have HB2 := below_put4 HB.out (Nat.le_refl _) En.zero
  generalize stE W w.heap.size En.zero = W2 at *
  obtain ⟨z0, z1, z2, z3⟩ := HX.cell
  exact bodyPost_ret (v := .tuple #[En.zero.v, .int .i64 0, .int .i64 4]) (by simp [results, Try.results19, go_sem, z0, z1, z2, z3, En.v]) rfl ⟨rfl, HB2⟩

set_option maxHeartbeats 3000000 in
theorem rget_gone (A : Option Addr) (n c : Nat) (l : List UInt8) (w : World) (h : Lies w w.heap.size 1 A n (l.map bv)) (hnc : n ≤ c) (hc : c ≤ 140737488351232) (ks : List UInt8) (t1 : Nat) (hg : getText l = (ks, t1, 0)) (hch : chk ⟨ks.toArray⟩ = true) (s t2 : Nat) (hs : Vi.get (l.drop t1) = (s, t2, 0)) (x : UInt8) (l3 : List UInt8) (hd : (l.drop t1).drop t2 = x :: l3) (hx : x.toNat = 1) :
    Calls Try.prog 19 #[.slice A n c] w fun e w' => GotE w (⟨⟨⟨ks.toArray⟩, s, true⟩, ByteArray.empty⟩, t1 + t2 + 1, 0) e w' := by
  obtain ⟨E, B, Z⟩ := rgW_facts w
  have hln := h.blen
  have T := ref_getText A n c _ l (rgW w) (rget_lies h) (by omega) hnc (by unfold maxLen; omega)
  have hks := (getText_took l).2.1
  have ht1 := (getText_took l).1
  rw [hg] at T hks ht1
  dsimp only at hks ht1
  have CK := fun W => rchk_any ⟨ks.toArray⟩ W (by rw [txt_size]; omega)
  rw [hch] at CK
  generalize hkb : (⟨ks.toArray⟩ : ByteArray) = kb at *
  have HT := Lib.hid T; have HE := Lib.hid E; have HB := Lib.hid B; have HC := Lib.hid CK; have HZ := Lib.hid Z
  have q := E.cell
  have f0 := E.frozen 0; have f1 := E.frozen 1; have f2 := E.frozen 2; have f3 := E.frozen 3
  have L := rget_lies h
  have HKB := Lib.hid hkb; clear T E B CK Z hkb hch
  have L1 := L.cutA (m := t1) (c := c) (by omega) hnc
  have R := ref_get (cutA A c t1) (n - t1) (c - t1) _ (l.drop t1) (rgW w) L1 (by omega)
  rw [hs] at R
  have HR := Lib.hid R
  have hcut : ∀ W, (Instr.slice 28 (.slice A n c) (some (.int .i64 (t1 : Int))) none none).run Try.prog W = .ok (.slice (cutA A c t1) (n - t1) (c - t1)) W := fun W => run_cut W A n c t1 (by omega)
  clear R L1
  have e1 := congrArg List.length hd
  rw [List.length_drop, List.length_drop, List.length_cons] at e1
  have hlt : t1 + t2 < n := by omega
  have hat : ((t1 : Int) + (t2 : Int) == (n : Int)) = false := by simp; omega
  obtain ⟨b, o, y, rfl, hbB, hy, hcb⟩ := L.byte hlt
  have hxy : y = x := by
    have : l[t1 + t2]? = some x := by
      rw [List.drop_drop] at hd
      have h0 : (l.drop (t1 + t2))[0]? = some x := by rw [hd]; rfl
      rw [List.getElem?_drop, Nat.add_zero] at h0; exact h0
    rw [this] at hy; injection hy with hy; exact hy.symm
  subst hxy
  have i0 : (0 : Int) ≤ (t1 : Int) + (t2 : Int) := by omega
  have i1 : (t1 : Int) + (t2 : Int) < (n : Int) := by omega
  have i2 : ((t1 : Int) + (t2 : Int)).toNat = t1 + t2 := by omega
  have ht2n : t2 ≤ n := by omega
  rw [hx] at hcb
  clear hs hd hy e1 hx
  have ht1n : t1 ≤ n := by omega
  clear h hg ht1 hks hln L
  go_enter Try.func19, Try.ntmps19
  go_wp2_with fail
  change Calls _ _ _ (rgW w) _
  generalize rgW w = W at *
  refine HT.out.mono ?_
  rintro e w1 ⟨rfl, rfl⟩
  go_wp2_with fail
  refine (HC.out W).mono ?_
  rintro e w1 ⟨rfl, rfl⟩
  go_wp2_with fail
  refine HR.out.mono ?_
  rintro e w1 ⟨rfl, rfl⟩
  have hwz : w.heap.size < W.heap.size := by rw [HZ.out]; omega
  have XE : Hid (EnAt (W.alloc (.cells #[.string kb, .int .u64 (s : Int), .bool true, .string ByteArray.empty] 32)) W.heap.size ⟨⟨kb, s, true⟩, ByteArray.empty⟩) := EnAt.new W ⟨⟨kb, s, true⟩, ByteArray.empty⟩
  have XZ : Hid (EnAt (W.alloc (.cells #[.string kb, .int .u64 (s : Int), .bool true, .string ByteArray.empty] 32)) w.heap.size En.zero) := HE.out.below ((Below.refl _ W).alloc (Nat.le_refl _) _) (by rw [HZ.out]; omega)
  have XB : Hid (Below w.heap.size w (W.alloc (.cells #[.string kb, .int .u64 (s : Int), .bool true, .string ByteArray.empty] 32))) := HB.out.alloc HB.out.size _
  go_wp2
  change bodyPost _ _ _ _ _ ((stE W w.heap.size ⟨⟨kb, s, true⟩, ByteArray.empty⟩).alloc (.cells #[.string kb, .int .u64 (s : Int), .bool true, .string ByteArray.empty] 32))
  obtain ⟨HX, HB2⟩ := rg_end HE.out HB.out (Nat.le_refl _) ⟨⟨kb, s, true⟩, ByteArray.empty⟩ (.cells #[.string kb, .int .u64 (s : Int), .bool true, .string ByteArray.empty] 32)
  generalize (stE W w.heap.size ⟨⟨kb, s, true⟩, ByteArray.empty⟩).alloc (.cells #[.string kb, .int .u64 (s : Int), .bool true, .string ByteArray.empty] 32) = W2 at *
  obtain ⟨z0, z1, z2, z3⟩ := HX.cell
  exact bodyPost_ret (v := .tuple #[En.v ⟨⟨kb, s, true⟩, ByteArray.empty⟩, .int .i64 ((t1 : Int) + (t2 : Int) + 1), .int .i64 0]) (by simp [results, Try.results19, go_sem, z0, z1, z2, z3, En.v]) rfl ⟨rfl, HB2⟩

set_option maxHeartbeats 3000000 in
theorem rget_vbad (A : Option Addr) (n c : Nat) (l : List UInt8) (w : World) (h : Lies w w.heap.size 1 A n (l.map bv)) (hnc : n ≤ c) (hc : c ≤ 140737488351232) (ks : List UInt8) (t1 : Nat) (hg : getText l = (ks, t1, 0)) (hch : chk ⟨ks.toArray⟩ = true) (s t2 : Nat) (hs : Vi.get (l.drop t1) = (s, t2, 0)) (x : UInt8) (l3 : List UInt8) (hd : (l.drop t1).drop t2 = x :: l3) (hx : x.toNat = 0) (vs : List UInt8) (t4 e4 : Nat) (hv : getText l3 = (vs, t4, e4)) (he : e4 ≠ 0) :
    Calls Try.prog 19 #[.slice A n c] w fun e w' => GotE w (En.zero, 0, e4) e w' := by
  obtain ⟨E, B, Z⟩ := rgW_facts w
  have hln := h.blen
  have T := ref_getText A n c _ l (rgW w) (rget_lies h) (by omega) hnc (by unfold maxLen; omega)
  have hks := (getText_took l).2.1
  have ht1 := (getText_took l).1
  rw [hg] at T hks ht1
  dsimp only at hks ht1
  have CK := fun W => rchk_any ⟨ks.toArray⟩ W (by rw [txt_size]; omega)
  rw [hch] at CK
  generalize hkb : (⟨ks.toArray⟩ : ByteArray) = kb at *
  have HT := Lib.hid T; have HE := Lib.hid E; have HB := Lib.hid B; have HC := Lib.hid CK; have HZ := Lib.hid Z
  have q := E.cell
  have f0 := E.frozen 0; have f1 := E.frozen 1; have f2 := E.frozen 2; have f3 := E.frozen 3
  have L := rget_lies h
  clear T E B CK Z hkb hch
  have L1 := L.cutA (m := t1) (c := c) (by omega) hnc
  have R := ref_get (cutA A c t1) (n - t1) (c - t1) _ (l.drop t1) (rgW w) L1 (by omega)
  rw [hs] at R
  have HR := Lib.hid R
  have hcut : ∀ W, (Instr.slice 28 (.slice A n c) (some (.int .i64 (t1 : Int))) none none).run Try.prog W = .ok (.slice (cutA A c t1) (n - t1) (c - t1)) W := fun W => run_cut W A n c t1 (by omega)
  clear R L1
  have hl3 : (x :: l3).drop 1 = l3 := rfl
  have L3 : Lies (rgW w) (rgW w).heap.size 1 (cutA A c (t1 + t2 + 1)) (n - (t1 + t2 + 1)) (l3.map bv) := by
    have e1 := congrArg List.length hd
    rw [List.length_drop, List.length_drop, List.length_cons] at e1
    have h0 := L.cutA (m := t1 + t2 + 1) (c := c) (by omega) hnc
    rw [show l.drop (t1 + t2 + 1) = l3 from by rw [← hl3, ← hd, List.drop_drop, List.drop_drop, Nat.add_assoc]] at h0
    exact h0
  have V := fun W (h : Lies W (rgW w).heap.size 1 (cutA A c (t1 + t2 + 1)) (n - (t1 + t2 + 1)) (l3.map bv)) => ref_getText (cutA A c (t1 + t2 + 1)) (n - (t1 + t2 + 1)) (c - (t1 + t2 + 1)) _ l3 W h (by omega) (by omega) (by unfold maxLen; omega)
  rw [hv] at V
  have HV := Lib.hid V; have HL3 := Lib.hid L3
  have hv4 := (getText_took l3).1
  have hv5 := (getText_took l3).2.1
  have hl3n := L3.blen
  rw [hv] at hv4 hv5
  dsimp only at hv4 hv5
  have hcut2 : ∀ W, (Instr.slice 28 (.slice A n c) (some (.int .i64 ((t1 : Int) + (t2 : Int) + 1))) none none).run Try.prog W = .ok (.slice (cutA A c (t1 + t2 + 1)) (n - (t1 + t2 + 1)) (c - (t1 + t2 + 1))) W := fun W => by
    have e1 := congrArg List.length hd
    rw [List.length_drop, List.length_drop, List.length_cons] at e1
    have h0 := run_cut W A n c (t1 + t2 + 1) (by omega)
    rw [show ((t1 + t2 + 1 : Nat) : Int) = (t1 : Int) + (t2 : Int) + 1 from by omega] at h0
    exact h0
  have HCut2 := Lib.hid hcut2
  clear V L3 hl3 hcut2
  have e1 := congrArg List.length hd
  rw [List.length_drop, List.length_drop, List.length_cons] at e1
  have hlt : t1 + t2 < n := by omega
  have hat : ((t1 : Int) + (t2 : Int) == (n : Int)) = false := by simp; omega
  obtain ⟨b, o, y, rfl, hbB, hy, hcb⟩ := L.byte hlt
  have hxy : y = x := by
    have : l[t1 + t2]? = some x := by
      rw [List.drop_drop] at hd
      have h0 : (l.drop (t1 + t2))[0]? = some x := by rw [hd]; rfl
      rw [List.getElem?_drop, Nat.add_zero] at h0; exact h0
    rw [this] at hy; injection hy with hy; exact hy.symm
  subst hxy
  have i0 : (0 : Int) ≤ (t1 : Int) + (t2 : Int) := by omega
  have i1 : (t1 : Int) + (t2 : Int) < (n : Int) := by omega
  have i2 : ((t1 : Int) + (t2 : Int)).toNat = t1 + t2 := by omega
  have ht2n : t2 ≤ n := by omega
  rw [hx] at hcb
  have hne : ((e4 : Int) != 0) = true := by simp; omega
  clear he
  clear hs hd hy e1 hx hv
  have ht1n : t1 ≤ n := by omega
  clear h hg ht1 hks hln L
  go_enter Try.func19, Try.ntmps19
  go_wp2_with fail
  change Calls _ _ _ (rgW w) _
  generalize rgW w = W at *
  refine HT.out.mono ?_
  rintro e w1 ⟨rfl, rfl⟩
  go_wp2_with fail
  refine (HC.out W).mono ?_
  rintro e w1 ⟨rfl, rfl⟩
  go_wp2_with fail
  refine HR.out.mono ?_
  rintro e w1 ⟨rfl, rfl⟩
  have hcut2 := HCut2.out
  have hwz : w.heap.size < W.heap.size := by rw [HZ.out]; omega
  have XE : Hid (EnAt (W.alloc (.cells #[.string kb, .int .u64 (s : Int), .bool false, .string ByteArray.empty] 32)) W.heap.size ⟨⟨kb, s, false⟩, ByteArray.empty⟩) := EnAt.new W ⟨⟨kb, s, false⟩, ByteArray.empty⟩
  have XZ : Hid (EnAt (W.alloc (.cells #[.string kb, .int .u64 (s : Int), .bool false, .string ByteArray.empty] 32)) w.heap.size En.zero) := HE.out.below ((Below.refl _ W).alloc (Nat.le_refl _) _) (by rw [HZ.out]; omega)
  have XB : Hid (Below w.heap.size w (W.alloc (.cells #[.string kb, .int .u64 (s : Int), .bool false, .string ByteArray.empty] 32))) := HB.out.alloc HB.out.size _
  have HL4 := Lib.hid (HL3.out.alloc (o := .cells #[.string kb, .int .u64 (s : Int), .bool false, .string ByteArray.empty] 32) (Nat.le_refl _))
  go_wp2_with fail
  clear hcut
  refine (HV.out _ HL4.out).mono ?_
  rintro e w1 ⟨rfl, rfl⟩
  go_wp2
  change bodyPost _ _ _ _ _ ((stE W w.heap.size En.zero).alloc (.cells #[.string kb, .int .u64 (s : Int), .bool false, .string ByteArray.empty] 32))
  obtain ⟨HX, HB2⟩ := rg_end HE.out HB.out (Nat.le_refl _) En.zero (.cells #[.string kb, .int .u64 (s : Int), .bool false, .string ByteArray.empty] 32)
  generalize (stE W w.heap.size En.zero).alloc (.cells #[.string kb, .int .u64 (s : Int), .bool false, .string ByteArray.empty] 32) = W2 at *
  obtain ⟨z0, z1, z2, z3⟩ := HX.cell
  exact bodyPost_ret (v := .tuple #[En.zero.v, .int .i64 0, .int .i64 (e4 : Int)]) (by simp [results, Try.results19, go_sem, z0, z1, z2, z3, En.v]) rfl ⟨rfl, HB2⟩

set_option maxHeartbeats 3000000 in
theorem rget_vform (A : Option Addr) (n c : Nat) (l : List UInt8) (w : World) (h : Lies w w.heap.size 1 A n (l.map bv)) (hnc : n ≤ c) (hc : c ≤ 140737488351232) (ks : List UInt8) (t1 : Nat) (hg : getText l = (ks, t1, 0)) (hch : chk ⟨ks.toArray⟩ = true) (s t2 : Nat) (hs : Vi.get (l.drop t1) = (s, t2, 0)) (x : UInt8) (l3 : List UInt8) (hd : (l.drop t1).drop t2 = x :: l3) (hx : x.toNat = 0) (vs : List UInt8) (t4 : Nat) (hv : getText l3 = (vs, t4, 0)) (hvl : 256 < vs.length) :
    Calls Try.prog 19 #[.slice A n c] w fun e w' => GotE w (En.zero, 0, 4) e w' := by
  obtain ⟨E, B, Z⟩ := rgW_facts w
  have hln := h.blen
  have T := ref_getText A n c _ l (rgW w) (rget_lies h) (by omega) hnc (by unfold maxLen; omega)
  have hks := (getText_took l).2.1
  have ht1 := (getText_took l).1
  rw [hg] at T hks ht1
  dsimp only at hks ht1
  have CK := fun W => rchk_any ⟨ks.toArray⟩ W (by rw [txt_size]; omega)
  rw [hch] at CK
  generalize hkb : (⟨ks.toArray⟩ : ByteArray) = kb at *
  have HT := Lib.hid T; have HE := Lib.hid E; have HB := Lib.hid B; have HC := Lib.hid CK; have HZ := Lib.hid Z
  have q := E.cell
  have f0 := E.frozen 0; have f1 := E.frozen 1; have f2 := E.frozen 2; have f3 := E.frozen 3
  have L := rget_lies h
  clear T E B CK Z hkb hch
  have L1 := L.cutA (m := t1) (c := c) (by omega) hnc
  have R := ref_get (cutA A c t1) (n - t1) (c - t1) _ (l.drop t1) (rgW w) L1 (by omega)
  rw [hs] at R
  have HR := Lib.hid R
  have hcut : ∀ W, (Instr.slice 28 (.slice A n c) (some (.int .i64 (t1 : Int))) none none).run Try.prog W = .ok (.slice (cutA A c t1) (n - t1) (c - t1)) W := fun W => run_cut W A n c t1 (by omega)
  clear R L1
  have hl3 : (x :: l3).drop 1 = l3 := rfl
  have L3 : Lies (rgW w) (rgW w).heap.size 1 (cutA A c (t1 + t2 + 1)) (n - (t1 + t2 + 1)) (l3.map bv) := by
    have e1 := congrArg List.length hd
    rw [List.length_drop, List.length_drop, List.length_cons] at e1
    have h0 := L.cutA (m := t1 + t2 + 1) (c := c) (by omega) hnc
    rw [show l.drop (t1 + t2 + 1) = l3 from by rw [← hl3, ← hd, List.drop_drop, List.drop_drop, Nat.add_assoc]] at h0
    exact h0
  have V := fun W (h : Lies W (rgW w).heap.size 1 (cutA A c (t1 + t2 + 1)) (n - (t1 + t2 + 1)) (l3.map bv)) => ref_getText (cutA A c (t1 + t2 + 1)) (n - (t1 + t2 + 1)) (c - (t1 + t2 + 1)) _ l3 W h (by omega) (by omega) (by unfold maxLen; omega)
  rw [hv] at V
  have HV := Lib.hid V; have HL3 := Lib.hid L3
  have hv4 := (getText_took l3).1
  have hv5 := (getText_took l3).2.1
  have hl3n := L3.blen
  rw [hv] at hv4 hv5
  dsimp only at hv4 hv5
  have hcut2 : ∀ W, (Instr.slice 28 (.slice A n c) (some (.int .i64 ((t1 : Int) + (t2 : Int) + 1))) none none).run Try.prog W = .ok (.slice (cutA A c (t1 + t2 + 1)) (n - (t1 + t2 + 1)) (c - (t1 + t2 + 1))) W := fun W => by
    have e1 := congrArg List.length hd
    rw [List.length_drop, List.length_drop, List.length_cons] at e1
    have h0 := run_cut W A n c (t1 + t2 + 1) (by omega)
    rw [show ((t1 + t2 + 1 : Nat) : Int) = (t1 : Int) + (t2 : Int) + 1 from by omega] at h0
    exact h0
  have HCut2 := Lib.hid hcut2
  clear V L3 hl3 hcut2
  have e1 := congrArg List.length hd
  rw [List.length_drop, List.length_drop, List.length_cons] at e1
  have hlt : t1 + t2 < n := by omega
  have hat : ((t1 : Int) + (t2 : Int) == (n : Int)) = false := by simp; omega
  obtain ⟨b, o, y, rfl, hbB, hy, hcb⟩ := L.byte hlt
  have hxy : y = x := by
    have : l[t1 + t2]? = some x := by
      rw [List.drop_drop] at hd
      have h0 : (l.drop (t1 + t2))[0]? = some x := by rw [hd]; rfl
      rw [List.getElem?_drop, Nat.add_zero] at h0; exact h0
    rw [this] at hy; injection hy with hy; exact hy.symm
  subst hxy
  have i0 : (0 : Int) ≤ (t1 : Int) + (t2 : Int) := by omega
  have i1 : (t1 : Int) + (t2 : Int) < (n : Int) := by omega
  have i2 : ((t1 : Int) + (t2 : Int)).toNat = t1 + t2 := by omega
  have ht2n : t2 ≤ n := by omega
  rw [hx] at hcb
  have hvs : (⟨vs.toArray⟩ : ByteArray).size = vs.length := txt_size vs
  generalize (⟨vs.toArray⟩ : ByteArray) = vb at *
  have hdv : decide ((256 : Int) < (vb.size : Int)) = true := by simp; omega
  clear hvs
  clear hs hd hy e1 hx hv
  have ht1n : t1 ≤ n := by omega
  clear h hg ht1 hks hln L
  go_enter Try.func19, Try.ntmps19
  go_wp2_with fail
  change Calls _ _ _ (rgW w) _
  generalize rgW w = W at *
  refine HT.out.mono ?_
  rintro e w1 ⟨rfl, rfl⟩
  go_wp2_with fail
  refine (HC.out W).mono ?_
  rintro e w1 ⟨rfl, rfl⟩
  go_wp2_with fail
  refine HR.out.mono ?_
  rintro e w1 ⟨rfl, rfl⟩
  have hcut2 := HCut2.out
  have hwz : w.heap.size < W.heap.size := by rw [HZ.out]; omega
  have XE : Hid (EnAt (W.alloc (.cells #[.string kb, .int .u64 (s : Int), .bool false, .string ByteArray.empty] 32)) W.heap.size ⟨⟨kb, s, false⟩, ByteArray.empty⟩) := EnAt.new W ⟨⟨kb, s, false⟩, ByteArray.empty⟩
  have XZ : Hid (EnAt (W.alloc (.cells #[.string kb, .int .u64 (s : Int), .bool false, .string ByteArray.empty] 32)) w.heap.size En.zero) := HE.out.below ((Below.refl _ W).alloc (Nat.le_refl _) _) (by rw [HZ.out]; omega)
  have XB : Hid (Below w.heap.size w (W.alloc (.cells #[.string kb, .int .u64 (s : Int), .bool false, .string ByteArray.empty] 32))) := HB.out.alloc HB.out.size _
  have HL4 := Lib.hid (HL3.out.alloc (o := .cells #[.string kb, .int .u64 (s : Int), .bool false, .string ByteArray.empty] 32) (Nat.le_refl _))
  go_wp2_with fail
  clear hcut
  refine (HV.out _ HL4.out).mono ?_
  rintro e w1 ⟨rfl, rfl⟩
  go_wp2
  change bodyPost _ _ _ _ _ ((stE W w.heap.size En.zero).alloc (.cells #[.string kb, .int .u64 (s : Int), .bool false, .string ByteArray.empty] 32))
  obtain ⟨HX, HB2⟩ := rg_end HE.out HB.out (Nat.le_refl _) En.zero (.cells #[.string kb, .int .u64 (s : Int), .bool false, .string ByteArray.empty] 32)
  generalize (stE W w.heap.size En.zero).alloc (.cells #[.string kb, .int .u64 (s : Int), .bool false, .string ByteArray.empty] 32) = W2 at *
  obtain ⟨z0, z1, z2, z3⟩ := HX.cell
  exact bodyPost_ret (v := .tuple #[En.zero.v, .int .i64 0, .int .i64 4]) (by simp [results, Try.results19, go_sem, z0, z1, z2, z3, En.v]) rfl ⟨rfl, HB2⟩

set_option maxHeartbeats 3000000 in
theorem rget_val (A : Option Addr) (n c : Nat) (l : List UInt8) (w : World) (h : Lies w w.heap.size 1 A n (l.map bv)) (hnc : n ≤ c) (hc : c ≤ 140737488351232) (ks : List UInt8) (t1 : Nat) (hg : getText l = (ks, t1, 0)) (hch : chk ⟨ks.toArray⟩ = true) (s t2 : Nat) (hs : Vi.get (l.drop t1) = (s, t2, 0)) (x : UInt8) (l3 : List UInt8) (hd : (l.drop t1).drop t2 = x :: l3) (hx : x.toNat = 0) (vs : List UInt8) (t4 : Nat) (hv : getText l3 = (vs, t4, 0)) (hvl : vs.length ≤ 256) :
    Calls Try.prog 19 #[.slice A n c] w fun e w' => GotE w (⟨⟨⟨ks.toArray⟩, s, false⟩, ⟨vs.toArray⟩⟩, t1 + t2 + 1 + t4, 0) e w' := by
  obtain ⟨E, B, Z⟩ := rgW_facts w
  have hln := h.blen
  have T := ref_getText A n c _ l (rgW w) (rget_lies h) (by omega) hnc (by unfold maxLen; omega)
  have hks := (getText_took l).2.1
  have ht1 := (getText_took l).1
  rw [hg] at T hks ht1
  dsimp only at hks ht1
  have CK := fun W => rchk_any ⟨ks.toArray⟩ W (by rw [txt_size]; omega)
  rw [hch] at CK
  generalize hkb : (⟨ks.toArray⟩ : ByteArray) = kb at *
  have HT := Lib.hid T; have HE := Lib.hid E; have HB := Lib.hid B; have HC := Lib.hid CK; have HZ := Lib.hid Z
  have q := E.cell
  have f0 := E.frozen 0; have f1 := E.frozen 1; have f2 := E.frozen 2; have f3 := E.frozen 3
  have L := rget_lies h
  have HKB := Lib.hid hkb; clear T E B CK Z hkb hch
  have L1 := L.cutA (m := t1) (c := c) (by omega) hnc
  have R := ref_get (cutA A c t1) (n - t1) (c - t1) _ (l.drop t1) (rgW w) L1 (by omega)
  rw [hs] at R
  have HR := Lib.hid R
  have hcut : ∀ W, (Instr.slice 28 (.slice A n c) (some (.int .i64 (t1 : Int))) none none).run Try.prog W = .ok (.slice (cutA A c t1) (n - t1) (c - t1)) W := fun W => run_cut W A n c t1 (by omega)
  clear R L1
  have hl3 : (x :: l3).drop 1 = l3 := rfl
  have L3 : Lies (rgW w) (rgW w).heap.size 1 (cutA A c (t1 + t2 + 1)) (n - (t1 + t2 + 1)) (l3.map bv) := by
    have e1 := congrArg List.length hd
    rw [List.length_drop, List.length_drop, List.length_cons] at e1
    have h0 := L.cutA (m := t1 + t2 + 1) (c := c) (by omega) hnc
    rw [show l.drop (t1 + t2 + 1) = l3 from by rw [← hl3, ← hd, List.drop_drop, List.drop_drop, Nat.add_assoc]] at h0
    exact h0
  have V := fun W (h : Lies W (rgW w).heap.size 1 (cutA A c (t1 + t2 + 1)) (n - (t1 + t2 + 1)) (l3.map bv)) => ref_getText (cutA A c (t1 + t2 + 1)) (n - (t1 + t2 + 1)) (c - (t1 + t2 + 1)) _ l3 W h (by omega) (by omega) (by unfold maxLen; omega)
  rw [hv] at V
  have HV := Lib.hid V; have HL3 := Lib.hid L3
  have hv4 := (getText_took l3).1
  have hv5 := (getText_took l3).2.1
  have hl3n := L3.blen
  rw [hv] at hv4 hv5
  dsimp only at hv4 hv5
  have hcut2 : ∀ W, (Instr.slice 28 (.slice A n c) (some (.int .i64 ((t1 : Int) + (t2 : Int) + 1))) none none).run Try.prog W = .ok (.slice (cutA A c (t1 + t2 + 1)) (n - (t1 + t2 + 1)) (c - (t1 + t2 + 1))) W := fun W => by
    have e1 := congrArg List.length hd
    rw [List.length_drop, List.length_drop, List.length_cons] at e1
    have h0 := run_cut W A n c (t1 + t2 + 1) (by omega)
    rw [show ((t1 + t2 + 1 : Nat) : Int) = (t1 : Int) + (t2 : Int) + 1 from by omega] at h0
    exact h0
  have HCut2 := Lib.hid hcut2
  clear V L3 hl3 hcut2
  have e1 := congrArg List.length hd
  rw [List.length_drop, List.length_drop, List.length_cons] at e1
  have hlt : t1 + t2 < n := by omega
  have hat : ((t1 : Int) + (t2 : Int) == (n : Int)) = false := by simp; omega
  obtain ⟨b, o, y, rfl, hbB, hy, hcb⟩ := L.byte hlt
  have hxy : y = x := by
    have : l[t1 + t2]? = some x := by
      rw [List.drop_drop] at hd
      have h0 : (l.drop (t1 + t2))[0]? = some x := by rw [hd]; rfl
      rw [List.getElem?_drop, Nat.add_zero] at h0; exact h0
    rw [this] at hy; injection hy with hy; exact hy.symm
  subst hxy
  have i0 : (0 : Int) ≤ (t1 : Int) + (t2 : Int) := by omega
  have i1 : (t1 : Int) + (t2 : Int) < (n : Int) := by omega
  have i2 : ((t1 : Int) + (t2 : Int)).toNat = t1 + t2 := by omega
  have ht2n : t2 ≤ n := by omega
  rw [hx] at hcb
  have hvs : (⟨vs.toArray⟩ : ByteArray).size = vs.length := txt_size vs
  generalize hvb : (⟨vs.toArray⟩ : ByteArray) = vb at *
  have HVB := Lib.hid hvb
  have hdv : decide ((256 : Int) < (vb.size : Int)) = false := by simp; omega
  clear hvs hvb
  clear hs hd hy e1 hx hv
  have ht1n : t1 ≤ n := by omega
  clear h hg ht1 hks hln L
  go_enter Try.func19, Try.ntmps19
  go_wp2_with fail
  change Calls _ _ _ (rgW w) _
  generalize rgW w = W at *
  refine HT.out.mono ?_
  rintro e w1 ⟨rfl, rfl⟩
  go_wp2_with fail
  refine (HC.out W).mono ?_
  rintro e w1 ⟨rfl, rfl⟩
  go_wp2_with fail
  refine HR.out.mono ?_
  rintro e w1 ⟨rfl, rfl⟩
  have hcut2 := HCut2.out
  have hwz : w.heap.size < W.heap.size := by rw [HZ.out]; omega
  have XE : Hid (EnAt (W.alloc (.cells #[.string kb, .int .u64 (s : Int), .bool false, .string ByteArray.empty] 32)) W.heap.size ⟨⟨kb, s, false⟩, ByteArray.empty⟩) := EnAt.new W ⟨⟨kb, s, false⟩, ByteArray.empty⟩
  have XZ : Hid (EnAt (W.alloc (.cells #[.string kb, .int .u64 (s : Int), .bool false, .string ByteArray.empty] 32)) w.heap.size En.zero) := HE.out.below ((Below.refl _ W).alloc (Nat.le_refl _) _) (by rw [HZ.out]; omega)
  have XB : Hid (Below w.heap.size w (W.alloc (.cells #[.string kb, .int .u64 (s : Int), .bool false, .string ByteArray.empty] 32))) := HB.out.alloc HB.out.size _
  have HL4 := Lib.hid (HL3.out.alloc (o := .cells #[.string kb, .int .u64 (s : Int), .bool false, .string ByteArray.empty] 32) (Nat.le_refl _))
  go_wp2_with fail
  clear hcut
  refine (HV.out _ HL4.out).mono ?_
  rintro e w1 ⟨rfl, rfl⟩
  go_wp2
  change bodyPost _ _ _ _ _ ((stE W w.heap.size ⟨⟨kb, s, false⟩, vb⟩).alloc (.cells #[.string kb, .int .u64 (s : Int), .bool false, .string vb] 32))
  obtain ⟨HX, HB2⟩ := rg_end HE.out HB.out (Nat.le_refl _) ⟨⟨kb, s, false⟩, vb⟩ (.cells #[.string kb, .int .u64 (s : Int), .bool false, .string vb] 32)
  generalize (stE W w.heap.size ⟨⟨kb, s, false⟩, vb⟩).alloc (.cells #[.string kb, .int .u64 (s : Int), .bool false, .string vb] 32) = W2 at *
  obtain ⟨z0, z1, z2, z3⟩ := HX.cell
  exact bodyPost_ret (v := .tuple #[En.v ⟨⟨kb, s, false⟩, vb⟩, .int .i64 ((t1 : Int) + (t2 : Int) + 1 + (t4 : Int)), .int .i64 0]) (by simp [results, Try.results19, go_sem, z0, z1, z2, z3, En.v]) rfl ⟨rfl, HB2⟩

theorem rget_any (A : Option Addr) (n c : Nat) (l : List UInt8) (w : World) (h : Lies w w.heap.size 1 A n (l.map bv)) (hnc : n ≤ c) (hc : c ≤ 140737488351232) :
    Calls Try.prog 19 #[.slice A n c] w fun e w' => GotE w (gotE l) e w' := by
  rcases hk : getText l with ⟨ks, t1, e1⟩
  by_cases h1 : e1 = 0
  · subst h1
    cases hch : chk ⟨ks.toArray⟩
    · rw [gotE_kform hk hch]; exact rget_kform A n c l w h hnc hc ks t1 hk hch
    · rcases hs : Vi.get (l.drop t1) with ⟨s, t2, e2⟩
      by_cases h2 : e2 = 0
      · subst h2
        cases hd : (l.drop t1).drop t2 with
        | nil => rw [gotE_end hk hch hs hd]; exact rget_end A n c l w h hnc hc ks t1 hk hch s t2 hs hd
        | cons x l3 =>
          by_cases hx : 1 < x.toNat
          · rw [gotE_form hk hch hs hd hx]; exact rget_form A n c l w h hnc hc ks t1 hk hch s t2 hs x l3 hd hx
          · by_cases hx1 : x.toNat = 1
            · rw [gotE_gone hk hch hs hd hx1]; exact rget_gone A n c l w h hnc hc ks t1 hk hch s t2 hs x l3 hd hx1
            · have hx0 : x.toNat = 0 := by omega
              rcases hv : getText l3 with ⟨vs, t4, e4⟩
              by_cases h4 : e4 = 0
              · subst h4
                by_cases hl : 256 < vs.length
                · rw [gotE_vform hk hch hs hd hx0 hv hl]; exact rget_vform A n c l w h hnc hc ks t1 hk hch s t2 hs x l3 hd hx0 vs t4 hv hl
                · rw [gotE_val hk hch hs hd hx0 hv (by omega)]; exact rget_val A n c l w h hnc hc ks t1 hk hch s t2 hs x l3 hd hx0 vs t4 hv (by omega)
              · rw [gotE_vbad hk hch hs hd hx0 hv h4]; exact rget_vbad A n c l w h hnc hc ks t1 hk hch s t2 hs x l3 hd hx0 vs t4 e4 hv h4
      · rw [gotE_sbad hk hch hs h2]; exact rget_sbad A n c l w h hnc hc ks t1 hk hch s t2 e2 hs h2
  · rw [gotE_kbad hk h1]; exact rget_kbad A n c e1 l w h hnc hc ks t1 hk h1
end Go.Proofs.Ytjeijgkkobmdbaa
