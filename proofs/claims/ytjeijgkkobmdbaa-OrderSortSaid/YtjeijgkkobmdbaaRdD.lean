/-
  Contracts of package order: the reader's entry, behind its key.
-/
import Derived.Test.YtjeijgkkobmdbaaRdC
namespace Go.Proofs.Ytjeijgkkobmdbaa
open Go.RowKit
set_option linter.unusedVariables false
set_option maxRecDepth 100000

theorem Rd.up {w : World} {B g n c : Nat} {l : List UInt8} {A : Option Addr} (h : Rd w B g n l A c) {p : Addr} (hp : g < p.block) (u : Value) : Rd (w.setCell p u) B g n l A c :=
  h.kept (grown_set w p u) (fun k hk => by injection hk with hk; omega)
theorem Rd.put4 {w : World} {B g n c r : Nat} {l : List UInt8} {A : Option Addr} (h : Rd w B g n l A c) (hr : g < r) (y : En) : Rd (stE w r y) B g n l A c :=
  (((h.up (p := ⟨r, 0, none⟩) hr _).up (p := ⟨r, 1, none⟩) hr _).up (p := ⟨r, 2, none⟩) hr _).up (p := ⟨r, 3, none⟩) hr _
/-- what entry left: the reader behind the entry -/
def EntP (w : World) (B g n : Nat) (l : List UInt8) (t : Nat) (w' : World) : Prop := (∃ A c, Rd w' B g (n - t) (l.drop t) A c) ∧ w.grownBy w' (some g)
theorem Part.at {w w' : World} {B g n c t : Nat} {l : List UInt8} {A : Option Addr} (h : Part w B g n l A c t w') : ∃ A' c' n', n' = n - t ∧ Rd w' B g n' (l.drop t) A' c' ∧ w.grownBy w' (some g) := ⟨_, _, _, rfl, h.1, h.2⟩

set_option maxHeartbeats 2000000 in
theorem entry_seq (B g n c : Nat) (l : List UInt8) (A : Option Addr) (w : World) (h : Rd w B g n l A c) (ks : List UInt8) (t1 : Nat) (hk : keyT l = (ks, 0)) (ht1 : (getText l).2.1 = t1) (s t2 e2 : Nat) (hg : Vi.get (l.drop t1) = (s, t2, e2)) (he : e2 ≠ 0) :
    Calls Try.prog 37 #[.pointer (some ⟨g, 0, none⟩)] w fun e w' => ∃ x : En, e = .returned (.tuple #[x.v, .int .i64 (e2 : Int)]) ∧ w.grownBy w' (some g) := by
  have HK := key_any B g n c l A (w.alloc (.cells #[.string ByteArray.empty, .int .u64 0, .bool false, .string ByteArray.empty] 32)) (h.kept (World.grownBy_alloc w _ none) (fun k hk => by cases hk))
  rw [hk, ht1] at HK
  have hgl := h.lt
  have hgr : w.heap.size ≤ w.heap.size := Nat.le_refl _
  have HKK := Lib.hid HK
  have H1 := Lib.hid hk; have H2 := Lib.hid ht1
  clear hk ht1 HK h
  generalize hkb : (⟨ks.toArray⟩ : ByteArray) = kb at *
  have HKB := Lib.hid hkb; clear hkb
  have hne : ((e2 : Int) != 0) = true := by simp; omega
  have HG := Lib.hid hg; clear hg he
  go_enter Try.func37, Try.ntmps37
  go_wp2_with fail
  refine HKK.out.mono ?_
  rintro e w1 ⟨rfl, hp⟩
  obtain ⟨A1, c1, n1, hn1, r1, g1⟩ := hp.at
  have E1 : EnAt w1 w.heap.size ⟨⟨ByteArray.empty, 0, false⟩, ByteArray.empty⟩ := (EnAt.new w ⟨⟨ByteArray.empty, 0, false⟩, ByteArray.empty⟩).kept g1 (fun e => by injection e with e; omega)
  have q1 := E1.cell
  have f10 := E1.frozen 0; have f11 := E1.frozen 1; have f12 := E1.frozen 2; have f13 := E1.frozen 3
  have S1 := Lib.hid (r1.up (p := ⟨w.heap.size, 0, none⟩) hgl (.string kb))
  have T1 := Lib.hid (grown_up (grown_new g1) (p := ⟨w.heap.size, 0, none⟩) hgr (.string kb))
  have X1 := Lib.hid (E1.set0 kb)
  have HN1 := Lib.hid hn1
  clear HKK hp hn1 r1 g1 E1
  go_wp2_with fail
  have N := number_any B g n1 c1 _ A1 _ S1.out
  rw [HG.out] at N
  refine N.mono ?_
  rintro e w2 ⟨rfl, hp⟩
  obtain ⟨A2, c2, n2, hn2, r2, g2⟩ := hp.at
  have E2 := X1.out.kept g2 (fun e => by injection e with e; omega)
  have q2 := E2.cell
  have f20 := E2.frozen 0; have f21 := E2.frozen 1; have f22 := E2.frozen 2; have f23 := E2.frozen 3
  have S2 := Lib.hid (r2.up (p := ⟨w.heap.size, 1, none⟩) hgl (.int .u64 (s : Int)))
  have T2 := Lib.hid (grown_up (grown_trans T1.out g2) (p := ⟨w.heap.size, 1, none⟩) hgr (.int .u64 (s : Int)))
  have X2 := Lib.hid (E2.set1 s)
  have HN2 := Lib.hid hn2
  clear N hp hn2 r2 g2 E2 S1 T1 X1 q1 f10 f11 f12 f13
  go_wp2
  change bodyPost _ _ _ _ _ (stE (w2.setCell ⟨w.heap.size, 1, none⟩ (.int .u64 (s : Int))) w.heap.size ⟨⟨kb, s, false⟩, ByteArray.empty⟩)
  have HE := X2.out.put4 ⟨⟨kb, s, false⟩, ByteArray.empty⟩
  have HG2 := grown_put4 T2.out hgr ⟨⟨kb, s, false⟩, ByteArray.empty⟩
  generalize stE (w2.setCell ⟨w.heap.size, 1, none⟩ (.int .u64 (s : Int))) w.heap.size ⟨⟨kb, s, false⟩, ByteArray.empty⟩ = W at *
  obtain ⟨z0, z1, z2, z3⟩ := HE.cell
  refine bodyPost_ret (v := .tuple #[En.v ⟨⟨kb, s, false⟩, ByteArray.empty⟩, .int .i64 (e2 : Int)]) (by simp [results, Try.results37, go_sem, z0, z1, z2, z3, En.v]) rfl ?_
  exact ⟨_, rfl, HG2⟩

set_option maxHeartbeats 2000000 in
theorem entry_end (B g n c : Nat) (l : List UInt8) (A : Option Addr) (w : World) (h : Rd w B g n l A c) (ks : List UInt8) (t1 : Nat) (hk : keyT l = (ks, 0)) (ht1 : (getText l).2.1 = t1) (s t2 : Nat) (hg : Vi.get (l.drop t1) = (s, t2, 0)) (hd : (l.drop t1).drop t2 = []) :
    Calls Try.prog 37 #[.pointer (some ⟨g, 0, none⟩)] w fun e w' => ∃ x : En, e = .returned (.tuple #[x.v, .int .i64 5]) ∧ w.grownBy w' (some g) := by
  have HK := key_any B g n c l A (w.alloc (.cells #[.string ByteArray.empty, .int .u64 0, .bool false, .string ByteArray.empty] 32)) (h.kept (World.grownBy_alloc w _ none) (fun k hk => by cases hk))
  rw [hk, ht1] at HK
  have hgl := h.lt
  have hgr : w.heap.size ≤ w.heap.size := Nat.le_refl _
  have HKK := Lib.hid HK
  have H1 := Lib.hid hk; have H2 := Lib.hid ht1
  clear hk ht1 HK h
  generalize hkb : (⟨ks.toArray⟩ : ByteArray) = kb at *
  have HKB := Lib.hid hkb; clear hkb
  have HG := Lib.hid hg; have HD := Lib.hid hd; clear hg hd
  go_enter Try.func37, Try.ntmps37
  go_wp2_with fail
  refine HKK.out.mono ?_
  rintro e w1 ⟨rfl, hp⟩
  obtain ⟨A1, c1, n1, hn1, r1, g1⟩ := hp.at
  have E1 : EnAt w1 w.heap.size ⟨⟨ByteArray.empty, 0, false⟩, ByteArray.empty⟩ := (EnAt.new w ⟨⟨ByteArray.empty, 0, false⟩, ByteArray.empty⟩).kept g1 (fun e => by injection e with e; omega)
  have q1 := E1.cell
  have f10 := E1.frozen 0; have f11 := E1.frozen 1; have f12 := E1.frozen 2; have f13 := E1.frozen 3
  have S1 := Lib.hid (r1.up (p := ⟨w.heap.size, 0, none⟩) hgl (.string kb))
  have T1 := Lib.hid (grown_up (grown_new g1) (p := ⟨w.heap.size, 0, none⟩) hgr (.string kb))
  have X1 := Lib.hid (E1.set0 kb)
  have HN1 := Lib.hid hn1
  clear HKK hp hn1 r1 g1 E1
  go_wp2_with fail
  have N := number_any B g n1 c1 _ A1 _ S1.out
  rw [HG.out] at N
  refine N.mono ?_
  rintro e w2 ⟨rfl, hp⟩
  obtain ⟨A2, c2, n2, hn2, r2, g2⟩ := hp.at
  have E2 := X1.out.kept g2 (fun e => by injection e with e; omega)
  have q2 := E2.cell
  have f20 := E2.frozen 0; have f21 := E2.frozen 1; have f22 := E2.frozen 2; have f23 := E2.frozen 3
  have S2 := Lib.hid (r2.up (p := ⟨w.heap.size, 1, none⟩) hgl (.int .u64 (s : Int)))
  have T2 := Lib.hid (grown_up (grown_trans T1.out g2) (p := ⟨w.heap.size, 1, none⟩) hgr (.int .u64 (s : Int)))
  have X2 := Lib.hid (E2.set1 s)
  have HN2 := Lib.hid hn2
  clear N hp hn2 r2 g2 E2 S1 T1 X1 q1 f10 f11 f12 f13
  go_wp2_with fail
  have RR := S2.out
  have hz : n2 = 0 := by have := RR.lies.blen; rw [HD.out] at this; simpa using this.symm
  subst hz
  refine (gone_none B g c2 _ A2 _ RR).mono ?_
  rintro e w3 ⟨rfl, rfl⟩
  clear RR
  go_wp2
  change bodyPost _ _ _ _ _ (stE ((w2.setCell ⟨w.heap.size, 1, none⟩ (.int .u64 (s : Int))).setCell ⟨w.heap.size, 2, none⟩ (.bool false)) w.heap.size ⟨⟨kb, s, false⟩, ByteArray.empty⟩)
  have HE := (X2.out.set2 false).put4 ⟨⟨kb, s, false⟩, ByteArray.empty⟩
  have HG2 := grown_put4 (grown_up T2.out (p := ⟨w.heap.size, 2, none⟩) hgr (.bool false)) hgr ⟨⟨kb, s, false⟩, ByteArray.empty⟩
  generalize stE ((w2.setCell ⟨w.heap.size, 1, none⟩ (.int .u64 (s : Int))).setCell ⟨w.heap.size, 2, none⟩ (.bool false)) w.heap.size ⟨⟨kb, s, false⟩, ByteArray.empty⟩ = W at *
  obtain ⟨z0, z1, z2, z3⟩ := HE.cell
  exact bodyPost_ret (v := .tuple #[En.v ⟨⟨kb, s, false⟩, ByteArray.empty⟩, .int .i64 5]) (by simp [results, Try.results37, go_sem, z0, z1, z2, z3, En.v]) rfl ⟨_, rfl, HG2⟩

set_option maxHeartbeats 2000000 in
theorem entry_form (B g n c : Nat) (l : List UInt8) (A : Option Addr) (w : World) (h : Rd w B g n l A c) (ks : List UInt8) (t1 : Nat) (hk : keyT l = (ks, 0)) (ht1 : (getText l).2.1 = t1) (s t2 : Nat) (hg : Vi.get (l.drop t1) = (s, t2, 0)) (x : UInt8) (l3 : List UInt8) (hd : (l.drop t1).drop t2 = x :: l3) (hx : 1 < x.toNat) :
    Calls Try.prog 37 #[.pointer (some ⟨g, 0, none⟩)] w fun e w' => ∃ x : En, e = .returned (.tuple #[x.v, .int .i64 4]) ∧ w.grownBy w' (some g) := by
  have HK := key_any B g n c l A (w.alloc (.cells #[.string ByteArray.empty, .int .u64 0, .bool false, .string ByteArray.empty] 32)) (h.kept (World.grownBy_alloc w _ none) (fun k hk => by cases hk))
  rw [hk, ht1] at HK
  have hgl := h.lt
  have hgr : w.heap.size ≤ w.heap.size := Nat.le_refl _
  have HKK := Lib.hid HK
  have H1 := Lib.hid hk; have H2 := Lib.hid ht1
  clear hk ht1 HK h
  generalize hkb : (⟨ks.toArray⟩ : ByteArray) = kb at *
  have HKB := Lib.hid hkb; clear hkb
  have HG := Lib.hid hg; have HD := Lib.hid hd; have HX := Lib.hid hx; clear hg hd hx
  go_enter Try.func37, Try.ntmps37
  go_wp2_with fail
  refine HKK.out.mono ?_
  rintro e w1 ⟨rfl, hp⟩
  obtain ⟨A1, c1, n1, hn1, r1, g1⟩ := hp.at
  have E1 : EnAt w1 w.heap.size ⟨⟨ByteArray.empty, 0, false⟩, ByteArray.empty⟩ := (EnAt.new w ⟨⟨ByteArray.empty, 0, false⟩, ByteArray.empty⟩).kept g1 (fun e => by injection e with e; omega)
  have q1 := E1.cell
  have f10 := E1.frozen 0; have f11 := E1.frozen 1; have f12 := E1.frozen 2; have f13 := E1.frozen 3
  have S1 := Lib.hid (r1.up (p := ⟨w.heap.size, 0, none⟩) hgl (.string kb))
  have T1 := Lib.hid (grown_up (grown_new g1) (p := ⟨w.heap.size, 0, none⟩) hgr (.string kb))
  have X1 := Lib.hid (E1.set0 kb)
  have HN1 := Lib.hid hn1
  clear HKK hp hn1 r1 g1 E1
  go_wp2_with fail
  have N := number_any B g n1 c1 _ A1 _ S1.out
  rw [HG.out] at N
  refine N.mono ?_
  rintro e w2 ⟨rfl, hp⟩
  obtain ⟨A2, c2, n2, hn2, r2, g2⟩ := hp.at
  have E2 := X1.out.kept g2 (fun e => by injection e with e; omega)
  have q2 := E2.cell
  have f20 := E2.frozen 0; have f21 := E2.frozen 1; have f22 := E2.frozen 2; have f23 := E2.frozen 3
  have S2 := Lib.hid (r2.up (p := ⟨w.heap.size, 1, none⟩) hgl (.int .u64 (s : Int)))
  have T2 := Lib.hid (grown_up (grown_trans T1.out g2) (p := ⟨w.heap.size, 1, none⟩) hgr (.int .u64 (s : Int)))
  have X2 := Lib.hid (E2.set1 s)
  have HN2 := Lib.hid hn2
  clear N hp hn2 r2 g2 E2 S1 T1 X1 q1 f10 f11 f12 f13
  go_wp2_with fail
  have RR := S2.out
  rw [HD.out] at RR
  refine (gone_form B g n2 c2 x l3 A2 _ RR HX.out).mono ?_
  rintro e w3 ⟨rfl, rfl⟩
  clear RR
  go_wp2
  change bodyPost _ _ _ _ _ (stE ((w2.setCell ⟨w.heap.size, 1, none⟩ (.int .u64 (s : Int))).setCell ⟨w.heap.size, 2, none⟩ (.bool false)) w.heap.size ⟨⟨kb, s, false⟩, ByteArray.empty⟩)
  have HE := (X2.out.set2 false).put4 ⟨⟨kb, s, false⟩, ByteArray.empty⟩
  have HG2 := grown_put4 (grown_up T2.out (p := ⟨w.heap.size, 2, none⟩) hgr (.bool false)) hgr ⟨⟨kb, s, false⟩, ByteArray.empty⟩
  generalize stE ((w2.setCell ⟨w.heap.size, 1, none⟩ (.int .u64 (s : Int))).setCell ⟨w.heap.size, 2, none⟩ (.bool false)) w.heap.size ⟨⟨kb, s, false⟩, ByteArray.empty⟩ = W at *
  obtain ⟨z0, z1, z2, z3⟩ := HE.cell
  exact bodyPost_ret (v := .tuple #[En.v ⟨⟨kb, s, false⟩, ByteArray.empty⟩, .int .i64 4]) (by simp [results, Try.results37, go_sem, z0, z1, z2, z3, En.v]) rfl ⟨_, rfl, HG2⟩

set_option maxHeartbeats 2000000 in
theorem entry_gone (B g n c : Nat) (l : List UInt8) (A : Option Addr) (w : World) (h : Rd w B g n l A c) (ks : List UInt8) (t1 : Nat) (hk : keyT l = (ks, 0)) (ht1 : (getText l).2.1 = t1) (s t2 : Nat) (hg : Vi.get (l.drop t1) = (s, t2, 0)) (x : UInt8) (l3 : List UInt8) (hd : (l.drop t1).drop t2 = x :: l3) (hx : x.toNat = 1) :
    Calls Try.prog 37 #[.pointer (some ⟨g, 0, none⟩)] w fun e w' => e = .returned (.tuple #[En.v ⟨⟨⟨ks.toArray⟩, s, true⟩, ByteArray.empty⟩, .int .i64 0]) ∧ EntP w B g n l (t1 + t2 + 1) w' := by
  have HK := key_any B g n c l A (w.alloc (.cells #[.string ByteArray.empty, .int .u64 0, .bool false, .string ByteArray.empty] 32)) (h.kept (World.grownBy_alloc w _ none) (fun k hk => by cases hk))
  rw [hk, ht1] at HK
  have hgl := h.lt
  have hgr : w.heap.size ≤ w.heap.size := Nat.le_refl _
  have HKK := Lib.hid HK
  have H1 := Lib.hid hk; have H2 := Lib.hid ht1
  clear hk ht1 HK h
  generalize hkb : (⟨ks.toArray⟩ : ByteArray) = kb at *
  have HKB := Lib.hid hkb; clear hkb
  have HXB : Hid (decide (x.toNat = 1) = true) := decide_eq_true hx
  have HG := Lib.hid hg; have HD := Lib.hid hd; have HX := Lib.hid hx; clear hg hd hx
  go_enter Try.func37, Try.ntmps37
  go_wp2_with fail
  refine HKK.out.mono ?_
  rintro e w1 ⟨rfl, hp⟩
  obtain ⟨A1, c1, n1, hn1, r1, g1⟩ := hp.at
  have E1 : EnAt w1 w.heap.size ⟨⟨ByteArray.empty, 0, false⟩, ByteArray.empty⟩ := (EnAt.new w ⟨⟨ByteArray.empty, 0, false⟩, ByteArray.empty⟩).kept g1 (fun e => by injection e with e; omega)
  have q1 := E1.cell
  have f10 := E1.frozen 0; have f11 := E1.frozen 1; have f12 := E1.frozen 2; have f13 := E1.frozen 3
  have S1 := Lib.hid (r1.up (p := ⟨w.heap.size, 0, none⟩) hgl (.string kb))
  have T1 := Lib.hid (grown_up (grown_new g1) (p := ⟨w.heap.size, 0, none⟩) hgr (.string kb))
  have X1 := Lib.hid (E1.set0 kb)
  have HN1 := Lib.hid hn1
  clear HKK hp hn1 r1 g1 E1
  go_wp2_with fail
  have N := number_any B g n1 c1 _ A1 _ S1.out
  rw [HG.out] at N
  refine N.mono ?_
  rintro e w2 ⟨rfl, hp⟩
  obtain ⟨A2, c2, n2, hn2, r2, g2⟩ := hp.at
  have E2 := X1.out.kept g2 (fun e => by injection e with e; omega)
  have q2 := E2.cell
  have f20 := E2.frozen 0; have f21 := E2.frozen 1; have f22 := E2.frozen 2; have f23 := E2.frozen 3
  have S2 := Lib.hid (r2.up (p := ⟨w.heap.size, 1, none⟩) hgl (.int .u64 (s : Int)))
  have T2 := Lib.hid (grown_up (grown_trans T1.out g2) (p := ⟨w.heap.size, 1, none⟩) hgr (.int .u64 (s : Int)))
  have X2 := Lib.hid (E2.set1 s)
  have HN2 := Lib.hid hn2
  clear N hp hn2 r2 g2 E2 S1 T1 X1 q1 f10 f11 f12 f13
  go_wp2_with fail
  have RR := S2.out
  rw [HD.out] at RR
  have GO := gone_ok B g n2 c2 x l3 A2 _ RR (by have := HX.out; omega)
  rw [HXB.out] at GO
  refine GO.mono ?_
  rintro e w3 ⟨rfl, hp⟩
  obtain ⟨A3, c3, n3, hn3, r3, g3⟩ := hp.at
  have E3 := X2.out.kept g3 (fun e => by injection e with e; omega)
  have q3 := E3.cell
  have f30 := E3.frozen 0; have f31 := E3.frozen 1; have f32 := E3.frozen 2; have f33 := E3.frozen 3
  have S3 := Lib.hid (r3.up (p := ⟨w.heap.size, 2, none⟩) hgl (.bool true))
  have T3 := Lib.hid (grown_up (grown_trans T2.out g3) (p := ⟨w.heap.size, 2, none⟩) hgr (.bool true))
  have X3 := Lib.hid (E3.set2 true)
  have HN3 := Lib.hid hn3
  clear RR GO hp hn3 r3 g3 E3 S2 T2 X2 q2 f20 f21 f22 f23
  go_wp2
  change bodyPost _ _ _ _ _ (stE (w3.setCell ⟨w.heap.size, 2, none⟩ (.bool true)) w.heap.size ⟨⟨kb, s, true⟩, ByteArray.empty⟩)
  have HE := X3.out.put4 ⟨⟨kb, s, true⟩, ByteArray.empty⟩
  have HG2 := grown_put4 T3.out hgr ⟨⟨kb, s, true⟩, ByteArray.empty⟩
  have HR := Lib.hid (S3.out.put4 hgl ⟨⟨kb, s, true⟩, ByteArray.empty⟩)
  generalize stE (w3.setCell ⟨w.heap.size, 2, none⟩ (.bool true)) w.heap.size ⟨⟨kb, s, true⟩, ByteArray.empty⟩ = W at *
  obtain ⟨z0, z1, z2, z3⟩ := HE.cell
  refine bodyPost_ret (v := .tuple #[En.v ⟨⟨kb, s, true⟩, ByteArray.empty⟩, .int .i64 0]) (by simp [results, Try.results37, go_sem, z0, z1, z2, z3, En.v]) rfl ?_
  refine ⟨rfl, ⟨A3, c3, ?_⟩, HG2⟩
  have e1 : n3 = n - (t1 + t2 + 1) := by have := HN1.out; have := HN2.out; have := HN3.out; omega
  have e2 : l.drop (t1 + t2 + 1) = (x :: l3).drop 1 := by rw [← HD.out, List.drop_drop, List.drop_drop, Nat.add_assoc]
  rw [← e1, e2]
  exact HR.out

set_option maxHeartbeats 2000000 in
theorem entry_val (B g n c : Nat) (l : List UInt8) (A : Option Addr) (w : World) (h : Rd w B g n l A c) (ks : List UInt8) (t1 : Nat) (hk : keyT l = (ks, 0)) (ht1 : (getText l).2.1 = t1) (s t2 : Nat) (hg : Vi.get (l.drop t1) = (s, t2, 0)) (x : UInt8) (l3 : List UInt8) (hd : (l.drop t1).drop t2 = x :: l3) (hx : x.toNat = 0) (vs : List UInt8) (e4 t4 : Nat) (hv : valT l3 = (vs, e4)) (ht4 : (getText l3).2.1 = t4) :
    Calls Try.prog 37 #[.pointer (some ⟨g, 0, none⟩)] w fun e w' => e = .returned (.tuple #[En.v ⟨⟨⟨ks.toArray⟩, s, false⟩, ⟨vs.toArray⟩⟩, .int .i64 (e4 : Int)]) ∧ EntP w B g n l (t1 + t2 + 1 + t4) w' := by
  have HK := key_any B g n c l A (w.alloc (.cells #[.string ByteArray.empty, .int .u64 0, .bool false, .string ByteArray.empty] 32)) (h.kept (World.grownBy_alloc w _ none) (fun k hk => by cases hk))
  rw [hk, ht1] at HK
  have hgl := h.lt
  have hgr : w.heap.size ≤ w.heap.size := Nat.le_refl _
  have HKK := Lib.hid HK
  have H1 := Lib.hid hk; have H2 := Lib.hid ht1
  clear hk ht1 HK h
  generalize hkb : (⟨ks.toArray⟩ : ByteArray) = kb at *
  have HKB := Lib.hid hkb; clear hkb
  have HXB : Hid (decide (x.toNat = 1) = false) := decide_eq_false (by omega)
  have HG := Lib.hid hg; have HD := Lib.hid hd; have HX := Lib.hid hx; have HV := Lib.hid hv; have HT4 := Lib.hid ht4; clear hg hd hx hv ht4
  go_enter Try.func37, Try.ntmps37
  go_wp2_with fail
  refine HKK.out.mono ?_
  rintro e w1 ⟨rfl, hp⟩
  obtain ⟨A1, c1, n1, hn1, r1, g1⟩ := hp.at
  have E1 : EnAt w1 w.heap.size ⟨⟨ByteArray.empty, 0, false⟩, ByteArray.empty⟩ := (EnAt.new w ⟨⟨ByteArray.empty, 0, false⟩, ByteArray.empty⟩).kept g1 (fun e => by injection e with e; omega)
  have q1 := E1.cell
  have f10 := E1.frozen 0; have f11 := E1.frozen 1; have f12 := E1.frozen 2; have f13 := E1.frozen 3
  have S1 := Lib.hid (r1.up (p := ⟨w.heap.size, 0, none⟩) hgl (.string kb))
  have T1 := Lib.hid (grown_up (grown_new g1) (p := ⟨w.heap.size, 0, none⟩) hgr (.string kb))
  have X1 := Lib.hid (E1.set0 kb)
  have HN1 := Lib.hid hn1
  clear HKK hp hn1 r1 g1 E1
  go_wp2_with fail
  have N := number_any B g n1 c1 _ A1 _ S1.out
  rw [HG.out] at N
  refine N.mono ?_
  rintro e w2 ⟨rfl, hp⟩
  obtain ⟨A2, c2, n2, hn2, r2, g2⟩ := hp.at
  have E2 := X1.out.kept g2 (fun e => by injection e with e; omega)
  have q2 := E2.cell
  have f20 := E2.frozen 0; have f21 := E2.frozen 1; have f22 := E2.frozen 2; have f23 := E2.frozen 3
  have S2 := Lib.hid (r2.up (p := ⟨w.heap.size, 1, none⟩) hgl (.int .u64 (s : Int)))
  have T2 := Lib.hid (grown_up (grown_trans T1.out g2) (p := ⟨w.heap.size, 1, none⟩) hgr (.int .u64 (s : Int)))
  have X2 := Lib.hid (E2.set1 s)
  have HN2 := Lib.hid hn2
  clear N hp hn2 r2 g2 E2 S1 T1 X1 q1 f10 f11 f12 f13
  go_wp2_with fail
  have RR := S2.out
  rw [HD.out] at RR
  have GO := gone_ok B g n2 c2 x l3 A2 _ RR (by have := HX.out; omega)
  rw [HXB.out] at GO
  refine GO.mono ?_
  rintro e w3 ⟨rfl, hp⟩
  obtain ⟨A3, c3, n3, hn3, r3, g3⟩ := hp.at
  have E3 := X2.out.kept g3 (fun e => by injection e with e; omega)
  have q3 := E3.cell
  have f30 := E3.frozen 0; have f31 := E3.frozen 1; have f32 := E3.frozen 2; have f33 := E3.frozen 3
  have S3 := Lib.hid (r3.up (p := ⟨w.heap.size, 2, none⟩) hgl (.bool false))
  have T3 := Lib.hid (grown_up (grown_trans T2.out g3) (p := ⟨w.heap.size, 2, none⟩) hgr (.bool false))
  have X3 := Lib.hid (E3.set2 false)
  have HN3 := Lib.hid hn3
  clear RR GO hp hn3 r3 g3 E3 S2 T2 X2 q2 f20 f21 f22 f23
  go_wp2_with fail
  have RR := S3.out
  have V := value_any B g n3 c3 l3 A3 _ RR
  rw [HV.out, HT4.out] at V
  refine V.mono ?_
  rintro e w4 ⟨rfl, hp⟩
  obtain ⟨A4, c4, n4, hn4, r4, g4⟩ := hp.at
  have E4 := X3.out.kept g4 (fun e => by injection e with e; omega)
  have q4 := E4.cell
  have f40 := E4.frozen 0; have f41 := E4.frozen 1; have f42 := E4.frozen 2; have f43 := E4.frozen 3
  generalize hvb : (⟨vs.toArray⟩ : ByteArray) = vb at *
  have HVB := Lib.hid hvb; clear hvb
  have S4 := Lib.hid (r4.up (p := ⟨w.heap.size, 3, none⟩) hgl (.string vb))
  have T4 := Lib.hid (grown_up (grown_trans T3.out g4) (p := ⟨w.heap.size, 3, none⟩) hgr (.string vb))
  have X4 := Lib.hid (E4.set3 vb)
  have HN4 := Lib.hid hn4
  clear RR V hp hn4 r4 g4 E4 S3 T3 X3 q3 f30 f31 f32 f33
  go_wp2
  change bodyPost _ _ _ _ _ (stE (w4.setCell ⟨w.heap.size, 3, none⟩ (.string vb)) w.heap.size ⟨⟨kb, s, false⟩, vb⟩)
  have HE := X4.out.put4 ⟨⟨kb, s, false⟩, vb⟩
  have HG2 := grown_put4 T4.out hgr ⟨⟨kb, s, false⟩, vb⟩
  have HR := Lib.hid (S4.out.put4 hgl ⟨⟨kb, s, false⟩, vb⟩)
  generalize stE (w4.setCell ⟨w.heap.size, 3, none⟩ (.string vb)) w.heap.size ⟨⟨kb, s, false⟩, vb⟩ = W at *
  obtain ⟨z0, z1, z2, z3⟩ := HE.cell
  refine bodyPost_ret (v := .tuple #[En.v ⟨⟨kb, s, false⟩, vb⟩, .int .i64 (e4 : Int)]) (by simp [results, Try.results37, go_sem, z0, z1, z2, z3, En.v]) rfl ?_
  refine ⟨by rw [HVB.out], ⟨A4, c4, ?_⟩, HG2⟩
  have e1 : n4 = n - (t1 + t2 + 1 + t4) := by have := HN1.out; have := HN2.out; have := HN3.out; have := HN4.out; omega
  have e2 : l.drop (t1 + t2 + 1 + t4) = ((x :: l3).drop 1).drop t4 := by rw [← HD.out, List.drop_drop, List.drop_drop, List.drop_drop]; congr 1; omega
  rw [← e1, e2]
  exact HR.out
end Go.Proofs.Ytjeijgkkobmdbaa
