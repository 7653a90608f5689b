/-
  Contracts of package order: Get.
-/
import Derived.Test.YtjeijgkkobmdbaaRdD
import Derived.Deep.RegionWith
import Derived.Deep.RegionHeld3
namespace Go.Proofs.Ytjeijgkkobmdbaa
open Go.RowKit
set_option linter.unusedVariables false
set_option maxRecDepth 100000

theorem below_put4 {B : Nat} {w w1 : World} (h : Below B w w1) {r : Nat} (hr : B ≤ r) (y : En) : Below B w (stE w1 r y) :=
  (((h.setCell (p := ⟨r, 0, none⟩) hr _).setCell (p := ⟨r, 1, none⟩) hr _).setCell (p := ⟨r, 2, none⟩) hr _).setCell (p := ⟨r, 3, none⟩) hr _
theorem Rd.far {w : World} {B g n c : Nat} {l : List UInt8} {A : Option Addr} (h : Rd w B g n l A c) {p : Addr} (hp : g ≠ p.block) (hB : B ≤ p.block) (u : Value) : Rd (w.setCell p u) B g n l A c :=
  ⟨h.box.far hp u, h.lies.setCell hB u, h.nc, h.cm, h.Bg⟩
theorem Rd.far4 {w : World} {B g n c r : Nat} {l : List UInt8} {A : Option Addr} (h : Rd w B g n l A c) (hr : r < g) (hB : B ≤ r) (y : En) : Rd (stE w r y) B g n l A c :=
  (((h.far (p := ⟨r, 0, none⟩) (by simp; omega) hB _).far (p := ⟨r, 1, none⟩) (by simp; omega) hB _).far (p := ⟨r, 2, none⟩) (by simp; omega) hB _).far (p := ⟨r, 3, none⟩) (by simp; omega) hB _
theorem Rd.drew {w : World} {B g n c : Nat} {l : List UInt8} {A : Option Addr} (h : Rd w B g n l A c) : Rd w.drew B g n l A c := ⟨h.box, h.lies.drew, h.nc, h.cm, h.Bg⟩
/-- no entry -/
def En.zero : En := ⟨⟨ByteArray.empty, 0, false⟩, ByteArray.empty⟩
/-- the world in which Get's reader stands -/
def getW (w : World) (A : Option Addr) (n c : Nat) : World :=
  (w.alloc (.cells #[.string ByteArray.empty, .int .u64 0, .bool false, .string ByteArray.empty] 32)).alloc (.cells #[.slice A n c] 65)
theorem getW_facts (w : World) (A : Option Addr) (n c : Nat) (l : List UInt8) (h : Lies w w.heap.size 1 A n (l.map bv)) (hnc : n ≤ c) (hc : c ≤ maxLen) :
    Rd (getW w A n c) w.heap.size (w.heap.size + 1) n l A c ∧ EnAt (getW w A n c) w.heap.size En.zero ∧ Below w.heap.size w (getW w A n c) := by
  have E := EnAt.new w En.zero
  have B0 : Below w.heap.size w (w.alloc (.cells #[.string ByteArray.empty, .int .u64 0, .bool false, .string ByteArray.empty] 32)) := (Below.refl _ _).alloc (Nat.le_refl _) _
  have BX := Box.new (w.alloc (.cells #[.string ByteArray.empty, .int .u64 0, .bool false, .string ByteArray.empty] 32)) 65 (.slice A n c)
  rw [show (w.alloc (.cells #[.string ByteArray.empty, .int .u64 0, .bool false, .string ByteArray.empty] 32)).heap.size = w.heap.size + 1 from by simp] at BX
  refine ⟨⟨BX, ?_, hnc, hc, by omega⟩, (Below.heap_alloc _ _ _ (by simp)).trans E, B0.alloc (by simp) _⟩
  exact (h.below B0).alloc (by simp) _

set_option maxHeartbeats 2000000 in
theorem oget_bad (A : Option Addr) (n c e0 : Nat) (l : List UInt8) (w : World) (h : Lies w w.heap.size 1 A n (l.map bv)) (hnc : n ≤ c) (hc : c ≤ maxLen) (he : e0 ≠ 0)
    (H : ∀ W g, Rd W w.heap.size g n l A c → Calls Try.prog 37 #[.pointer (some ⟨g, 0, none⟩)] W fun e w' => ∃ x : En, e = .returned (.tuple #[x.v, .int .i64 (e0 : Int)]) ∧ W.grownBy w' (some g)) :
    Calls Try.prog 18 #[.slice A n c] w fun e w' => e = .returned (.tuple #[En.zero.v, .int .i64 0, .int .i64 (e0 : Int)]) ∧ Below w.heap.size w w' := by
  obtain ⟨R, E, HB⟩ := getW_facts w A n c l h hnc hc
  have HL := Lib.hid (left_any w.heap.size (w.heap.size + 1) n c l A _ R)
  have HE := Lib.hid (H _ _ R)
  have XE := Lib.hid E; have XB := Lib.hid HB
  have hne : ((e0 : Int) != 0) = true := by simp; omega
  clear H R E HB h
  go_enter Try.func18, Try.ntmps18
  go_wp2_with fail
  refine HL.out.mono ?_
  rintro e w1 ⟨rfl, rfl⟩
  go_wp2_with fail
  refine HE.out.mono ?_
  rintro e w2 ⟨x, rfl, g2⟩
  have E2 := XE.out.kept g2 (fun e => by injection e; omega)
  have q := E2.cell
  have f0 := E2.frozen 0; have f1 := E2.frozen 1; have f2 := E2.frozen 2; have f3 := E2.frozen 3
  have HB2 := Lib.hid (XB.out.trans (below_grown g2 (by omega) (XB.out.size)))
  have X2 := Lib.hid E2
  clear HL HE XE XB g2 E2
  unfold En.v
  go_wp2
  change bodyPost _ _ _ _ _ (stE (stE w2 w.heap.size x) w.heap.size En.zero)
  have HX := (X2.out.put4 x).put4 En.zero
  have HB3 : Below w.heap.size w (stE (stE w2 w.heap.size x) w.heap.size En.zero) := below_put4 (below_put4 HB2.out (Nat.le_refl _) _) (Nat.le_refl _) _
  generalize stE (stE w2 w.heap.size x) w.heap.size En.zero = W at *
  obtain ⟨z0, z1, z2, z3⟩ := HX.cell
  exact bodyPost_ret (v := .tuple #[En.zero.v, .int .i64 0, .int .i64 (e0 : Int)]) (by simp [results, Try.results18, go_sem, z0, z1, z2, z3, En.v]) rfl ⟨rfl, HB3⟩

set_option maxHeartbeats 2000000 in
theorem oget_ok (A : Option Addr) (n c t : Nat) (l : List UInt8) (x : En) (w : World) (h : Lies w w.heap.size 1 A n (l.map bv)) (hnc : n ≤ c) (hc : c ≤ maxLen) (ht : t ≤ n)
    (H : ∀ W g, Rd W w.heap.size g n l A c → Calls Try.prog 37 #[.pointer (some ⟨g, 0, none⟩)] W fun e w' => e = .returned (.tuple #[x.v, .int .i64 0]) ∧ EntP W w.heap.size g n l t w') :
    Calls Try.prog 18 #[.slice A n c] w fun e w' => e = .returned (.tuple #[x.v, .int .i64 (t : Int), .int .i64 0]) ∧ Below w.heap.size w w' := by
  obtain ⟨R, E, HB⟩ := getW_facts w A n c l h hnc hc
  have HL := Lib.hid (left_any w.heap.size (w.heap.size + 1) n c l A _ R)
  have HE := Lib.hid (H _ _ R)
  have XE := Lib.hid E; have XB := Lib.hid HB
  clear H R E HB h
  unfold maxLen at hc
  go_enter Try.func18, Try.ntmps18
  go_wp2_with fail
  refine HL.out.mono ?_
  rintro e w1 ⟨rfl, rfl⟩
  go_wp2_with fail
  refine HE.out.mono ?_
  rintro e w2 ⟨rfl, ⟨A2, c2, r2⟩, g2⟩
  have E2 := XE.out.kept g2 (fun e => by injection e; omega)
  have q := E2.cell
  have f0 := E2.frozen 0; have f1 := E2.frozen 1; have f2 := E2.frozen 2; have f3 := E2.frozen 3
  have HB2 := Lib.hid (XB.out.trans (below_grown g2 (by omega) (XB.out.size)))
  obtain ⟨m, hm⟩ : ∃ m, n - t = m := ⟨_, rfl⟩
  have hmn : m ≤ n := by omega
  rw [hm] at r2
  have hnm : (n : Int) - (m : Int) = (t : Int) := by omega
  have HNM := Lib.hid hnm
  have X2 := Lib.hid E2
  have GE : w.heap.size < w.heap.size + 1 := by omega
  clear HL HE XE XB g2 E2 hm hnm
  have HXV : Hid (x.v = .agg #[.string x.m.k, .int .u64 (x.m.s : Int), .bool x.m.g, .string x.x]) := rfl
  unfold En.v
  go_wp2_with fail
  have HX := X2.out.put4 x
  have HB3 : Below w.heap.size w (stE w2 w.heap.size x) := below_put4 HB2.out (Nat.le_refl _) _
  change Code.wp _ _ _ _ (stE w2 w.heap.size x)
  have HR := r2.far4 GE (Nat.le_refl _) x
  generalize stE w2 w.heap.size x = W at *
  have HXX := Lib.hid HX; have HRR := Lib.hid HR; have HBB := Lib.hid HB3
  have hq : W.drew.cell? ⟨w.heap.size, 0, none⟩ = some (.string x.m.k) ∧ W.drew.cell? ⟨w.heap.size, 1, none⟩ = some (.int .u64 (x.m.s : Int)) ∧ W.drew.cell? ⟨w.heap.size, 2, none⟩ = some (.bool x.m.g) ∧ W.drew.cell? ⟨w.heap.size, 3, none⟩ = some (.string x.x) := HX.cell
  have HLF := Lib.hid (left_any _ _ _ _ _ _ _ HR.drew)
  have hqW := HX.cell
  have d0 : W.drew.frozen? ⟨w.heap.size, 0, none⟩ = false := HX.frozen 0
  have d1 : W.drew.frozen? ⟨w.heap.size, 1, none⟩ = false := HX.frozen 1
  have d2 : W.drew.frozen? ⟨w.heap.size, 2, none⟩ = false := HX.frozen 2
  have d3 : W.drew.frozen? ⟨w.heap.size, 3, none⟩ = false := HX.frozen 3
  have g0 := HX.frozen 0; have g1 := HX.frozen 1; have g2 := HX.frozen 2; have g3 := HX.frozen 3
  have hsum : IntKind.i64.wrap ((n : Int) - (m : Int)) = (t : Int) := by rw [HNM.out]; exact IntWalk.i64_in _ (by omega)
  clear HX HR HB3 X2 r2 HNM HB2
  go_region_held3 (fun w' => w'.cell? ⟨w.heap.size, 0, none⟩ = some (.string x.m.k) ∧ w'.cell? ⟨w.heap.size, 1, none⟩ = some (.int .u64 (x.m.s : Int)) ∧ w'.cell? ⟨w.heap.size, 2, none⟩ = some (.bool x.m.g) ∧ w'.cell? ⟨w.heap.size, 3, none⟩ = some (.string x.x))
    (first | exact hq | exact (EnAt.put4 (show EnAt W.drew w.heap.size x from HXX.out) x).cell | fail)
    (first
    | (go_at_call 36; refine HLF.out.mono ?_; rintro e w3 ⟨rfl, rfl⟩)
    | fail)
  go_wp2
  change bodyPost _ _ _ _ _ (stE W w.heap.size x).drew
  have HF : EnAt (stE W w.heap.size x).drew w.heap.size x := HXX.out.put4 x
  have HBF : Below w.heap.size w (stE W w.heap.size x).drew := (below_put4 HBB.out (Nat.le_refl _) x).drew
  clear hqW hq d0 d1 d2 d3 g0 g1 g2 g3 q f0 f1 f2 f3 HRR HLF
  generalize (stE W w.heap.size x).drew = W3 at *
  obtain ⟨z0, z1, z2, z3⟩ := HF.cell
  exact bodyPost_ret (v := .tuple #[x.v, .int .i64 (t : Int), .int .i64 0]) (by simp [results, Try.results18, go_sem, z0, z1, z2, z3, En.v]) rfl ⟨rfl, HBF⟩

/-- what Get answers: the entry, how many bytes it took, the error -/
def gotE (l : List UInt8) : En × Nat × Nat :=
  if (keyT l).2 ≠ 0 then (En.zero, 0, (keyT l).2)
  else if (Vi.get (l.drop (getText l).2.1)).2.2 ≠ 0 then (En.zero, 0, (Vi.get (l.drop (getText l).2.1)).2.2)
  else match (l.drop (getText l).2.1).drop (Vi.get (l.drop (getText l).2.1)).2.1 with
    | [] => (En.zero, 0, 5)
    | x :: l3 =>
      if 1 < x.toNat then (En.zero, 0, 4)
      else if x.toNat = 1 then (⟨⟨⟨(keyT l).1.toArray⟩, (Vi.get (l.drop (getText l).2.1)).1, true⟩, ByteArray.empty⟩, (getText l).2.1 + (Vi.get (l.drop (getText l).2.1)).2.1 + 1, 0)
      else if (valT l3).2 ≠ 0 then (En.zero, 0, (valT l3).2)
      else (⟨⟨⟨(keyT l).1.toArray⟩, (Vi.get (l.drop (getText l).2.1)).1, false⟩, ⟨(valT l3).1.toArray⟩⟩, (getText l).2.1 + (Vi.get (l.drop (getText l).2.1)).2.1 + 1 + (getText l3).2.1, 0)

/-- what was answered of bytes -/
def GotE (w : World) (r : En × Nat × Nat) (e : Ending) (w' : World) : Prop := e = .returned (.tuple #[r.1.v, .int .i64 (r.2.1 : Int), .int .i64 (r.2.2 : Int)]) ∧ Below w.heap.size w w'

theorem oget_any (A : Option Addr) (n c : Nat) (l : List UInt8) (w : World) (h : Lies w w.heap.size 1 A n (l.map bv)) (hnc : n ≤ c) (hc : c ≤ maxLen) :
    Calls Try.prog 18 #[.slice A n c] w fun e w' => GotE w (gotE l) e w' := by
  have hln := h.blen
  rcases hk : keyT l with ⟨ks, ek⟩
  obtain ⟨t1, ht1⟩ : ∃ t1, (getText l).2.1 = t1 := ⟨_, rfl⟩
  rcases hg : Vi.get (l.drop t1) with ⟨s, t2, es⟩
  unfold gotE
  rw [ht1, hk, hg]
  dsimp only
  by_cases h0 : ek = 0
  · subst h0
    rw [if_neg (by decide)]
    by_cases h1 : es = 0
    · subst h1
      rw [if_neg (by decide)]
      cases hd : (l.drop t1).drop t2 with
      | nil =>
        exact oget_bad A n c 5 l w h hnc hc (by decide) fun W g hr => entry_end _ g n c l A W hr ks t1 hk ht1 s t2 hg hd
      | cons x l3 =>
        have hlen : t1 + t2 + (1 + l3.length) = n := by
          have e1 := congrArg List.length hd
          rw [List.length_drop, List.length_drop, List.length_cons] at e1
          omega
        dsimp only
        by_cases hx : 1 < x.toNat
        · rw [if_pos hx]
          exact oget_bad A n c 4 l w h hnc hc (by decide) fun W g hr => entry_form _ g n c l A W hr ks t1 hk ht1 s t2 hg x l3 hd hx
        · rw [if_neg hx]
          by_cases hx1 : x.toNat = 1
          · rw [if_pos hx1]
            exact oget_ok A n c (t1 + t2 + 1) l _ w h hnc hc (by omega) fun W g hr => entry_gone _ g n c l A W hr ks t1 hk ht1 s t2 hg x l3 hd hx1
          · rw [if_neg hx1]
            rcases hv : valT l3 with ⟨vs, ev⟩
            obtain ⟨t4, ht4⟩ : ∃ t4, (getText l3).2.1 = t4 := ⟨_, rfl⟩
            have ht4l := (getText_took l3).1
            rw [ht4] at ht4l ⊢
            dsimp only
            by_cases h2 : ev = 0
            · subst h2
              rw [if_neg (by decide)]
              exact oget_ok A n c (t1 + t2 + 1 + t4) l _ w h hnc hc (by omega) fun W g hr => entry_val _ g n c l A W hr ks t1 hk ht1 s t2 hg x l3 hd (by omega) vs 0 t4 hv ht4
            · rw [if_pos h2]
              exact oget_bad A n c ev l w h hnc hc h2 fun W g hr => (entry_val _ g n c l A W hr ks t1 hk ht1 s t2 hg x l3 hd (by omega) vs ev t4 hv ht4).mono fun e w' ⟨he, hp⟩ => ⟨_, he, hp.2⟩
    · rw [if_pos h1]
      exact oget_bad A n c es l w h hnc hc h1 fun W g hr => entry_seq _ g n c l A W hr ks t1 hk ht1 s t2 es hg h1
  · rw [if_pos h0]
    exact oget_bad A n c ek l w h hnc hc h0 fun W g hr => by
      have := entry_key _ g n c l A W hr (by rw [hk]; exact h0)
      rw [hk] at this
      exact this
end Go.Proofs.Ytjeijgkkobmdbaa
