/-
  Contracts of package blocks: bodyOf.
  Contracts of package blocks: decoded.
  Contracts of package blocks: decoded, walked.
-/
import Derived.Test.YtghfhojpnbpjoaaBkHJ
import Derived.Test.YtghfhojpnbpjoaaBkMB
import Derived.Deep.QuietTactic
import Derived.BigQuiet
import Derived.Test.YtghfhojpnbpjoaaKpX
import Derived.LoopTactic
namespace Go.Proofs.Ytghfhojpnbpjoaa
open Go.RowKit
set_option linter.unusedVariables false
set_option maxRecDepth 100000

theorem i64_or8 (x y : Nat) (hx : x < 256) (hy : y < 256) : bits .or .i64 ((x * 256 : Nat) : Int) (y : Int) = ((256 * x + y : Nat) : Int) := by
  have e : x * 256 ||| y = 256 * x + y := by
    have := Nat.two_pow_add_eq_or_of_lt (i := 8) (b := y) (by simpa using hy) x
    simp at this
    rw [Nat.mul_comm x 256, ← this]
  show IntKind.i64.wrap ((BitVec.ofInt 64 ((x * 256 : Nat) : Int) ||| BitVec.ofInt 64 (y : Int)).toNat : Int) = _
  rw [BitVec.toNat_or, ofInt_u64 _ (by omega), ofInt_u64 _ (by omega), e]
  exact IntWalk.i64_in _ (by omega)
/-- what bodyOf answers -/
def BodyP (w : World) (A : Option Addr) (l : List UInt8) (e : Ending) (w' : World) : Prop :=
  Below w.heap.size w w' ∧ match bodyE l with
  | none => e = .returned (.agg #[.slice none 0 0, .bool true])
  | some m => m ≤ l.length ∧ e = .returned (.agg #[.slice A m m, .bool false])
theorem getD_some (l : List UInt8) (k : Nat) (h : k < l.length) : l[k]? = some (l.getD k 0) := by
  rw [List.getD_eq_getElem?_getD, List.getElem?_eq_getElem h]; rfl

set_option maxHeartbeats 2000000 in
theorem body_any (A : Option Addr) (n c : Nat) (l : List UInt8) (w : World) (h : Lies w w.heap.size 1 A n (l.map bv)) (hnc : n ≤ c) (hc : c ≤ maxLen) :
    Calls Try.prog 53 #[.slice A n c] w (BodyP w A l) := by
  have hln := h.blen
  have hcm := hc
  unfold maxLen at hcm
  have hW : Below w.heap.size w (w.alloc (.cells #[.slice none 0 0, .bool false] 102)) := (Below.refl _ _).alloc (Nat.le_refl _) _
  obtain ⟨W1, hW1⟩ : ∃ W, w.alloc (.cells #[.slice none 0 0, .bool false] 102) = W := ⟨_, rfl⟩
  have hbx : W1.heap[w.heap.size]? = some (.cells #[.slice none 0 0, .bool false] 102 (0, 0)) := by rw [← hW1]; exact heap_alloc_new w _
  rw [hW1] at hW
  have d0 : W1.cell? ⟨w.heap.size, 0, none⟩ = some (.slice none 0 0) := cell_of_row _ _ 0 _ _ (0, 0) hbx
  have d1 : W1.cell? ⟨w.heap.size, 1, none⟩ = some (.bool false) := cell_of_row _ _ 1 _ _ (0, 0) hbx
  have f0 : W1.frozen? ⟨w.heap.size, 0, none⟩ = false := by simp [World.frozen?, hbx]
  have f1 : W1.frozen? ⟨w.heap.size, 1, none⟩ = false := by simp [World.frozen?, hbx]
  have H1 := Lib.hid hW1
  have hz : W1.heap.size = w.heap.size + 1 := by rw [← hW1]; simp
  have HS : Hid (∀ W (A' : Option Addr) (n' c' : Nat) (b : Bool), Below w.heap.size w W → W.heap[w.heap.size]? = some (.cells #[.slice none 0 0, .bool false] 102 (0, 0)) →
      Below w.heap.size w ((W.setCell ⟨w.heap.size, 0, none⟩ (.slice A' n' c')).setCell ⟨w.heap.size, 1, none⟩ (.bool b)) ∧
      ((W.setCell ⟨w.heap.size, 0, none⟩ (.slice A' n' c')).setCell ⟨w.heap.size, 1, none⟩ (.bool b)).cell? ⟨w.heap.size, 0, none⟩ = some (.slice A' n' c') ∧
      ((W.setCell ⟨w.heap.size, 0, none⟩ (.slice A' n' c')).setCell ⟨w.heap.size, 1, none⟩ (.bool b)).cell? ⟨w.heap.size, 1, none⟩ = some (.bool b)) := fun W A' n' c' b hb hx => by
    have hx2 : ((W.setCell ⟨w.heap.size, 0, none⟩ (.slice A' n' c')).setCell ⟨w.heap.size, 1, none⟩ (.bool b)).heap[w.heap.size]? = some (.cells #[.slice A' n' c', .bool b] 102 (0, 0)) := by
      simp [World.setCell, Array.getElem?_modify, hx]
    exact ⟨(hb.setCell (p := ⟨w.heap.size, 0, none⟩) (Nat.le_refl _) _).setCell (p := ⟨w.heap.size, 1, none⟩) (Nat.le_refl _) _, cell_of_row _ _ 0 _ _ (0, 0) hx2, cell_of_row _ _ 1 _ _ (0, 0) hx2⟩
  have HBX := Lib.hid hbx; have HW := Lib.hid hW
  by_cases h2 : n < 2
  · have HE : Hid (bodyE l = none) := by unfold Hid bodyE; rw [if_pos (by omega)]
    have h2i : (n : Int) - 2 < 0 := by omega
    have h2j : (n : Int) < 2 := by omega
    obtain ⟨g1, g2, g3⟩ := HS.out W1 none 0 0 true HW.out HBX.out
    have HB := Lib.hid g1; have HC0 := Lib.hid g2; have HC1 := Lib.hid g3
    clear g1 g2 g3 h hln hW1 hbx hW HS HBX HW hz hc
    go_enter Try.func53, Try.ntmps53
    go_upto_region 1 with fail
    rw [H1.out]
    clear H1
    go_wp2
    have z0 := HC0.out; have z1 := HC1.out
    refine bodyPost_ret (v := .agg #[.slice none 0 0, .bool true]) (by simp [results, Try.results53, go_sem, z0, z1]) rfl ⟨HB.out, ?_⟩
    rw [HE.out]
  · have h2j : ¬ (n : Int) < 2 := by omega
    obtain ⟨x, hx⟩ : ∃ x, l.getD (n - 2) 0 = x := ⟨_, rfl⟩
    obtain ⟨y, hy⟩ : ∃ y, l.getD (n - 1) 0 = y := ⟨_, rfl⟩
    have hx8 := x.toNat_lt; have hy8 := y.toNat_lt
    obtain ⟨b, o, u, rfl, hbB, hu, hc0⟩ := h.at_ (j := n - 2) (by omega)
    obtain ⟨b', o', u', hA', _, hu', hc1⟩ := h.at_ (j := n - 1) (by omega)
    injection hA' with hA'
    injection hA' with e1 e2
    subst e1 e2
    rw [List.getElem?_map, getD_some l _ (by omega), hx] at hu
    rw [List.getElem?_map, getD_some l _ (by omega), hy] at hu'
    injection hu with hu
    injection hu' with hu'
    subst hu hu'
    have hc0' : W1.cell? ⟨b, o + (n - 2), none⟩ = some (bv x) := (HW.out.cell (p := ⟨b, o + (n - 2), none⟩) hbB).trans hc0
    have hc1' : W1.cell? ⟨b, o + (n - 1), none⟩ = some (bv y) := (HW.out.cell (p := ⟨b, o + (n - 1), none⟩) hbB).trans hc1
    obtain ⟨k, hk⟩ : ∃ k, 256 * x.toNat + y.toNat = k := ⟨_, rfl⟩
    have hor := i64_or8 x.toNat y.toNat (by omega) (by omega)
    rw [hk] at hor
    have hbe : bodyE l = if n - 2 < 2 * k then none else some (n - 2 - 2 * k) := by
      unfold bodyE; rw [hln, if_neg h2, hx, hy, hk]
    obtain ⟨j, hj⟩ : ∃ j, n - 2 = j := ⟨_, rfl⟩
    have hj1 : n - 1 = j + 1 := by omega
    rw [hj] at hc0' hbe
    rw [hj1] at hc1'
    have hnj : (n : Int) - 2 = (j : Int) := by omega
    have i0 : (0 : Int) ≤ (j : Int) := by omega
    have i1 : (j : Int) < (n : Int) := by omega
    have i2 : (0 : Int) ≤ (j : Int) + 1 := by omega
    have i3 : (j : Int) + 1 < (n : Int) := by omega
    have i4 : IntKind.i64.wrap ((j : Int) + 1) = (j : Int) + 1 := by apply IntWalk.i64_in; omega
    have i5 : ((j : Int) + 1).toNat = j + 1 := by omega
    obtain ⟨X, hX⟩ : ∃ X, x.toNat = X := ⟨_, rfl⟩
    obtain ⟨Y, hY⟩ : ∃ Y, y.toNat = Y := ⟨_, rfl⟩
    have hkk : k < 65536 := by omega
    unfold bv at hc0' hc1'
    rw [hX] at hc0' hor hx8
    rw [hY] at hc1' hor
    have i6 : IntKind.i64.wrap ((X : Int) * 256) = ((X * 256 : Nat) : Int) := by rw [show ((X : Int) * 256) = ((X * 256 : Nat) : Int) by omega]; apply IntWalk.i64_in; omega
    have hor2 : bits .or .i64 ((X : Int) * 256) (Y : Int) = (k : Int) := by rw [← hor]; congr 1
    have i7 : IntKind.i64.wrap (X : Int) = (X : Int) := by apply IntWalk.i64_in; omega
    have i8 : IntKind.i64.wrap (Y : Int) = (Y : Int) := by apply IntWalk.i64_in; omega
    have HBE := Lib.hid hbe
    have HJ := Lib.hid hj
    have HLN := Lib.hid hln
    have HQ : Hid (∀ q, (Below w.heap.size w (W1.drewN q)) ∧ (W1.drewN q).heap[w.heap.size]? = some (.cells #[.slice none 0 0, .bool false] 102 (0, 0))) := fun q => ⟨below_drewN HW.out q, HBX.out⟩
    clear hor hx hy hc0 hc1 hbe hj hj1 h hX hY hk hx8 hy8 hln hW1 hbx hW hz h2
    go_enter Try.func53, Try.ntmps53
    go_upto_region 1 with fail
    rw [H1.out]
    clear H1
    go_wp2
    go_quiet (fail)
    obtain ⟨q1, q2⟩ := HQ.out nq
    generalize W1.drewN nq = W2 at *
    have HW2 := Lib.hid q1; have HX2 := Lib.hid q2
    clear hor2 i4 i5 i6 i7 i8 hc0' hc1' HQ d0 d1 f0 f1 HBX HW
    have d0 : W2.cell? ⟨w.heap.size, 0, none⟩ = some (.slice none 0 0) := cell_of_row _ _ 0 _ _ (0, 0) q2
    have d1 : W2.cell? ⟨w.heap.size, 1, none⟩ = some (.bool false) := cell_of_row _ _ 1 _ _ (0, 0) q2
    have f0 : W2.frozen? ⟨w.heap.size, 0, none⟩ = false := by simp [World.frozen?, q2]
    have f1 : W2.frozen? ⟨w.heap.size, 1, none⟩ = false := by simp [World.frozen?, q2]
    clear q1 q2
    by_cases hjk : j < 2 * k
    · have HE : Hid (bodyE l = none) := by unfold Hid; rw [HBE.out, if_pos hjk]
      have j1 : (j : Int) - 2 * (k : Int) < 0 := by omega
      have j2 : (j : Int) < 2 * (k : Int) := by omega
      obtain ⟨g1, g2, g3⟩ := HS.out W2 none 0 0 true HW2.out HX2.out
      have HB := Lib.hid g1; have HC0 := Lib.hid g2; have HC1 := Lib.hid g3
      clear g1 g2 g3 HS HX2 HW2
      go_wp2
      have z0 := HC0.out; have z1 := HC1.out
      refine bodyPost_ret (v := .agg #[.slice none 0 0, .bool true]) (by simp [results, Try.results53, go_sem, z0, z1]) rfl ⟨HB.out, ?_⟩
      rw [HE.out]
    · obtain ⟨m, hm⟩ : ∃ m, j - 2 * k = m := ⟨_, rfl⟩
      have HE : Hid (bodyE l = some m) := by unfold Hid; rw [HBE.out, if_neg hjk, hm]
      have j1 : (j : Int) - 2 * (k : Int) = (m : Int) := by omega
      have j2 : ¬ (j : Int) < 2 * (k : Int) := by omega
      have j3 : ¬ (m : Int) < 0 := by omega
      have hml : m ≤ n := by omega
      have HM : Hid (m ≤ l.length) := by unfold Hid; rw [HLN.out]; exact hml
      have hsl := fun W => run_head3 W (some ⟨b, o, none⟩) n c m m (Nat.le_refl _) (by omega)
      obtain ⟨g1, g2, g3⟩ := HS.out W2 (some ⟨b, o, none⟩) m m false HW2.out HX2.out
      have HB := Lib.hid g1; have HC0 := Lib.hid g2; have HC1 := Lib.hid g3
      clear g1 g2 g3 HS HX2 HW2 hm hjk
      go_wp2
      have z0 := HC0.out; have z1 := HC1.out
      refine bodyPost_ret (v := .agg #[.slice (some ⟨b, o, none⟩) m m, .bool false]) (by simp [results, Try.results53, go_sem, z0, z1]) rfl ⟨HB.out, ?_⟩
      rw [HE.out]
      exact ⟨HM.out, rfl⟩
end Go.Proofs.Ytghfhojpnbpjoaa

namespace Go.Proofs.Ytghfhojpnbpjoaa
open Go.RowKit
set_option linter.unusedVariables false
set_option maxRecDepth 100000

theorem numF_len (l : List UInt8) (b : Bool) : (numF l b).1.length ≤ l.length := by unfold numF; simp only [List.length_drop]; omega
theorem textF_len (l : List UInt8) (b : Bool) : (textF l b).1.length ≤ l.length := by unfold textF; simp only [List.length_drop]; omega
theorem numF_bad {l : List UInt8} {b : Bool} (h : (numF l b).2 = false) : b = false := by
  unfold numF at h; simp only [Bool.or_eq_false_iff] at h; exact h.1
theorem textF_bad {l : List UInt8} {b : Bool} (h : (textF l b).2 = false) : b = false := by
  unfold textF at h; simp only [Bool.or_eq_false_iff] at h; exact h.1
theorem stateF_len (l : List UInt8) (b : Bool) : (stateF l b).2.1.length ≤ l.length := by
  cases l with
  | nil => simp [stateF]
  | cons c r => rw [stateF_cons]; split <;> simp
theorem stateF_bad {l : List UInt8} {b : Bool} (h : (stateF l b).2.2 = false) : b = false := by
  cases l with
  | nil => simp [stateF] at h
  | cons c r =>
    rw [stateF_cons] at h
    split at h
    · cases h
    · exact h
theorem keyF_len (p : ByteArray) (l : List UInt8) (b : Bool) : (keyF p l b).2.1.length ≤ l.length := by
  have h1 := numF_len l b
  have h2 := textF_len (numF l b).1 (numF l b).2
  unfold keyF
  split
  · show (textF (numF l b).1 (numF l b).2).1.length ≤ _; omega
  · show (textF (numF l b).1 (numF l b).2).1.length ≤ _; omega
theorem keyF_sz (p : ByteArray) (l : List UInt8) (b : Bool) : (keyF p l b).1.size ≤ p.size + l.length := by
  have h1 := numF_len l b
  have h2 := (getText_took (numF l b).1).2.1
  unfold keyF
  split
  · simp
  · show (p.extract 0 (Vi.get l).1 ++ ⟨(getText (numF l b).1).1.toArray⟩).size ≤ _
    have h4 := txt_size (getText (numF l b).1).1
    rw [ByteArray.size_append, ByteArray.size_extract]; omega
theorem keyF_ok {p : ByteArray} {l : List UInt8} {b : Bool} (h : (keyF p l b).2.2 = false) : (keyF p l b).1.size ≤ 32 := by
  unfold keyF at h ⊢
  split at h
  · cases h
  · rename_i hc
    simp only [Bool.or_eq_false_iff, Bool.not_eq_false'] at h
    rw [if_neg hc]
    have := h.2
    unfold chk at this
    exact (of_decide_eq_true this).2
theorem entF_sz (p : ByteArray) (l : List UInt8) (b : Bool) (hp : p.size ≤ 32) (hl : l.length ≤ 1000000) :
    (entF p l b).1.m.k.size ≤ 2000000 ∧ (entF p l b).1.x.size ≤ 1000000 ∧ (entF p l b).1.m.s < 18446744073709551616 ∧ (entF p l b).2.1.length ≤ l.length ∧ ((entF p l b).2.2 = false → (entF p l b).1.m.k.size ≤ 32) := by
  have k1 := keyF_len p l b
  have k2 := keyF_sz p l b
  have k3 := @keyF_ok p l b
  rcases hk : keyF p l b with ⟨k, s⟩
  rw [hk] at k1 k2 k3
  unfold entF
  rw [hk]
  unfold seqF
  show (restF k (Vi.get s.1).1 (stateF (numF s.1 s.2).1 (numF s.1 s.2).2)).1.m.k.size ≤ _ ∧ (restF k (Vi.get s.1).1 (stateF (numF s.1 s.2).1 (numF s.1 s.2).2)).1.x.size ≤ _ ∧ (restF k (Vi.get s.1).1 (stateF (numF s.1 s.2).1 (numF s.1 s.2).2)).1.m.s < _ ∧ (restF k (Vi.get s.1).1 (stateF (numF s.1 s.2).1 (numF s.1 s.2).2)).2.1.length ≤ _ ∧ ((restF k (Vi.get s.1).1 (stateF (numF s.1 s.2).1 (numF s.1 s.2).2)).2.2 = false → (restF k (Vi.get s.1).1 (stateF (numF s.1 s.2).1 (numF s.1 s.2).2)).1.m.k.size ≤ 32)
  have n1 := numF_len s.1 s.2
  have n2 := @numF_bad s.1 s.2
  have g1 := (Vi.get_lt s.1).1
  rcases hn : numF s.1 s.2 with ⟨s2, b2⟩
  rw [hn] at n1 n2
  have t1 := stateF_len s2 b2
  have t2 := @stateF_bad s2 b2
  show (restF k (Vi.get s.1).1 (stateF s2 b2)).1.m.k.size ≤ _ ∧ (restF k (Vi.get s.1).1 (stateF s2 b2)).1.x.size ≤ _ ∧ (restF k (Vi.get s.1).1 (stateF s2 b2)).1.m.s < _ ∧ (restF k (Vi.get s.1).1 (stateF s2 b2)).2.1.length ≤ _ ∧ ((restF k (Vi.get s.1).1 (stateF s2 b2)).2.2 = false → (restF k (Vi.get s.1).1 (stateF s2 b2)).1.m.k.size ≤ 32)
  rcases hs : stateF s2 b2 with ⟨q, s3, b3⟩
  rw [hs] at t1 t2
  simp only at k1 k2 k3 n1 n2 t1 t2
  have x1 := textF_len s3 b3
  have x2 := @textF_bad s3 b3
  have x3 := (getText_took s3).2.1
  unfold restF
  split
  · refine ⟨by show k.size ≤ _; omega, by show (ByteArray.empty).size ≤ _; simp, g1, by show s3.length ≤ _; omega, fun h => k3 (n2 (t2 h))⟩
  · refine ⟨by show k.size ≤ _; omega, ?_, g1, ?_, fun h => k3 (n2 (t2 (x2 h)))⟩
    · show (⟨(getText s3).1.toArray⟩ : ByteArray).size ≤ _
      rw [txt_size]; omega
    · show (textF s3 b3).1.length ≤ _
      omega
theorem decF_end {f : Nat} {acc : List En} {p : ByteArray} {l : List UInt8} {b : Bool} (h : ¬ (b = false ∧ l ≠ [] ∧ acc.length ≤ 64)) : decF f acc p l b = (acc, !b) := by
  cases f with
  | zero => rfl
  | succ f => rw [decF, if_neg h]
theorem decF_step {f : Nat} {acc : List En} {p : ByteArray} {l : List UInt8} (h : l ≠ [] ∧ acc.length ≤ 64) : decF (f + 1) acc p l false = decF f (acc ++ [(entF p l false).1]) (entF p l false).1.m.k (entF p l false).2.1 (entF p l false).2.2 := by
  rw [decF, if_pos ⟨rfl, h⟩]

theorem ecs_snoc (l : List En) (x : En) : ecs (l ++ [x]) = ecs l ++ ecs [x] := by simp [ecs]
def szE (e : En) : Prop := e.m.k.size ≤ 2000000 ∧ e.x.size ≤ 1000000 ∧ e.m.s < 18446744073709551616
/-- what holds at the loop's head -/
def DecR (w : World) (g : Nat) (T : List En × Bool) (vl vk : Value) (wr : World) : Prop :=
  ∃ (f : Nat) (acc : List En) (p : ByteArray) (l : List UInt8) (bad : Bool) (A : Option Addr) (n c : Nat),
    f + acc.length = 66 ∧ 1 ≤ f ∧ decF f acc p l bad = T ∧ wr.ownsRow w.heap.size 40 4 vl acc.length (ecs acc) ∧ vk = .string p ∧ BR wr w.heap.size g l bad A n c ∧ n ≤ 1000000 ∧ (bad = false → p.size ≤ 32) ∧ (∀ e ∈ acc, szE e) ∧ Below w.heap.size w wr
theorem own_gr {w w' : World} {base e k n g : Nat} {v : Value} {xs : List Value} (h : w.ownsRow base e k v n xs) (hne : ∀ i, v.ownBlock = some i → i ≠ g) (hg : w.grownBy w' (some g)) : w'.ownsRow base e k v n xs := by
  refine ⟨h.1, ?_⟩
  rcases h.2 with h2 | ⟨i, cap, cur, hv, hb, hh, r⟩
  · exact .inl h2
  · exact .inr ⟨i, cap, cur, hv, hb, (hg.block i (Array.getElem?_eq_some_iff.1 hh).1 (fun e => by injection e with e; exact hne i (by rw [hv]; rfl) e)).trans hh, r⟩
theorem own_ne {w : World} {base e k n g : Nat} {v : Value} {xs : List Value} {cs : Array Value} {t : TypeId} {fz : Nat × Nat} (h : w.ownsRow base e k v n xs) (hx : w.heap[g]? = some (.cells cs t fz)) (hne : e ≠ t) : ∀ i, v.ownBlock = some i → i ≠ g := by
  intro i hi e2
  subst e2
  rcases h.2 with ⟨rfl, _⟩ | ⟨g', cap, cur, rfl, _, hh, _⟩
  · simp [Value.ownBlock] at hi
  · have : g' = i := by simpa [Value.ownBlock] using hi
    subst this
    rw [hx] at hh
    injection hh with hh
    injection hh with _ hh
    exact hne hh.symm
theorem BR.grown {w w' : World} {B g n c base e k m : Nat} {l : List UInt8} {bad : Bool} {A : Option Addr} {v : Value} {xs : List Value} (h : BR w B g l bad A n c) (ho : w.ownsRow base e k v m xs) (hne : e ≠ 102) (hB : B ≤ base) (hg : w.grownBy w' v.ownBlock) : BR w' B g l bad A n c := by
  have hn := own_ne ho h.box hne
  refine ⟨(hg.block g h.lt (fun q => hn g q.symm rfl)).trans h.box, ?_, h.nc, h.cm, h.Bg⟩
  exact h.lies.below ((Below.refl B w).grown hg (by have := h.lt; have := h.Bg; omega) (fun j hj => Nat.le_trans hB (ho.lt j hj).1))
end Go.Proofs.Ytghfhojpnbpjoaa

namespace Go.Proofs.Ytghfhojpnbpjoaa
open Go.RowKit
set_option linter.unusedVariables false
set_option maxRecDepth 100000

/-- what decoded answers -/
def DecP (w : World) (T : List En × Bool) (e : Ending) (w' : World) : Prop :=
  ∃ A n c, e = .returned (.tuple #[.slice A n c, .bool T.2]) ∧ w'.ownsRow w.heap.size 40 4 (.slice A n c) n (ecs T.1) ∧ (∀ e ∈ T.1, szE e) ∧ Below w.heap.size w w'
theorem body_ways {w w1 : World} {A : Option Addr} {n : Nat} {l : List UInt8} {e : Ending} (h : Lies w w.heap.size 1 A n (l.map bv)) (hn : n ≤ 1000000) (hb : BodyP w A l e w1) :
    ∃ A1 n1 bd l1, e = .returned (.agg #[.slice A1 n1 n1, .bool bd]) ∧ Lies w1 w.heap.size 1 A1 n1 (l1.map bv) ∧ n1 ≤ 1000000 ∧ decF 66 [] ByteArray.empty l1 bd = decB l ∧ Below w.heap.size w w1 := by
  obtain ⟨hbw, hm⟩ := hb
  unfold decB
  cases hq : bodyE l with
  | none =>
    rw [hq] at hm
    exact ⟨none, 0, true, [], hm, Lies.none_ _ _ _ _, by omega, rfl, hbw⟩
  | some m =>
    rw [hq] at hm
    have hln := h.blen
    exact ⟨A, m, false, l.take m, hm.2, lies_take (h.below hbw) (by have := hm.1; omega), by have := hm.1; omega, rfl, hbw⟩

set_option maxHeartbeats 4000000 in
theorem decoded_any (A : Option Addr) (n c : Nat) (l : List UInt8) (w : World) (h : Lies w w.heap.size 1 A n (l.map bv)) (hnc : n ≤ c) (hc : c ≤ maxLen) (hl : n ≤ 1000000) :
    Calls Try.prog 29 #[.slice A n c] w (DecP w (decB l)) := by
  obtain ⟨i0, hi, hz0, hz1, hz2⟩ := info_parts entry_info
  have HB := Lib.hid (body_any A n c l w h hnc hc)
  have HL := Lib.hid h
  obtain ⟨T, hT⟩ : ∃ T, decB l = T := ⟨_, rfl⟩
  have HT := Lib.hid hT
  rw [hT]
  clear h hT
  go_enter Try.func29, Try.ntmps29
  go_wp2_with fail
  refine HB.out.mono ?_
  intro e w1 hb
  obtain ⟨A1, n1, bd, l1, rfl, hl1, hn1, hd, hbw⟩ := body_ways HL.out hl hb
  rw [HT.out] at hd
  have hbx : (w1.alloc (.cells #[.slice A1 n1 n1, .bool bd] 102)).heap[w1.heap.size]? = some (.cells #[.slice A1 n1 n1, .bool bd] 102 (0, 0)) := heap_alloc_new w1 _
  have hr : BR (w1.alloc (.cells #[.slice A1 n1 n1, .bool bd] 102)) w.heap.size w1.heap.size l1 bd A1 n1 n1 :=
    ⟨hbx, hl1.alloc hbw.size _, Nat.le_refl _, by unfold maxLen; omega, hbw.size⟩
  have hD : DecR w w1.heap.size T (.slice none 0 0) (.string ⟨#[]⟩) (w1.alloc (.cells #[.slice A1 n1 n1, .bool bd] 102)) :=
    ⟨66, [], ByteArray.empty, l1, bd, A1, n1, n1, rfl, by omega, hd, World.ownsRow_nil _ _ _ _, rfl, hr, hn1, (fun _ => by simp), (fun e he => by cases he), hbw.alloc hbw.size _⟩
  have HD := Lib.hid hD
  clear hb hl1 hd hbw hbx hr hD HB HL
  go_wp2
  go_loopw [5, 6] (fun vl vk wr => DecR w w1.heap.size T vl vk wr) (fun vl _ _ => 66 - lenV vl)
  case atStart => exact HD.out
  case round =>
    obtain ⟨f, acc, p, l2, bad, A2, n2, c2, hf, hf1, hdec, hown, rfl, hr, hn2, hp, hsz, hbw⟩ := hrel
    obtain ⟨Av, cv, rfl, hnv, hcv, _⟩ := own_shape hown
    have r0 := hr.c0; have r1 := hr.c1
    have hln := hr.lies.blen
    have HO := Lib.hid hown; have HR := Lib.hid hr; have HS := Lib.hid hsz; have HB := Lib.hid hbw
    have hw1 : w1.heap.size < wr.heap.size := hr.lt
    have HFin : Hid (T = (acc, !bad) → ∀ q, DecP w T (.returned (.tuple #[.slice Av acc.length cv, .bool (!bad)])) (wr.drewN q)) := fun e q => by
      rw [e]
      exact ⟨Av, acc.length, cv, rfl, own_below HO.out (below_drewN (Below.refl _ _) q), HS.out, below_drewN HB.out q⟩
    have rq : ∀ q, (wr.drewN q).cell? ⟨w1.heap.size, 1, none⟩ = some (.bool bad) := fun q => r1
    clear hown hr hsz hbw HD
    cases bad
    · by_cases h0 : n2 = 0
      · have HE : Hid (T = (acc, !false)) := by
          unfold Hid
          rw [← hdec]; exact decF_end (fun h => h.2.1 (List.eq_nil_of_length_eq_zero (by omega)))
        subst h0
        clear hdec
        go_wp2
        go_quiet (fail)
        go_wp2
        go_ret2
        exact HFin.out HE.out _
      · have h1 : (0 : Int) < (n2 : Int) := by omega
        by_cases h2 : 64 < acc.length
        · have HE : Hid (T = (acc, !false)) := by
            unfold Hid
            rw [← hdec]; exact decF_end (fun h => by have := h.2.2; omega)
          have h2i : ¬ ((acc.length : Nat) : Int) ≤ 64 := by omega
          clear hdec
          go_wp2
          go_quiet (fail)
          go_wp2
          go_ret2
          exact HFin.out HE.out _
        · have h2i : ((acc.length : Nat) : Int) ≤ 64 := by omega
          obtain ⟨f', rfl⟩ : ∃ f', f = f' + 1 := ⟨f - 1, by omega⟩
          have hne : l2 ≠ [] := fun q => by rw [q] at hln; simp at hln; omega
          rw [decF_step ⟨hne, by omega⟩] at hdec
          have hes := entF_sz p l2 false (hp rfl) (by omega)
          have HC := Lib.hid (bentry_any w.heap.size w1.heap.size n2 c2 l2 false A2 p wr HR.out (by have := hp rfl; omega) hn2)
          rcases he : entF p l2 false with ⟨x, l3, bad3⟩
          rw [he] at HC hdec hes
          have HDec := Lib.hid hdec; have HEs := Lib.hid hes
          have hon := own_ne HO.out HR.out.box (by decide)
          have HLn := Lib.hid hln
          have HON := Lib.hid hon
          clear hdec hes he hne hln hon rq HFin
          unfold En.v at HC
          go_wp2_with fail
          refine HC.out.mono ?_
          rintro e w2 ⟨rfl, ⟨A3, n3, c3, hr3⟩, hg3⟩
          have ho3 := own_gr HO.out HON.out hg3
          have hbz : w.heap.size ≤ wr.heap.size := HB.out.size
          have hb3 : Below w.heap.size w w2 := HB.out.trans (below_grown hg3 HR.out.Bg hbz)
          obtain ⟨W3, hW3⟩ : ∃ W, w2.alloc (.cells #[.string x.m.k, .int .u64 (x.m.s : Int), .bool x.m.g, .string x.x] 40) = W := ⟨_, rfl⟩
          have hbA : Below w2.heap.size w2 W3 := by rw [← hW3]; exact (Below.refl _ _).alloc (Nat.le_refl _) _
          have hx3 : EnAt W3 w2.heap.size x := by rw [← hW3]; exact EnAt.new w2 x
          have hz3 : W3.heap.size = w2.heap.size + 1 := by rw [← hW3]; simp
          have hoA := own_below ho3 hbA
          have hrA := hr3.below hbA
          have hb4 := hb3.trans (hbA.mono hb3.size)
          have hxc := hx3.cell
          have HX := Lib.hid hx3; have HW3 := Lib.hid hW3; have HoA := Lib.hid hoA; have HrA := Lib.hid hrA; have Hb4 := Lib.hid hb4; have Hz3 := Lib.hid hz3
          have HLt : Hid (∀ j, (Value.slice Av acc.length cv).ownBlock = some j → j < w2.heap.size) := fun j hj => (ho3.lt j hj).2
          obtain ⟨x0, x1, x2, x3⟩ := hxc
          have hn3 : n3 = l3.length := hr3.lies.blen.symm
          have HN3 := Lib.hid hn3
          have hza := hb4.size
          unfold maxLen at hcv
          clear HC hr3 hg3 ho3 hb3 hbA hoA hrA hb4 hx3 hz3 hn3 HO HR HB r0 r1 hW3
          go_wp2_with fail
          rw [HW3.out]
          clear HW3
          have HE3 : Hid (Lies ((W3.drew).alloc (.cells #[.string x.m.k, .int .u64 (x.m.s : Int), .bool x.m.g, .string x.x] 40)) (W3.heap.size + 1) 4 (some ⟨W3.heap.size, 0, none⟩) 1 (ecs [x])) := en_lies W3.drew x
          have hxa := (HX.out.below ((Below.refl W3.heap.size W3).alloc (Nat.le_refl _) (.cells #[.string x.m.k, .int .u64 (x.m.s : Int), .bool x.m.g, .string x.x] 40)) HX.out.lt).cell.1
          go_region_law (first
            | (refine step_app _ rfl (.tmp 26) (.tmp 28) 22 rfl w.heap.size 40 i0 _ 4 48 Try.underlying22 hi hz0 hz1 hz2 rfl (by decide) (.slice Av acc.length cv) acc.length (ecs acc) rfl (World.ownsRow.alloc (w := W3.drew) HoA.out _) (W3.heap.size + 1) (some ⟨W3.heap.size, 0, none⟩) 1 1 (ecs [x]) rfl HE3.out (ecs_one _) (by unfold maxLen; omega) (by omega) (by simp; omega) ?_; intro v4 w4 hown4 hg4 _; obtain ⟨A4, c4, rfl, hn4, hc4, _⟩ := own_shape hown4; have hx4 : EnAt w4 w2.heap.size x := ((hg4.block w2.heap.size (by have := Hz3.out; simp; omega) (fun q => Nat.lt_irrefl _ (HLt.out _ q.symm))).trans ((HX.out.below ((Below.refl W3.heap.size W3).alloc (Nat.le_refl _) _).drew HX.out.lt))); have hx40 := hx4.cell.1)
            | fail)
          all_goals (
            have hupA : Below W3.heap.size W3 (W3.alloc (.cells #[.string x.m.k, .int .u64 (x.m.s : Int), .bool x.m.g, .string x.x] 40)).drew := ((Below.refl W3.heap.size W3).alloc (Nat.le_refl _) _).drew
            have hD4 : DecR w w1.heap.size T (.slice A4 (acc.length + 1) c4) (.string x.m.k) w4 := by
              refine ⟨f', acc ++ [x], x.m.k, l3, bad3, A3, n3, c3, by rw [List.length_append, List.length_singleton]; omega, by omega, HDec.out, ?_, rfl, ?_, ?_, HEs.out.2.2.2.2, ?_, ?_⟩
              · rw [List.length_append, List.length_singleton, ecs_snoc]; exact hown4
              · exact (HrA.out.below hupA).grown (own_below HoA.out hupA) (by decide) (Nat.le_refl _) hg4
              · rw [HN3.out]; have := HEs.out.2.2.2.1; have := HLn.out; omega
              · intro e he
                rcases List.mem_append.1 he with he | he
                · exact HS.out e he
                · rw [List.mem_singleton] at he; subst he; exact ⟨HEs.out.1, HEs.out.2.1, HEs.out.2.2.1⟩
              · exact (Hb4.out.trans (hupA.mono Hb4.out.size)).grown hg4 (by have := Hb4.out.size; simp; omega) (fun j hj => ((own_below HoA.out hupA).lt j hj).1)
            have HD4 := Lib.hid hD4
            clear hD4 hown4 hg4 hx4 hupA hx40 hxa)
          all_goals try simp only [Act.put, List.setIfInBounds_toArray, List.set_cons_zero, List.set_cons_succ, List.getElem_toArray, List.getElem_cons_zero, List.getElem_cons_succ]
          all_goals go_wp2
          all_goals go_roundw
          all_goals first
            | exact HD4.out
            | omega
            | (simp only [lenV_slice]; omega)
    · have HE : Hid (T = (acc, !true)) := by
        unfold Hid
        rw [← hdec]; exact decF_end (fun h => by cases h.1)
      clear hdec
      go_wp2
      go_quiet (fail)
      go_wp2
      go_ret2
      exact HFin.out HE.out _
end Go.Proofs.Ytghfhojpnbpjoaa

