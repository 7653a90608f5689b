/-
  Contracts of package blocks: encodedEntry.
  Contracts of package blocks: the function that encoded has visit call.
-/
import Derived.Test.YtghfhojpnbpjoaaBkMB
import Derived.Test.YtghfhojpnbpjoaaOrX
import Derived.Test.YtghfhojpnbpjoaaKpX
namespace Go.Proofs.Ytghfhojpnbpjoaa
open Go.RowKit
set_option linter.unusedVariables false
set_option maxRecDepth 100000

theorem oput_ans (x : En) (w : World) (hk : x.m.s < 18446744073709551616) (hs : x.m.k.size + x.x.size ≤ 137438953472) :
    Calls Try.prog 84 #[.slice none 0 0, x.v] w fun e w' => ∃ A n c, e = .returned (.slice A n c) ∧ Ans w (encE x) A n c w' :=
  (oput_any none 0 0 [] x w (Lies.none_ _ _ _ _) hk (by omega)).mono fun e w' ⟨v, he, ho, hb⟩ => by
    obtain ⟨A, n, c, rfl, h⟩ := ans_of (l := encE x) (by simpa using ho) hb
    exact ⟨A, n, c, he, h⟩

theorem concat2 (A0 A1 : Option Addr) (n0 n1 c0 c1 : Nat) (l0 l1 : List UInt8) (w : World)
    (h0 : Lies w w.heap.size 1 A0 n0 (l0.map bv)) (h1 : Lies w w.heap.size 1 A1 n1 (l1.map bv)) (hs : l0.length + l1.length ≤ 1099511627776) :
    Calls Try.prog 47 #[.slice (some ⟨w.heap.size, 0, none⟩) 2 2] (w.alloc (.cells #[.slice A0 n0 c0, .slice A1 n1 c1] 25)) fun e w' =>
      ∃ v, e = .returned v ∧ w'.ownsRow w.heap.size 5 1 v (l0 ++ l1).length ((l0 ++ l1).map bv) ∧ Below w.heap.size w w' := by
  have hc : cat [⟨A0, n0, c0, l0⟩, ⟨A1, n1, c1, l1⟩] = l0 ++ l1 := by simp [cat]
  have hb : Below w.heap.size w (w.alloc (.cells #[.slice A0 n0 c0, .slice A1 n1 c1] 25)) := (Below.refl _ _).alloc (Nat.le_refl _) _
  have hz : (w.alloc (.cells #[.slice A0 n0 c0, .slice A1 n1 c1] 25)).heap.size = w.heap.size + 1 := by simp
  have hl := lits_lie (w := w) rfl (([⟨A0, n0, c0, l0⟩, ⟨A1, n1, c1, l1⟩] : List Rcd).map Rcd.v) 25
  have h := concat_any (some ⟨w.heap.size, 0, none⟩) 2 2 [⟨A0, n0, c0, l0⟩, ⟨A1, n1, c1, l1⟩] (w.alloc (.cells #[.slice A0 n0 c0, .slice A1 n1 c1] 25))
    (by rw [hz]; exact hl)
    (by
      intro r hr
      simp only [List.mem_cons, List.not_mem_nil, or_false] at hr
      rcases hr with rfl | rfl
      · exact (h0.below hb).more hb.size
      · exact (h1.below hb).more hb.size)
    (by rw [hc]; simp only [List.length_append]; omega) (by omega)
  rw [hc] at h
  refine h.mono fun e w' ⟨v, he, ho, hb2⟩ => ⟨v, he, own_base ho hb.size, hb.trans (hb2.mono hb.size)⟩

/-- a key cut, as the model has it -/
theorem run_cutK (k : ByteArray) (n : Nat) (hn : n ≤ k.size) (w : World) : (Instr.slice 9 (.string k) (some (.int .i64 (n : Int))) none none).run Try.prog w = .ok (.string (cutK k n)) w := by
  unfold Instr.slice cutK
  simp [run_underlying Try.underlying9, Instr.sliceBounds, Instr.sliceBound, asIntOf, hn]

/-- two answers that lie -/
def All2 (w0 w2 : World) (A1 A2 : Option Addr) (n1 n2 : Nat) (l1 l2 : List UInt8) : Prop :=
  Below w0.heap.size w0 w2 ∧ Lies w2 w2.heap.size 1 A1 n1 (l1.map bv) ∧ Lies w2 w2.heap.size 1 A2 n2 (l2.map bv)
theorem all12 {wa wb wc : World} {l1 l2 : List UInt8} {A1 A2 : Option Addr} {n1 c1 n2 c2 : Nat} (h1 : Ans wa l1 A1 n1 c1 wb) (h2 : Ans wb l2 A2 n2 c2 wc) : All2 wa wc A1 A2 n1 n2 l1 l2 :=
  ⟨ans2 h1 h2, (h1.2.1.below h2.2.2).more h2.2.2.size, h2.2.1⟩
def Cat2P (w w2 : World) (L : List UInt8) (v : Value) (w' : World) : Prop := w'.ownsRow w.heap.size 5 1 v L.length (L.map bv) ∧ Below w.heap.size w w' ∧ Below w2.heap.size w2 w'
theorem cat2_put {A1 A2 : Option Addr} {n1 n2 c1 c2 : Nat} {l1 l2 : List UInt8} {w w0 w2 : World} (hb : Below w.heap.size w w0) (h : All2 w0 w2 A1 A2 n1 n2 l1 l2)
    (hs : l1.length + l2.length ≤ 1099511627776) :
    Calls Try.prog 47 #[.slice (some ⟨w2.heap.size, 0, none⟩) 2 2] (w2.alloc (.cells #[.slice A1 n1 c1, .slice A2 n2 c2] 25)) fun e w' => ∃ v, e = .returned v ∧ Cat2P w w2 (l1 ++ l2) v w' := by
  obtain ⟨hb3, h1, h2⟩ := h
  have hbw := hb.trans (hb3.mono hb.size)
  exact (concat2 A1 A2 n1 n2 c1 c2 l1 l2 w2 h1 h2 hs).mono fun e w' ⟨v, he, ho, hb4⟩ => ⟨v, he, own_base ho hbw.size, hbw.trans (hb4.mono hbw.size), hb4⟩
theorem cat2_on {w w0 w3 w4 : World} {L : List UInt8} {v : Value} {A1 A2 : Option Addr} {n1 n2 : Nat} {l1 l2 : List UInt8} (h : All2 w0 w3 A1 A2 n1 n2 l1 l2) (h4 : Cat2P w w3 L v w4) : Below w0.heap.size w0 w4 := h.1.trans (h4.2.2.mono h.1.size)
theorem cat2_al {w0 w3 : World} {A1 A2 : Option Addr} {n1 n2 : Nat} {l1 l2 : List UInt8} (h : All2 w0 w3 A1 A2 n1 n2 l1 l2) (o : Obj) : Below w0.heap.size w0 (w3.alloc o) := h.1.alloc h.1.size o

set_option maxHeartbeats 4000000 in
theorem row_any (x : En) (p : ByteArray) (w : World) (hk : x.m.k.size ≤ 32) (hx : x.x.size ≤ 256) (hp : p.size ≤ 32) (hs : x.m.s < 18446744073709551616) :
    Calls Try.prog 59 #[x.v, .string p] w fun e w' => PutAns w (rowE p x) e w' := by
  obtain ⟨b0, b1, b2, b3, hB, hz⟩ := enW_facts w x
  have hcl := cpK_le x.m.k p
  obtain ⟨n, hn⟩ : ∃ n, cpK x.m.k p = n := ⟨_, rfl⟩
  obtain ⟨k', hk'⟩ : ∃ k', cutK x.m.k n = k' := ⟨_, rfl⟩
  have HW : Hid (w.alloc (.cells #[.string x.m.k, .int .u64 (x.m.s : Int), .bool x.m.g, .string x.x] 40) = enW w x) := rfl
  have HX0 : Hid ((enW w x).heap[w.heap.size]? = some (.cells #[.string x.m.k, .int .u64 (x.m.s : Int), .bool x.m.g, .string x.x] 40 (0, 0))) := heap_alloc_new w _
  obtain ⟨W1, hW1⟩ : ∃ W1, enW w x = W1 := ⟨_, rfl⟩
  rw [hW1] at b0 b1 b2 b3 hB hz HW HX0
  have hkz := cutK_size x.m.k n
  rw [hk'] at hkz
  have HR : Hid (rowE p x = Vi.enc n ++ encE ⟨⟨k', x.m.s, x.m.g⟩, x.x⟩) := by
    unfold Hid rowE restE; rw [hn, hk']
  rw [HR.out]
  have HC := Lib.hid (common_any x.m.k p W1 (by omega) (by omega))
  rw [hn] at HC hcl
  have HSl := run_cutK x.m.k n hcl.1
  rw [hk'] at HSl
  have P1 : Hid (∀ W, Calls Try.prog 9 #[.slice none 0 0, .int .u64 (n : Int)] W fun e w' => ∃ A m c, e = .returned (.slice A m c) ∧ Ans W (Vi.enc n) A m c w') := fun W => put_ans n W (by omega)
  have P2 : Hid (∀ W, Calls Try.prog 84 #[.slice none 0 0, .agg #[.string k', .int .u64 (x.m.s : Int), .bool x.m.g, .string x.x]] W fun e w' => ∃ A m c, e = .returned (.slice A m c) ∧ Ans W (encE ⟨⟨k', x.m.s, x.m.g⟩, x.x⟩) A m c w') := fun W => oput_ans ⟨⟨k', x.m.s, x.m.g⟩, x.x⟩ W hs (by show k'.size + x.x.size ≤ _; omega)
  have HLEN : Hid ((Vi.enc n).length + (encE ⟨⟨k', x.m.s, x.m.g⟩, x.x⟩).length ≤ 1099511627776) := by
    have := Vi.enc_len n; have := encE_len ⟨⟨k', x.m.s, x.m.g⟩, x.x⟩
    unfold Hid; simp only at this; omega
  have hun : IntKind.u64.wrap (n : Int) = (n : Int) := by rw [IntKind.wrap_u64]; omega
  have hn0 : (n : Int) ≤ 32 := by omega
  have HB := Lib.hid hB; have HZ := Lib.hid hz
  clear HR hn hk' hB hW1 hkz hk hx hp hs hcl hz b1 b2 b3
  unfold En.v
  go_enter Try.func59, Try.ntmps59
  go_wp2_with fail
  rw [HW.out]
  clear HW
  refine HC.out.mono ?_
  rintro e w1 ⟨rfl, hb1⟩
  have hx1 : w1.heap[w.heap.size]? = some (.cells #[.string x.m.k, .int .u64 (x.m.s : Int), .bool x.m.g, .string x.x] 40 (0, 0)) := (hb1.block _ (by rw [HZ.out]; exact Nat.lt_succ_self _)).trans HX0.out
  have c0 : w1.cell? ⟨w.heap.size, 0, none⟩ = some (.string x.m.k) := cell_of_row _ _ 0 _ _ (0, 0) hx1
  have f0 : w1.frozen? ⟨w.heap.size, 0, none⟩ = false := by simp [World.frozen?, hx1]
  have hx2 : (w1.setCell ⟨w.heap.size, 0, none⟩ (.string k')).heap[w.heap.size]? = some (.cells #[.string k', .int .u64 (x.m.s : Int), .bool x.m.g, .string x.x] 40 (0, 0)) := by
    simp [World.setCell, Array.getElem?_modify, hx1]
  obtain ⟨W2, hW2⟩ : ∃ W2, w1.setCell ⟨w.heap.size, 0, none⟩ (.string k') = W2 := ⟨_, rfl⟩
  have hbw : Below w.heap.size w w1 := HB.out.trans (hb1.mono HB.out.size)
  have hbw2 : Below w.heap.size w W2 := by rw [← hW2]; exact hbw.setCell (p := ⟨w.heap.size, 0, none⟩) (Nat.le_refl _) _
  rw [hW2] at hx2
  have hg2 : w.heap.size < W2.drew.heap.size := (Array.getElem?_eq_some_iff.1 hx2).1
  have HE : Hid (EnAt W2.drew w.heap.size ⟨⟨k', x.m.s, x.m.g⟩, x.x⟩) := hx2
  have HB0 : Hid (Below w.heap.size w W2.drew) := hbw2.drew
  have KE : Hid (∀ W', Below W2.drew.heap.size W2.drew W' → W'.cell? ⟨w.heap.size, 0, none⟩ = some (.string k') ∧ W'.cell? ⟨w.heap.size, 1, none⟩ = some (.int .u64 (x.m.s : Int)) ∧ W'.cell? ⟨w.heap.size, 2, none⟩ = some (.bool x.m.g) ∧ W'.cell? ⟨w.heap.size, 3, none⟩ = some (.string x.x)) :=
    fun W' hb => (HE.out.below hb hg2).cell
  have HW2 : Hid (w1.setCell ⟨w.heap.size, 0, none⟩ (.string k') = W2) := hW2
  clear hx1 hx2 hW2 hbw hbw2 hg2 HE hb1 HX0 b0
  go_wp2_with fail
  rw [HW2.out]
  clear HW2 c0 f0
  go_region_held3 (fun w' => w'.cell? ⟨w.heap.size, 0, none⟩ = some (.string k') ∧ w'.cell? ⟨w.heap.size, 1, none⟩ = some (.int .u64 (x.m.s : Int)) ∧ w'.cell? ⟨w.heap.size, 2, none⟩ = some (.bool x.m.g) ∧ w'.cell? ⟨w.heap.size, 3, none⟩ = some (.string x.x))
    (first
      | exact KE.out _ (Below.refl _ _)
      | exact KE.out _ hf1.2.2 | exact KE.out _ (all12 hf1 hf2).1 | exact KE.out _ (cat2_al (all12 hf1 hf2) _) | exact KE.out _ (cat2_on (all12 hf1 hf2) hf4)
      | fail)
    (first
    | (go_at_call 9; refine (P1.out _).mono ?_; rintro e w1 ⟨A1, n1, c1, rfl, hf1⟩)
    | (go_at_call 84; refine (P2.out _).mono ?_; rintro e w2 ⟨A2, n2, c2, rfl, hf2⟩)
    | (go_at_call 47; refine (cat2_put HB0.out (all12 hf1 hf2) HLEN.out).mono ?_; rintro e w4 ⟨v4, rfl, hf4⟩)
    | fail)
  go_wp2
  go_ret
  exact ⟨_, rfl, hf4.1, hf4.2.1⟩
end Go.Proofs.Ytghfhojpnbpjoaa

namespace Go.Proofs.Ytghfhojpnbpjoaa
open Go.RowKit
set_option linter.unusedVariables false
set_option maxRecDepth 100000

/-- a number as a value -/
abbrev iv (n : Nat) : Value := .int .i64 (n : Int)
theorem iv_one (l : List Nat) : ∀ u ∈ l.map iv, u.oneCell' = true := by
  intro u hu
  obtain ⟨c, _, rfl⟩ := List.mem_map.1 hu
  rfl
theorem int_info : (Try.prog.info? 3).map (fun i => (i.zero, i.size, i.bytes)) = some (some (.int .i64 0), 1, 8) := by kernel_rfl
/-- a row of other elements is not the one that grows -/
theorem own_other {w w' : World} {base1 base2 e1 e2 k1 k2 n1 n2 : Nat} {v1 v2 : Value} {xs1 xs2 : List Value} (h1 : w.ownsRow base1 e1 k1 v1 n1 xs1) (h2 : w.ownsRow base2 e2 k2 v2 n2 xs2) (hne : e1 ≠ e2)
    (hg : w.grownBy w' v1.ownBlock) : w'.ownsRow base2 e2 k2 v2 n2 xs2 := by
  refine ⟨h2.1, ?_⟩
  rcases h2.2 with h | ⟨g, cap, cur, hv, hb, hh, r⟩
  · exact .inl h
  · refine .inr ⟨g, cap, cur, hv, hb, (hg.block g (Array.getElem?_eq_some_iff.1 hh).1 ?_).trans hh, r⟩
    rcases h1.2 with ⟨rfl, _⟩ | ⟨g', cap', cur', rfl, _, hh', _⟩
    · simp [Value.ownBlock]
    · intro he
      have : g = g' := by simpa [Value.ownBlock] using he
      subst this
      rw [hh] at hh'
      injection hh' with hh'
      injection hh' with _ hh'
      exact hne hh'.symm
theorem EL.keep {w w' : World} {B n c : Nat} {A : Option Addr} {S : List En} (h : EL w B A n c S) (hc : ∀ p : Addr, p.block < B → w'.cell? p = w.cell? p) (hz : w.heap.size ≤ w'.heap.size) : EL w' B A n c S :=
  ⟨h.lies.keep hc, Nat.le_trans h.B hz, h.nc, h.cc, h.sz⟩

/-- what holds behind k entries: the bytes, the places, the last key -/
structure EncR (w0 : World) (B : Nat) (A : Option Addr) (n c : Nat) (S : List En) (k : Nat) (W : World) : Prop where
  base : Below w0.heap.size w0 W
  hB : B ≤ w0.heap.size
  el : EL W B A n c S
  b : ∃ v, Box W w0.heap.size 25 v ∧ W.ownsRow w0.heap.size 5 1 v (body (S.take k)).length ((body (S.take k)).map bv)
  o : ∃ v, Box W (w0.heap.size + 1) 107 v ∧ W.ownsRow w0.heap.size 3 1 v (places (S.take k)).length ((places (S.take k)).map iv)
  p : SBox W (w0.heap.size + 2) (lastK ByteArray.empty (S.take k))
theorem EncR.up {w0 W W' : World} {B n c k : Nat} {A : Option Addr} {S : List En} (h : EncR w0 B A n c S k W) (hb : Below W.heap.size W W') : EncR w0 B A n c S k W' := by
  obtain ⟨vb, hb1, hb2⟩ := h.b
  obtain ⟨vo, ho1, ho2⟩ := h.o
  exact ⟨h.base.trans (hb.mono h.base.size), h.hB, h.el.below hb, ⟨vb, hb1.below hb hb1.lt, own_below hb2 hb⟩, ⟨vo, ho1.below hb ho1.lt, own_below ho2 hb⟩, h.p.below hb h.p.lt⟩

/-- the middle: the place is told, if it is a fourth one -/
structure EncM (w0 : World) (B : Nat) (A : Option Addr) (n c : Nat) (S : List En) (k : Nat) (W : World) : Prop where
  base : Below w0.heap.size w0 W
  hB : B ≤ w0.heap.size
  el : EL W B A n c S
  b : ∃ v, Box W w0.heap.size 25 v ∧ W.ownsRow w0.heap.size 5 1 v (body (S.take k)).length ((body (S.take k)).map bv)
  o : ∃ v, Box W (w0.heap.size + 1) 107 v ∧ W.ownsRow w0.heap.size 3 1 v (places (S.take (k + 1))).length ((places (S.take (k + 1))).map iv)
  p : SBox W (w0.heap.size + 2) (preK k (lastK ByteArray.empty (S.take k)))
theorem EncM.up {w0 W W' : World} {B n c k : Nat} {A : Option Addr} {S : List En} (h : EncM w0 B A n c S k W) (hb : Below W.heap.size W W') : EncM w0 B A n c S k W' := by
  obtain ⟨vb, hb1, hb2⟩ := h.b
  obtain ⟨vo, ho1, ho2⟩ := h.o
  exact ⟨h.base.trans (hb.mono h.base.size), h.hB, h.el.below hb, ⟨vb, hb1.below hb hb1.lt, own_below hb2 hb⟩, ⟨vo, ho1.below hb ho1.lt, own_below ho2 hb⟩, h.p.below hb h.p.lt⟩
theorem take_snocE {S : List En} {k : Nat} {x : En} (hx : S[k]? = some x) : S.take (k + 1) = S.take k ++ [x] := by rw [List.take_add_one, hx]; rfl
theorem body_snoc {S : List En} {k : Nat} {x : En} (hx : S[k]? = some x) : body (S.take (k + 1)) = body (S.take k) ++ rowE (preK k (lastK ByteArray.empty (S.take k))) x := by
  have hk := (List.getElem?_eq_some_iff.1 hx).1
  unfold body
  rw [take_snocE hx, bodyG_app, bodyG, bodyG, List.append_nil, List.length_take, Nat.zero_add, Nat.min_eq_left (by omega)]
theorem places_snoc {S : List En} {k : Nat} {x : En} (hx : S[k]? = some x) : places (S.take (k + 1)) = places (S.take k) ++ if k % 4 = 0 then [(body (S.take k)).length] else [] := by
  have hk := (List.getElem?_eq_some_iff.1 hx).1
  unfold places body
  rw [take_snocE hx, offG_app, offG, offG, List.append_nil, List.length_take, Nat.zero_add, Nat.zero_add, Nat.min_eq_left (by omega)]
theorem last_snoc {S : List En} {k : Nat} {x : En} (hx : S[k]? = some x) : lastK ByteArray.empty (S.take (k + 1)) = x.m.k := by rw [take_snocE hx, lastK_snoc]
theorem EncR.mid {w0 W : World} {B n c k : Nat} {A : Option Addr} {S : List En} {x : En} (hx : S[k]? = some x) (h : EncR w0 B A n c S k W) (h4 : k % 4 ≠ 0) : EncM w0 B A n c S k W := by
  refine ⟨h.base, h.hB, h.el, h.b, ?_, ?_⟩
  · rw [places_snoc hx, if_neg h4, List.append_nil]; exact h.o
  · unfold preK; rw [if_neg h4]; exact h.p
/-- a place more -/
theorem EncR.place {w0 W W2 : World} {B n c k : Nat} {A : Option Addr} {S : List En} {x : En} {v v2 : Value} {o : Obj} (hx : S[k]? = some x) (h : EncR w0 B A n c S k W) (h4 : k % 4 = 0)
    (hbx : Box W (w0.heap.size + 1) 107 v) (hown : W.ownsRow w0.heap.size 3 1 v (places (S.take k)).length ((places (S.take k)).map iv))
    (hg : (W.alloc o).grownBy W2 v.ownBlock) (hown2 : W2.ownsRow w0.heap.size 3 1 v2 ((places (S.take k)).length + 1) ((places (S.take k)).map iv ++ [iv (body (S.take k)).length])) :
    EncM w0 B A n c S k ((W2.setCell ⟨w0.heap.size + 1, 0, none⟩ v2).setCell ⟨w0.heap.size + 2, 0, none⟩ (.string ByteArray.empty)) := by
  have hup : EncR w0 B A n c S k (W.alloc o) := h.up ((Below.refl _ _).alloc (Nat.le_refl _) _)
  have hownA := hown.alloc (w := W) o
  have hbxA : Box (W.alloc o) (w0.heap.size + 1) 107 v := hbx.alloc o
  obtain ⟨vb, hb1, hb2⟩ := hup.b
  have g1 : Box W2 (w0.heap.size + 1) 107 v := hbxA.grown hg (hbxA.not_own hownA (by decide))
  have g2 : SBox W2 (w0.heap.size + 2) _ := hup.p.grown hg (hup.p.not_own hownA (by decide))
  have g3 : Box W2 w0.heap.size 25 vb := hb1.grown hg (hb1.not_own hownA (by decide))
  have g4 := own_other hownA hb2 (by decide) hg
  have hbw : Below w0.heap.size w0 W2 := hup.base.grown hg hup.base.size (fun j hj => (hownA.lt j hj).1)
  have hbw2 : Below w0.heap.size w0 ((W2.setCell ⟨w0.heap.size + 1, 0, none⟩ v2).setCell ⟨w0.heap.size + 2, 0, none⟩ (.string ByteArray.empty)) :=
    (hbw.setCell (p := ⟨w0.heap.size + 1, 0, none⟩) (by show w0.heap.size ≤ w0.heap.size + 1; omega) _).setCell (p := ⟨w0.heap.size + 2, 0, none⟩) (by show w0.heap.size ≤ w0.heap.size + 2; omega) _
  refine ⟨hbw2, h.hB, ?_, ⟨vb, ?_, ?_⟩, ⟨v2, ?_, ?_⟩, ?_⟩
  · refine h.el.keep (fun p hp => ?_) ?_
    · rw [hbw2.cell (Nat.lt_of_lt_of_le hp h.hB), h.base.cell (Nat.lt_of_lt_of_le hp h.hB)]
    · have := hg.size; simp [World.setCell] at this ⊢; omega
  · exact (g3.far (by show w0.heap.size ≠ w0.heap.size + 1; omega) _).far (by show w0.heap.size ≠ w0.heap.size + 2; omega) _
  · exact own_setBox (own_setBox g4 g1 (by decide) _) (g2.far (by show w0.heap.size + 2 ≠ w0.heap.size + 1; omega) _) (by decide) _
  · exact (g1.set v2).far (by show w0.heap.size + 1 ≠ w0.heap.size + 2; omega) _
  · rw [places_snoc hx, if_pos h4, List.length_append, List.map_append]
    exact own_setBox (own_setBox hown2 g1 (by decide) _) (g2.far (by show w0.heap.size + 2 ≠ w0.heap.size + 1; omega) _) (by decide) _
  · have : preK k (lastK ByteArray.empty (S.take k)) = ByteArray.empty := by unfold preK; rw [if_pos h4]
    rw [this]
    exact (g2.far (by show w0.heap.size + 2 ≠ w0.heap.size + 1; omega) _).set _
/-- a row more -/
theorem EncM.row {w0 W W2 : World} {B n c k : Nat} {A : Option Addr} {S : List En} {x : En} {v v2 : Value} {l : List UInt8} (hx : S[k]? = some x) (h : EncM w0 B A n c S k W)
    (hl : l = rowE (preK k (lastK ByteArray.empty (S.take k))) x)
    (hbx : Box W w0.heap.size 25 v) (hown : W.ownsRow w0.heap.size 5 1 v (body (S.take k)).length ((body (S.take k)).map bv))
    (hg : W.grownBy W2 v.ownBlock) (hown2 : W2.ownsRow w0.heap.size 5 1 v2 ((body (S.take k)).length + l.length) ((body (S.take k)).map bv ++ l.map bv)) :
    EncR w0 B A n c S (k + 1) ((W2.setCell ⟨w0.heap.size, 0, none⟩ v2).setCell ⟨w0.heap.size + 2, 0, none⟩ (.string x.m.k)) := by
  obtain ⟨vo, ho1, ho2⟩ := h.o
  have g1 : Box W2 w0.heap.size 25 v := hbx.grown hg (hbx.not_own hown (by decide))
  have g2 : SBox W2 (w0.heap.size + 2) _ := h.p.grown hg (h.p.not_own hown (by decide))
  have g3 : Box W2 (w0.heap.size + 1) 107 vo := ho1.grown hg (ho1.not_own hown (by decide))
  have g4 := own_other hown ho2 (by decide) hg
  have hbw : Below w0.heap.size w0 W2 := h.base.grown hg h.base.size (fun j hj => (hown.lt j hj).1)
  have hbw2 : Below w0.heap.size w0 ((W2.setCell ⟨w0.heap.size, 0, none⟩ v2).setCell ⟨w0.heap.size + 2, 0, none⟩ (.string x.m.k)) :=
    (hbw.setCell (p := ⟨w0.heap.size, 0, none⟩) (Nat.le_refl _) _).setCell (p := ⟨w0.heap.size + 2, 0, none⟩) (by show w0.heap.size ≤ w0.heap.size + 2; omega) _
  refine ⟨hbw2, h.hB, ?_, ⟨v2, ?_, ?_⟩, ⟨vo, ?_, ?_⟩, ?_⟩
  · refine h.el.keep (fun p hp => ?_) ?_
    · rw [hbw2.cell (Nat.lt_of_lt_of_le hp h.hB), h.base.cell (Nat.lt_of_lt_of_le hp h.hB)]
    · have := hg.size; simp [World.setCell] at this ⊢; omega
  · exact (g1.set v2).far (by show w0.heap.size ≠ w0.heap.size + 2; omega) _
  · rw [body_snoc hx, ← hl, List.length_append, List.map_append]
    exact own_setBox (own_setBox hown2 g1 (by decide) _) (g2.far (by show w0.heap.size + 2 ≠ w0.heap.size; omega) _) (by decide) _
  · exact (g3.far (by show w0.heap.size + 1 ≠ w0.heap.size; omega) _).far (by show w0.heap.size + 1 ≠ w0.heap.size + 2; omega) _
  · exact own_setBox (own_setBox g4 g1 (by decide) _) (g2.far (by show w0.heap.size + 2 ≠ w0.heap.size; omega) _) (by decide) _
  · rw [last_snoc hx]
    exact (g2.far (by show w0.heap.size + 2 ≠ w0.heap.size; omega) _).set _
end Go.Proofs.Ytghfhojpnbpjoaa

