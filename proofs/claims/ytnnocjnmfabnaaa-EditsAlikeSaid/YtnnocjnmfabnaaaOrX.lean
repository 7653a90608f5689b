/-
  Contracts of package order: state, Put.
  Contracts of package order: Put.
-/
import Derived.Test.YtnnocjnmfabnaaaRcC
import Derived.Test.YtnnocjnmfabnaaaPlTx
import Derived.Test.YtnnocjnmfabnaaaInA
import Derived.Deep.RegionWith
import Derived.Deep.RegionHeld3
namespace Go.Proofs.Ytnnocjnmfabnaaa
open Go.RowKit
set_option linter.unusedVariables false
set_option maxRecDepth 100000

/-- what stands behind an entry's number -/
def tailE (x : En) : List UInt8 := if x.m.g then [1] else 0 :: (Vi.enc x.x.size ++ x.x.data.toList)
/-- the bytes of an entry -/
def encE (x : En) : List UInt8 := (Vi.enc x.m.k.size ++ x.m.k.data.toList) ++ (Vi.enc x.m.s ++ tailE x)
theorem txt_len (s : ByteArray) : s.data.toList.length = s.size := Array.length_toList
theorem tailE_len (x : En) : 1 ≤ (tailE x).length ∧ (tailE x).length ≤ 11 + x.x.size := by
  have := Vi.enc_len x.x.size
  have e := txt_len x.x
  unfold tailE
  split
  · simp; omega
  · rw [List.length_cons, List.length_append, e]; omega
theorem encE_len (x : En) : 3 ≤ (encE x).length ∧ (encE x).length ≤ 31 + x.m.k.size + x.x.size := by
  have h1 := Vi.enc_len x.m.k.size
  have h2 := Vi.enc_len x.m.s
  have h3 := tailE_len x
  have h4 := Vi.enc_pos x.m.k.size
  have h5 := Vi.enc_pos x.m.s
  unfold encE
  rw [List.length_append, List.length_append, List.length_append, txt_len]
  omega

/-- bytes that a literal lays are the call's own -/
theorem own_lit (w : World) (l : List UInt8) (g n base : Nat) (hg : w.heap.size = g) (hn : l.length = n) (hl : n ≤ 1000) (hb : base ≤ g) : (w.alloc (.cells (l.map bv).toArray 5)).ownsRow base 5 1 (.slice (some ⟨g, 0, none⟩) n n) n (l.map bv) := by
  subst hg hn
  refine ⟨by simp, .inr ⟨w.heap.size, l.length, _, rfl, hb, heap_alloc_new w _, Nat.le_refl _, by unfold maxLen; omega, by simp, ?_⟩⟩
  rw [List.take_of_length_le (by simp)]

/-- what was answered: n bytes that lie, in new memory -/
def Ans (w : World) (l : List UInt8) (A : Option Addr) (n c : Nat) (w' : World) : Prop := n = l.length ∧ Lies w' w'.heap.size 1 A n (l.map bv) ∧ Below w.heap.size w w'
theorem ans_of {w w' : World} {v : Value} {l : List UInt8} {base : Nat} (h : w'.ownsRow base 5 1 v l.length (l.map bv)) (hb : Below w.heap.size w w') : ∃ A n c, v = .slice A n c ∧ Ans w l A n c w' := by
  obtain ⟨A, c, rfl, _⟩ := own_shape h
  exact ⟨A, _, c, rfl, rfl, Lies.of_own h, hb⟩
theorem ans2 {wa wb wc : World} {l1 l2 : List UInt8} {A1 A2 : Option Addr} {n1 c1 n2 c2 : Nat} (h1 : Ans wa l1 A1 n1 c1 wb) (h2 : Ans wb l2 A2 n2 c2 wc) : Below wa.heap.size wa wc := h1.2.2.trans (h2.2.2.mono h1.2.2.size)
theorem ans3 {wa wb wc wd : World} {l1 l2 l3 : List UInt8} {A1 A2 A3 : Option Addr} {n1 c1 n2 c2 n3 c3 : Nat} (h1 : Ans wa l1 A1 n1 c1 wb) (h2 : Ans wb l2 A2 n2 c2 wc) (h3 : Ans wc l3 A3 n3 c3 wd) :
    Below wa.heap.size wa wd ∧ Lies wd wd.heap.size 1 A1 n1 (l1.map bv) ∧ Lies wd wd.heap.size 1 A2 n2 (l2.map bv) ∧ Lies wd wd.heap.size 1 A3 n3 (l3.map bv) :=
  ⟨(ans2 h1 h2).trans (h3.2.2.mono (ans2 h1 h2).size), (h1.2.1.below (ans2 h2 h3)).more (ans2 h2 h3).size, (h2.2.1.below h3.2.2).more h3.2.2.size, h3.2.1⟩

theorem put_ans (k : Nat) (w : World) (hk : k < 18446744073709551616) :
    Calls Try.prog 40 #[.slice none 0 0, .int .u64 (k : Int)] w fun e w' => ∃ A n c, e = .returned (.slice A n c) ∧ Ans w (Vi.enc k) A n c w' :=
  (put_any none 0 0 k [] w (Lies.none_ _ _ _ _) hk (by omega)).mono fun e w' ⟨v, he, ho, hb⟩ => by
    obtain ⟨A, n, c, rfl, h⟩ := ans_of (l := Vi.enc k) (by simpa using ho) hb
    exact ⟨A, n, c, he, h⟩
theorem putText_ans (s : ByteArray) (w : World) (hs : s.size ≤ 549755813888) :
    Calls Try.prog 42 #[.slice none 0 0, .string s] w fun e w' => ∃ A n c, e = .returned (.slice A n c) ∧ Ans w (Vi.enc s.size ++ s.data.toList) A n c w' :=
  (putText_any none 0 0 s [] w (Lies.none_ _ _ _ _) (by omega)).mono fun e w' ⟨v, he, ho, hb⟩ => by
    obtain ⟨A, n, c, rfl, h⟩ := ans_of (l := Vi.enc s.size ++ s.data.toList) (by simpa [txt_len] using ho) hb
    exact ⟨A, n, c, he, h⟩
end Go.Proofs.Ytnnocjnmfabnaaa

namespace Go.Proofs.Ytnnocjnmfabnaaa
open Go.RowKit
set_option linter.unusedVariables false

theorem concat4 (A0 A1 A2 A3 : Option Addr) (n0 n1 n2 n3 c0 c1 c2 c3 : Nat) (l0 l1 l2 l3 : List UInt8) (w : World)
    (h0 : Lies w w.heap.size 1 A0 n0 (l0.map bv)) (h1 : Lies w w.heap.size 1 A1 n1 (l1.map bv)) (h2 : Lies w w.heap.size 1 A2 n2 (l2.map bv)) (h3 : Lies w w.heap.size 1 A3 n3 (l3.map bv))
    (hs : l0.length + l1.length + l2.length + l3.length ≤ 1099511627776) :
    Calls Try.prog 41 #[.slice (some ⟨w.heap.size, 0, none⟩) 4 4] (w.alloc (.cells #[.slice A0 n0 c0, .slice A1 n1 c1, .slice A2 n2 c2, .slice A3 n3 c3] 39)) fun e w' =>
      ∃ v, e = .returned v ∧ w'.ownsRow w.heap.size 5 1 v (l0 ++ (l1 ++ (l2 ++ l3))).length ((l0 ++ (l1 ++ (l2 ++ l3))).map bv) ∧ Below w.heap.size w w' := by
  have hc : cat [⟨A0, n0, c0, l0⟩, ⟨A1, n1, c1, l1⟩, ⟨A2, n2, c2, l2⟩, ⟨A3, n3, c3, l3⟩] = l0 ++ (l1 ++ (l2 ++ l3)) := by simp [cat]
  have hb : Below w.heap.size w (w.alloc (.cells #[.slice A0 n0 c0, .slice A1 n1 c1, .slice A2 n2 c2, .slice A3 n3 c3] 39)) := (Below.refl _ _).alloc (Nat.le_refl _) _
  have hz : (w.alloc (.cells #[.slice A0 n0 c0, .slice A1 n1 c1, .slice A2 n2 c2, .slice A3 n3 c3] 39)).heap.size = w.heap.size + 1 := by simp
  have hl := lits_lie (w := w) rfl (([⟨A0, n0, c0, l0⟩, ⟨A1, n1, c1, l1⟩, ⟨A2, n2, c2, l2⟩, ⟨A3, n3, c3, l3⟩] : List Rcd).map Rcd.v) 39
  have h := concat_any (some ⟨w.heap.size, 0, none⟩) 4 4 [⟨A0, n0, c0, l0⟩, ⟨A1, n1, c1, l1⟩, ⟨A2, n2, c2, l2⟩, ⟨A3, n3, c3, l3⟩] (w.alloc (.cells #[.slice A0 n0 c0, .slice A1 n1 c1, .slice A2 n2 c2, .slice A3 n3 c3] 39))
    (by rw [hz]; exact hl)
    (by
      intro r hr
      simp only [List.mem_cons, List.not_mem_nil, or_false] at hr
      rcases hr with rfl | rfl | rfl | rfl
      · exact (h0.below hb).more hb.size
      · exact (h1.below hb).more hb.size
      · exact (h2.below hb).more hb.size
      · exact (h3.below hb).more hb.size)
    (by rw [hc]; simp only [List.length_append]; omega) (by omega)
  rw [hc] at h
  refine h.mono fun e w' ⟨v, he, ho, hb2⟩ => ⟨v, he, own_base ho hb.size, hb.trans (hb2.mono hb.size)⟩

/-- three answers that lie, the others as they were -/
def All3 (w0 w3 : World) (A1 A2 A3 : Option Addr) (n1 n2 n3 : Nat) (l1 l2 l3 : List UInt8) : Prop :=
  Below w0.heap.size w0 w3 ∧ Lies w3 w3.heap.size 1 A1 n1 (l1.map bv) ∧ Lies w3 w3.heap.size 1 A2 n2 (l2.map bv) ∧ Lies w3 w3.heap.size 1 A3 n3 (l3.map bv)
section
variable {wa wb wc wd : World} {l1 l2 l3 : List UInt8} {A1 A2 A3 : Option Addr} {n1 c1 n2 c2 n3 c3 : Nat}
theorem all123 (h1 : Ans wa l1 A1 n1 c1 wb) (h2 : Ans wb l2 A2 n2 c2 wc) (h3 : Ans wc l3 A3 n3 c3 wd) : All3 wa wd A1 A2 A3 n1 n2 n3 l1 l2 l3 := ans3 h1 h2 h3
end
/-- what Concat answered at the end of Put -/
def CatP (w w3 : World) (L : List UInt8) (v : Value) (w' : World) : Prop := w'.ownsRow w.heap.size 5 1 v L.length (L.map bv) ∧ Below w.heap.size w w' ∧ Below w3.heap.size w3 w'
theorem cat_put {A A1 A2 A3 : Option Addr} {n n1 n2 n3 c c1 c2 c3 : Nat} {l l1 l2 l3 : List UInt8} {w w0 w3 : World} (hl : Lies w w.heap.size 1 A n (l.map bv)) (hb : Below w.heap.size w w0) (h : All3 w0 w3 A1 A2 A3 n1 n2 n3 l1 l2 l3)
    (hs : l.length + l1.length + l2.length + l3.length ≤ 1099511627776) :
    Calls Try.prog 41 #[.slice (some ⟨w3.heap.size, 0, none⟩) 4 4] (w3.alloc (.cells #[.slice A n c, .slice A1 n1 c1, .slice A2 n2 c2, .slice A3 n3 c3] 39)) fun e w' => ∃ v, e = .returned v ∧ CatP w w3 (l ++ (l1 ++ (l2 ++ l3))) v w' := by
  obtain ⟨hb3, h1, h2, h3⟩ := h
  have hbw := hb.trans (hb3.mono hb.size)
  exact (concat4 A A1 A2 A3 n n1 n2 n3 c c1 c2 c3 l l1 l2 l3 w3 ((hl.below hbw).more hbw.size) h1 h2 h3 hs).mono fun e w' ⟨v, he, ho, hb4⟩ => ⟨v, he, own_base ho hbw.size, hbw.trans (hb4.mono hbw.size), hb4⟩
theorem cat_on {w w0 w3 w4 : World} {L : List UInt8} {v : Value} {A1 A2 A3 : Option Addr} {n1 n2 n3 : Nat} {l1 l2 l3 : List UInt8} (h : All3 w0 w3 A1 A2 A3 n1 n2 n3 l1 l2 l3) (h4 : CatP w w3 L v w4) : Below w0.heap.size w0 w4 := h.1.trans (h4.2.2.mono h.1.size)
theorem cat_al {w0 w3 : World} {A1 A2 A3 : Option Addr} {n1 n2 n3 : Nat} {l1 l2 l3 : List UInt8} (h : All3 w0 w3 A1 A2 A3 n1 n2 n3 l1 l2 l3) (o : Obj) : Below w0.heap.size w0 (w3.alloc o) := h.1.alloc h.1.size o

/-- what Put answers -/
def PutAns (w : World) (l : List UInt8) (e : Ending) (w' : World) : Prop := ∃ v, e = .returned v ∧ w'.ownsRow w.heap.size 5 1 v l.length (l.map bv) ∧ Below w.heap.size w w'

end Go.Proofs.Ytnnocjnmfabnaaa

