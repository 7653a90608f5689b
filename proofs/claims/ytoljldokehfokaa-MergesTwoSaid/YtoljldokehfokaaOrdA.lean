/-
  Contracts of package order: state, Put.
-/
import Derived.Test.YtoljldokehfokaaRcC
import Derived.Test.YtoljldokehfokaaPlTx
import Derived.Test.YtoljldokehfokaaInA
import Derived.Deep.RegionWith
import Derived.Deep.RegionHeld3
namespace Go.Proofs.Ytoljldokehfokaa
open Go.RowKit
set_option linter.unusedVariables false
set_option maxRecDepth 100000

/-- what stands behind an entry's number -/
def tailE (x : En) : List UInt8 := if x.m.g then [1] else 0 :: (Vi.enc x.x.size ++ x.x.data.toList)
/-- the bytes of an entry -/
def encE (x : En) : List UInt8 := (Vi.enc x.m.k.size ++ x.m.k.data.toList) ++ (Vi.enc x.m.s ++ tailE x)
theorem txt_len (s : ByteArray) : s.data.toList.length = s.size := Array.length_toList
theorem tailE_len (x : En) : 1 ≤ (tailE x).length ∧ (tailE x).length ≤ 11 + x.x.size := by
  have := Vi.enc_len x.x.size
  have e := txt_len x.x
  unfold tailE
  split
  · simp; omega
  · rw [List.length_cons, List.length_append, e]; omega
theorem encE_len (x : En) : 3 ≤ (encE x).length ∧ (encE x).length ≤ 31 + x.m.k.size + x.x.size := by
  have h1 := Vi.enc_len x.m.k.size
  have h2 := Vi.enc_len x.m.s
  have h3 := tailE_len x
  have h4 := Vi.enc_pos x.m.k.size
  have h5 := Vi.enc_pos x.m.s
  unfold encE
  rw [List.length_append, List.length_append, List.length_append, txt_len]
  omega

/-- an entry that lies in a block of its own -/
def EnAt (w : World) (g : Nat) (x : En) : Prop := w.heap[g]? = some (.cells #[.string x.m.k, .int .u64 (x.m.s : Int), .bool x.m.g, .string x.x] 31 (0, 0))
theorem EnAt.cell {w : World} {g : Nat} {x : En} (h : EnAt w g x) : w.cell? ⟨g, 0, none⟩ = some (.string x.m.k) ∧ w.cell? ⟨g, 1, none⟩ = some (.int .u64 (x.m.s : Int)) ∧ w.cell? ⟨g, 2, none⟩ = some (.bool x.m.g) ∧ w.cell? ⟨g, 3, none⟩ = some (.string x.x) :=
  ⟨cell_of_row w g 0 _ _ (0, 0) h, cell_of_row w g 1 _ _ (0, 0) h, cell_of_row w g 2 _ _ (0, 0) h, cell_of_row w g 3 _ _ (0, 0) h⟩
theorem EnAt.new (w : World) (x : En) : EnAt (w.alloc (.cells #[.string x.m.k, .int .u64 (x.m.s : Int), .bool x.m.g, .string x.x] 31)) w.heap.size x := heap_alloc_new w _
theorem EnAt.below {w w' : World} {g B : Nat} {x : En} (h : EnAt w g x) (hb : Below B w w') (hg : g < B) : EnAt w' g x := (hb.block g hg).trans h

/-- bytes that a literal lays are the call's own -/
theorem own_lit (w : World) (l : List UInt8) (g n base : Nat) (hg : w.heap.size = g) (hn : l.length = n) (hl : n ≤ 1000) (hb : base ≤ g) : (w.alloc (.cells (l.map bv).toArray 5)).ownsRow base 5 1 (.slice (some ⟨g, 0, none⟩) n n) n (l.map bv) := by
  subst hg hn
  refine ⟨by simp, .inr ⟨w.heap.size, l.length, _, rfl, hb, heap_alloc_new w _, Nat.le_refl _, by unfold maxLen; omega, by simp, ?_⟩⟩
  rw [List.take_of_length_le (by simp)]

/-- what was answered: n bytes that lie, in new memory -/
def Ans (w : World) (l : List UInt8) (A : Option Addr) (n c : Nat) (w' : World) : Prop := n = l.length ∧ Lies w' w'.heap.size 1 A n (l.map bv) ∧ Below w.heap.size w w'
theorem ans_of {w w' : World} {v : Value} {l : List UInt8} {base : Nat} (h : w'.ownsRow base 5 1 v l.length (l.map bv)) (hb : Below w.heap.size w w') : ∃ A n c, v = .slice A n c ∧ Ans w l A n c w' := by
  obtain ⟨A, c, rfl, _⟩ := own_shape h
  exact ⟨A, _, c, rfl, rfl, Lies.of_own h, hb⟩
theorem ans2 {wa wb wc : World} {l1 l2 : List UInt8} {A1 A2 : Option Addr} {n1 c1 n2 c2 : Nat} (h1 : Ans wa l1 A1 n1 c1 wb) (h2 : Ans wb l2 A2 n2 c2 wc) : Below wa.heap.size wa wc := h1.2.2.trans (h2.2.2.mono h1.2.2.size)
theorem ans3 {wa wb wc wd : World} {l1 l2 l3 : List UInt8} {A1 A2 A3 : Option Addr} {n1 c1 n2 c2 n3 c3 : Nat} (h1 : Ans wa l1 A1 n1 c1 wb) (h2 : Ans wb l2 A2 n2 c2 wc) (h3 : Ans wc l3 A3 n3 c3 wd) :
    Below wa.heap.size wa wd ∧ Lies wd wd.heap.size 1 A1 n1 (l1.map bv) ∧ Lies wd wd.heap.size 1 A2 n2 (l2.map bv) ∧ Lies wd wd.heap.size 1 A3 n3 (l3.map bv) :=
  ⟨(ans2 h1 h2).trans (h3.2.2.mono (ans2 h1 h2).size), (h1.2.1.below (ans2 h2 h3)).more (ans2 h2 h3).size, (h2.2.1.below h3.2.2).more h3.2.2.size, h3.2.1⟩

end Go.Proofs.Ytoljldokehfokaa
