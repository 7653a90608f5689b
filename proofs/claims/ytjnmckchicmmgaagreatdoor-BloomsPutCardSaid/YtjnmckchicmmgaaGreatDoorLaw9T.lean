/-
  Texts in memory, and how long they are, as laws of layer 9 ask it.
-/
import Derived.Test.YtjnmckchicmmgaaGreatDoorTSize
namespace Go.Proofs.YtjnmckchicmmgaaGreatDoor
open Go.RowKit
set_option linter.unusedVariables false
set_option maxRecDepth 100000

theorem Lies.str {w : World} {B n k : Nat} {A : Option Addr} {T : List ByteArray} (h : Lies w B 1 A n (T.map Value.string)) (hk : k < n) :
    ∃ b o x, A = some ⟨b, o, none⟩ ∧ b < B ∧ T[k]? = some x ∧ w.cell? ⟨b, o + k, none⟩ = some (.string x) := by
  obtain ⟨b, o, u, e, hb, hu, hc⟩ := h.at_ hk
  obtain ⟨x, hx, rfl⟩ := at_of hu
  exact ⟨b, o, x, e, hb, hx, hc⟩
theorem Lies.slen {w : World} {B n : Nat} {A : Option Addr} {T : List ByteArray} (h : Lies w B 1 A n (T.map Value.string)) : T.length = n := by have := h.len; simp at this; exact this
/-- what TextsSize tells where texts are few -/
theorem size_few {T : List ByteArray} (h : (sizes T).sum ≤ 20000) : ∀ s ∈ T, s.size ≤ 20000 := fun s hs => Nat.le_trans (mem_sizes T s hs) h
theorem small_of {T : List ByteArray} (h : (sizes T).sum ≤ 20000) : ∀ s ∈ T, s.size ≤ 1099511627776 := fun s hs => by have := size_few h s hs; omega
/-- TextsSize, as a law asks it: too much, or how much -/
theorem texts_cases (A : Option Addr) (n c : Nat) (T : List ByteArray) (w : World) (y : Lies w w.heap.size 1 A n (T.map Value.string)) (u : ∀ s ∈ T, s.size ≤ 140737488351232) (hn : n ≤ 140737488351232) :
    (∀ W, Below w.heap.size w W → Calls Tryz.prog 4 #[.slice A n c] W fun e w' => ∃ v : Nat, e = .returned (.int .i64 (v : Int)) ∧ 20000 < v ∧ v ≤ 281474976710656 ∧ w' = W) ∨
    (n + (sizes T).sum ≤ 20000 ∧ ∀ W, Below w.heap.size w W → Calls Tryz.prog 4 #[.slice A n c] W fun e w' => ∃ v : Nat, e = .returned (.int .i64 (v : Int)) ∧ v ≤ 20000 ∧ w' = W) := by
  have hts := fun (W : World) (hW : Below w.heap.size w W) => textsSize_any A n c W.heap.size T W ((y.below hW).more hW.size) u hn
  by_cases h : 20000 < n + (sizes T).sum
  · refine .inl fun W hW => (hts W hW).mono fun e w' ⟨v, he, h1, h2, h3, h4⟩ => ⟨v, he, ?_, h3, h4.symm⟩
    rcases Nat.lt_or_ge 20000 v with h5 | h5
    · exact h5
    · have := h1 (by omega); omega
  · exact .inr ⟨by omega, fun W hW => (hts W hW).mono fun e w' ⟨v, he, h1, h2, h3, h4⟩ => ⟨v, he, by omega, h4.symm⟩⟩
end Go.Proofs.YtjnmckchicmmgaaGreatDoor
