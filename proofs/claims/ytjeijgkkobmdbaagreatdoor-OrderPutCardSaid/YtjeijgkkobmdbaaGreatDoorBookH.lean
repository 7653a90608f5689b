/-
  The Book of a law, as a law uses it: begun, byte lists kept one by one, asked.
-/
import Derived.Test.YtjeijgkkobmdbaaGreatDoorBookG
namespace Go.Proofs.YtjeijgkkobmdbaaGreatDoor
open Go.RowKit
set_option linter.unusedVariables false

theorem own_only {w w' : World} {base e k n : Nat} {v : Value} {xs : List Value} {a b : Option Nat} (h : w.ownsRow base e k v n xs) (ho : Only w w' a b) (ha : v.ownBlock = none ∨ v.ownBlock ≠ a) (hb : v.ownBlock = none ∨ v.ownBlock ≠ b) : w'.ownsRow base e k v n xs := by
  have hlt := h.lt
  refine ⟨h.1, ?_⟩
  rcases h.2 with h2 | ⟨g, cap, cur, hv, hg, hh, r⟩
  · exact .inl h2
  · subst hv
    have ha' : some g ≠ a := by rcases ha with h | h; · cases h
                                exact h
    have hb' : some g ≠ b := by rcases hb with h | h; · cases h
                                exact h
    exact .inr ⟨g, cap, cur, rfl, hg, (ho.block g (hlt g rfl).2 ha' hb').trans hh, r⟩
def Kd (w : World) (base : Nat) (b : BL) : Prop := ∃ xs, w.ownsRow base 5 1 b.v b.n xs
theorem Kd.only {w w' : World} {base gk nb base2 k : Nat} {b : BL} {vb : Value} {hs : List Value} (h : Kd w base b) (ho : Only w w' (some gk) vb.ownBlock) (hB : BookIs w gk nb vb) (hown : w.ownsRow base2 61 3 vb k hs) : Kd w' base b := by
  obtain ⟨xs, h⟩ := h
  exact ⟨xs, own_only h ho (.inr (fun e => hB.not_own h (by decide) e.symm)) (own_ne h hown (by decide))⟩
theorem Kd.below {w w' : World} {base : Nat} {b : BL} (h : Kd w base b) (hb : Below w.heap.size w w') : Kd w' base b := by
  obtain ⟨xs, h⟩ := h
  exact ⟨xs, own_below h hb⟩
theorem only_below {w w' : World} {base gk k : Nat} {vb : Value} {hs : List Value} (ho : Only w w' (some gk) vb.ownBlock) (hgk : base ≤ gk) (hown : w.ownsRow base 61 3 vb k hs) (hbase : base ≤ w.heap.size) : Below base w w' :=
  ⟨ho.os, ho.tape, ho.output, ho.size, fun k hk => ho.block k (by omega) (by intro e; injection e with e; omega) (by intro e; have := (hown.lt k e.symm).1; omega)⟩


/-- a Book at g that holds ls; all the lists are still owned -/
def BkS (w0 : World) (base g : Nat) (ls all : List BL) (w : World) (vb : Value) : Prop :=
  BookIs w g ls.length vb ∧ w.ownsRow base 61 3 vb ls.length (held0 ls) ∧ Below base w0 w ∧ base ≤ g ∧ base ≤ w.heap.size ∧ ∀ b ∈ all, Kd w base b
theorem bk_start {w0 w : World} {base : Nat} {all : List BL} (hb : Below base w0 w) (hs : base ≤ w.heap.size) (hk : ∀ b ∈ all, Kd w base b) : BkS w0 base w.heap.size [] all (w.alloc (.cells (bookCells 0 nilS) 46)) nilS :=
  ⟨heap_alloc_new w _, World.ownsRow_nil _ _ _ _, hb.alloc hs _, hs, by simp; omega, fun b h => (hk b h).below ((Below.refl _ _).alloc (Nat.le_refl _) _)⟩
theorem bk_step {w0 w : World} {base g : Nat} {ls all : List BL} {vb : Value} (h : BkS w0 base g ls all w vb) (A : Option Addr) (n c : Nat) (hl : ls.length ≤ 1000) :
    Calls Tryz.prog 10 #[.pointer (some ⟨g, 0, none⟩), .slice A n c] w fun e w' => e = .returned (.tuple #[]) ∧ ∃ vb', BkS w0 base g (ls ++ [⟨A, n, c, ls.length + 1⟩]) all w' vb' := by
  obtain ⟨hB, hO, hb, hg, hs, hk⟩ := h
  refine (bytes_any g ls.length ls.length base vb (held0 ls) A n c w hB hO hs (by omega) (by omega)).mono ?_
  rintro e w' ⟨he, vb', hB', hO', on⟩
  have hbel := only_below on hg hO hs
  refine ⟨he, vb', ?_, ?_, hb.trans hbel, hg, Nat.le_trans hs hbel.size, fun b hb => (hk b hb).only on hB hO⟩
  · rw [List.length_append]; exact hB'
  · have e : held0 (ls ++ [⟨A, n, c, ls.length + 1⟩]) = held0 ls ++ [.slice A n c, nilS, .int .i64 ((ls.length + 1 : Nat) : Int)] := by simp [held0, BL.v]
    rw [e, List.length_append]; exact hO'
theorem bk_apart {w0 w : World} {base g : Nat} {ls : List BL} {vb : Value} (h : BkS w0 base g ls ls w vb) (hD : Dis ls) (hl : ls.length ≤ 1000) (hm : ∀ b ∈ ls, b.n ≤ 1099511627776 ∧ b.num ≤ 1000000) :
    Calls Tryz.prog 11 #[.pointer (some ⟨g, 0, none⟩)] w fun e w' => e = .returned (.bool true) ∧ Below base w0 w' := by
  obtain ⟨hB, hO, hb, hg, hs, hk⟩ := h
  refine (apart_any g ls.length base vb ls w hB hO ?_ hD hs hl hm).mono fun e w' ⟨he, hb'⟩ => ⟨he, hb.trans hb'⟩
  intro i b hi
  obtain ⟨xs, h⟩ := hk b (List.mem_of_getElem? hi)
  exact ⟨xs, h, fun h => absurd h (Nat.not_lt_zero _)⟩
end Go.Proofs.YtjeijgkkobmdbaaGreatDoor
