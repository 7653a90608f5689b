/-
  The laws' Book: a list of bytes or of texts more, in a Book that keeps both.
-/
import Derived.Test.YtjnmckchicmmgaaGreatDoorBkHT
namespace Go.Proofs.YtjnmckchicmmgaaGreatDoor
open Go.RowKit
set_option linter.unusedVariables false
set_option maxRecDepth 100000

section
variable {w w' : World} {base g n : Nat} {lb le : List BL} {vb ve : Value}
theorem KeptBT.bytes (h : KeptBT w base g n lb le vb ve) (hbase : base ≤ w.heap.size) (A : Option Addr) (nl c : Nat) (hl : lb.length ≤ 900) (hn : n ≤ 900) (hnl : nl ≤ 1099511627776) (hd : Kdk byteK w base ⟨A, nl, c, n + 1⟩)
    (hK : ∀ b ∈ lb, b.v.ownBlock = none ∨ b.v.ownBlock ≠ (Value.slice A nl c).ownBlock) :
    Calls Tryz.prog 11 #[.pointer (some ⟨g, 0, none⟩), .slice A nl c] w fun e w' => e = .returned (.tuple #[]) ∧ ∃ vb', KeptBT w' base g (n + 1) (lb ++ [⟨A, nl, c, n + 1⟩]) le vb' ve ∧ Wrote (fun i => i = g ∨ vb.ownBlock = some i) w w' ∧ Below base w w' := by
  refine (bytes_bk g n lb.length base (cellsBT n vb ve) vb (held0 lb) A nl c w h.book rfl rfl rfl h.ownB hbase (by omega) (by omega)).mono ?_
  rintro e w' ⟨he, vb', hB', hO', hw, hat⟩
  have hoff : ∀ {e : TypeId}, 43 ≠ e → 69 ≠ e → Off w e (fun i => i = g ∨ vb.ownBlock = some i) := fun {e} h1 h2 i hi => by
    rcases hi with rfl | hi
    · exact ⟨_, h1, ⟨_, _, h.book⟩⟩
    · exact ⟨_, h2, ty_own h.ownB hi⟩
  have hkb : ∀ {b : BL}, Kdk byteK w base b → Kdk byteK w' base b := fun {b} ⟨xs, hx⟩ => ⟨xs, (hoff (by decide) (by decide)).row hw hx⟩
  have hke : ∀ {b : BL}, Kdk textK w base b → Kdk textK w' base b := fun {b} ⟨xs, hx⟩ => ⟨xs, (hoff (by decide) (by decide)).row hw hx⟩
  refine ⟨he, vb', ⟨hB', ?_, (hoff (by decide) (by decide)).row hw h.ownE, fun b hb => ?_, fun b hb => hke (h.eachE b hb), dis_snoc h.disB hK, h.disE, fun b hb => ?_, h.fineE, h.low⟩, hw, hw.below (fun i hi => ?_) hbase⟩
  · rw [List.length_append, held0_snoc]; exact hO'
  · rcases List.mem_append.1 hb with hb | hb
    · exact hkb (h.eachB b hb)
    · rw [List.mem_singleton.1 hb]; exact hkb hd
  · rcases List.mem_append.1 hb with hb | hb
    · exact h.fineB b hb
    · rw [List.mem_singleton.1 hb]; exact ⟨hnl, by show n + 1 ≤ _; omega⟩
  · rcases hi with rfl | hi
    · exact h.low
    · exact (h.ownB.lt i hi).1
theorem KeptBT.texts (h : KeptBT w base g n lb le vb ve) (hbase : base ≤ w.heap.size) (A : Option Addr) (nl c : Nat) (hl : le.length ≤ 900) (hn : n ≤ 900) (hnl : nl ≤ 1099511627776) (hd : Kdk textK w base ⟨A, nl, c, n + 1⟩)
    (hK : ∀ b ∈ le, b.v.ownBlock = none ∨ b.v.ownBlock ≠ (Value.slice A nl c).ownBlock) :
    Calls Tryz.prog 10 #[.pointer (some ⟨g, 0, none⟩), .slice A nl c] w fun e w' => e = .returned (.tuple #[]) ∧ ∃ ve', KeptBT w' base g (n + 1) lb (le ++ [⟨A, nl, c, n + 1⟩]) vb ve' ∧ Wrote (fun i => i = g ∨ ve.ownBlock = some i) w w' ∧ Below base w w' := by
  refine (texts_any g n le.length base (cellsBT n vb ve) ve (held0 le) A nl c w h.book rfl rfl rfl h.ownE hbase (by omega) (by omega)).mono ?_
  rintro e w' ⟨he, ve', hB', hO', hw, hat⟩
  have hoff : ∀ {e : TypeId}, 43 ≠ e → 67 ≠ e → Off w e (fun i => i = g ∨ ve.ownBlock = some i) := fun {e} h1 h2 i hi => by
    rcases hi with rfl | hi
    · exact ⟨_, h1, ⟨_, _, h.book⟩⟩
    · exact ⟨_, h2, ty_own h.ownE hi⟩
  have hkb : ∀ {b : BL}, Kdk byteK w base b → Kdk byteK w' base b := fun {b} ⟨xs, hx⟩ => ⟨xs, (hoff (by decide) (by decide)).row hw hx⟩
  have hke : ∀ {b : BL}, Kdk textK w base b → Kdk textK w' base b := fun {b} ⟨xs, hx⟩ => ⟨xs, (hoff (by decide) (by decide)).row hw hx⟩
  refine ⟨he, ve', ⟨hB', (hoff (by decide) (by decide)).row hw h.ownB, ?_, fun b hb => hkb (h.eachB b hb), fun b hb => ?_, h.disB, dis_snoc h.disE hK, h.fineB, fun b hb => ?_, h.low⟩, hw, hw.below (fun i hi => ?_) hbase⟩
  · rw [List.length_append, held0_snoc]; exact hO'
  · rcases List.mem_append.1 hb with hb | hb
    · exact hke (h.eachE b hb)
    · rw [List.mem_singleton.1 hb]; exact hke hd
  · rcases List.mem_append.1 hb with hb | hb
    · exact h.fineE b hb
    · rw [List.mem_singleton.1 hb]; exact ⟨hnl, by show n + 1 ≤ _; omega⟩
  · rcases hi with rfl | hi
    · exact h.low
    · exact (h.ownE.lt i hi).1
end
end Go.Proofs.YtjnmckchicmmgaaGreatDoor
