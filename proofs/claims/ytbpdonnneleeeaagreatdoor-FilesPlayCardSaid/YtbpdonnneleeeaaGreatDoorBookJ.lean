/-
  The Book, where what is kept stands beside other memory: the blocks of the Book and of the lists that it keeps, as a set.
-/
import Derived.Test.YtbpdonnneleeeaaGreatDoorBookZ2
import Derived.Test.YtbpdonnneleeeaaGreatDoorDirZ
namespace Go.Proofs.YtbpdonnneleeeaaGreatDoor
open Go.RowKit
set_option linter.unusedVariables false
set_option maxRecDepth 100000

set_option maxHeartbeats 2000000 in
theorem keepByte_at (g n k base : Nat) (vb : Value) (hs : List Value) (A : Option Addr) (nl c : Nat) (w : World) (hB : BookIs w g n vb) (hown : w.ownsRow base 128 3 vb k hs) (hbase : base ≤ w.heap.size) (hn : n ≤ 1000000) (hk : k ≤ 1000000) :
    Calls Tryz.prog 57 #[.pointer (some ⟨g, 0, none⟩), .slice A nl c] w fun e w' => e = .returned (.tuple #[]) ∧ ∃ vb', BookIs w' g (n + 1) vb' ∧
      w'.ownsRow base 128 3 vb' (k + 1) (hs ++ [.slice A nl c, nilS, .int .i64 ((n + 1 : Nat) : Int)]) ∧ Only w w' (some g) vb.ownBlock ∧ (vb'.ownBlock = vb.ownBlock ∨ ∃ i, vb'.ownBlock = some i ∧ w.heap.size ≤ i) := by
  obtain ⟨i0, hi, hz0, hz1, hz2⟩ := info_parts held_info
  have hc0 : w.cell? ⟨g, 0, none⟩ = some (.int .i64 (n : Int)) := hB.cell 0
  have hc1 : w.cell? ⟨g, 1, none⟩ = some vb := hB.cell 1
  have hf0 := hB.frozen 0
  have hf1 := hB.frozen 1
  go_enter Tryz.func57, Tryz.ntmps57
  go_wp2
  have hB1 : BookIs (w.setCell ⟨g, 0, none⟩ (.int .i64 ((n : Int) + 1))) g (n + 1) vb := hB.num (n + 1)
  have hown1 := own_setOther hown (p := ⟨g, 0, none⟩) (hB.not_own hown (by decide)) (.int .i64 ((n : Int) + 1))
  have honly1 : ∀ j, j < w.heap.size → some j ≠ some g → (w.setCell ⟨g, 0, none⟩ (.int .i64 ((n : Int) + 1))).heap[j]? = w.heap[j]? := fun j _ hj => Below.heap_setCell w _ _ j (fun e => hj (by rw [e]))
  have hsz1 : (w.setCell ⟨g, 0, none⟩ (.int .i64 ((n : Int) + 1))).heap.size = w.heap.size := by simp [World.setCell]
  have hos1 : (w.setCell ⟨g, 0, none⟩ (.int .i64 ((n : Int) + 1))).os = w.os ∧ (w.setCell ⟨g, 0, none⟩ (.int .i64 ((n : Int) + 1))).tape = w.tape ∧ (w.setCell ⟨g, 0, none⟩ (.int .i64 ((n : Int) + 1))).output = w.output := ⟨rfl, rfl, rfl⟩
  obtain ⟨w1, hw1⟩ : ∃ w1, w.setCell ⟨g, 0, none⟩ (.int .i64 ((n : Int) + 1)) = w1 := ⟨_, rfl⟩
  rw [hw1] at hB1 hown1 honly1 hsz1 hos1 ⊢
  clear hw1 hc0 hc1 hf0 hf1
  have hc0 : w1.cell? ⟨g, 0, none⟩ = some (.int .i64 ((n : Int) + 1)) := hB1.cell 0
  have hc1 : w1.cell? ⟨g, 1, none⟩ = some vb := hB1.cell 1
  have hf1 := hB1.frozen 1
  have hglt : g < w1.heap.size := hB1.lt
  have hgne : w1.heap.size ≠ g := by omega
  have hgne2 : g ≠ w1.heap.size := by omega
  have H1 := Lib.hid honly1; have HS1 := Lib.hid hsz1; have HO1 := Lib.hid hos1
  clear honly1 hsz1 hos1
  go_region_law (refine step_app _ rfl (.tmp 15) (.tmp 22) 31 rfl base 128 i0 _ 3 56 Tryz.underlying31 hi hz0 hz1 hz2 rfl (by decide) vb k hs rfl (World.ownsRow.alloc (w := w1.drew) hown1 _) (w1.heap.size + 1) (some ⟨w1.heap.size, 0, none⟩) 1 1 [.slice A nl c, nilS, .int .i64 ((n : Int) + 1)] rfl (lits3 (w := w1.drew) rfl _ _ _ _) (three_one _ _ _ _) (by unfold maxLen; omega) (by omega) (by have := HS1.out; simp; omega) ?_; intro v2 w2 hown2 hg2 hat2; have hB2 := BookIs.grown (BookIs.alloc (w := w1.drew) hB1 _) hg2 (hB1.not_own hown1 (by decide)); have hc2 : w2.cell? ⟨g, 1, none⟩ = some vb := hB2.cell 1; have hf2 := hB2.frozen 1; obtain ⟨A2, c2, rfl, _⟩ := own_shape hown2)
  all_goals (
    have hfin : BookIs (w2.setCell ⟨g, 1, none⟩ (.slice A2 (k + 1) c2)) g (n + 1) (.slice A2 (k + 1) c2) := hB2.put _
    have hown3 := own_setOther hown2 (p := ⟨g, 1, none⟩) (hB2.not_own hown2 (by decide)) (.slice A2 (k + 1) c2)
    have honly : Only w (w2.setCell ⟨g, 1, none⟩ (.slice A2 (k + 1) c2)) (some g) vb.ownBlock := by
      have ho := HO1.out
      refine ⟨hg2.os.trans ho.1, hg2.tape.trans ho.2.1, hg2.output.trans ho.2.2, ?_, ?_⟩
      · have := hg2.size
        have h2 := HS1.out
        simp [World.setCell] at this ⊢
        omega
      · intro j hj h1 h2
        have hj1 : j < w1.heap.size := by rw [HS1.out]; exact hj
        rw [Below.heap_setCell _ _ _ _ (fun e => h1 (by rw [e]))]
        rw [hg2.block j (by simp; omega) h2]
        exact (Below.heap_alloc w1.drew _ j hj1).trans (H1.out j hj h1)
    have hat3 : (Value.slice A2 (k + 1) c2).ownBlock = vb.ownBlock ∨ ∃ i, (Value.slice A2 (k + 1) c2).ownBlock = some i ∧ w.heap.size ≤ i := by
      rcases hat2 with h | h
      · exact .inl h
      · refine .inr ⟨_, h, ?_⟩
        have := HS1.out
        simp
        omega
    have HAt := Lib.hid hat3
    have HF := Lib.hid hfin; have HO3 := Lib.hid hown3; have HON := Lib.hid honly
    clear hat3 hfin hown3 honly hown2 hg2 hat2 hB2 hc2 hf2 hown1 hB1 hc0 hc1 hf1
    go_wp2
    go_end0
    exact ⟨rfl, _, HF.out, HO3.out, HON.out, HAt.out⟩)
theorem bytes_at (g n k base : Nat) (vb : Value) (hs : List Value) (A : Option Addr) (nl c : Nat) (w : World) (hB : BookIs w g n vb) (hown : w.ownsRow base 128 3 vb k hs) (hbase : base ≤ w.heap.size) (hn : n ≤ 1000000) (hk : k ≤ 1000000) :
    Calls Tryz.prog 20 #[.pointer (some ⟨g, 0, none⟩), .slice A nl c] w fun e w' => e = .returned (.tuple #[]) ∧ ∃ vb', BookIs w' g (n + 1) vb' ∧
      w'.ownsRow base 128 3 vb' (k + 1) (hs ++ [.slice A nl c, nilS, .int .i64 ((n + 1 : Nat) : Int)]) ∧ Only w w' (some g) vb.ownBlock ∧ (vb'.ownBlock = vb.ownBlock ∨ ∃ i, vb'.ownBlock = some i ∧ w.heap.size ≤ i) := by
  have H := Lib.hid (keepByte_at g n k base vb hs A nl c w hB hown hbase hn hk)
  clear hB hown
  go_enter Tryz.func20, Tryz.ntmps20
  go_wp2_with fail
  refine H.out.mono ?_
  rintro e w1 ⟨rfl, hr⟩
  have HR := Lib.hid hr; clear hr
  go_wp2
  go_end0
  exact ⟨rfl, HR.out⟩


/-- a Book at g with the lists ls; all blocks of these lie in K -/
structure Kept (w : World) (base g : Nat) (ls : List BL) (vb : Value) (K : Nat → Prop) : Prop where
  book : BookIs w g ls.length vb
  own : w.ownsRow base 128 3 vb ls.length (held0 ls)
  each : ∀ b ∈ ls, Kd w base b
  dis : Dis ls
  fine : ∀ b ∈ ls, b.n ≤ 1099511627776 ∧ b.num ≤ 1000000
  kg : K g
  kv : ∀ i, vb.ownBlock = some i → K i
  kb : ∀ b ∈ ls, ∀ i, b.v.ownBlock = some i → K i
  low : ∀ i, K i → base ≤ i
  lt : ∀ i, K i → i < w.heap.size
theorem own_kept {w w' : World} {base e k n : Nat} {v : Value} {xs : List Value} (h : w.ownsRow base e k v n xs) (hk : ∀ i, v.ownBlock = some i → w'.heap[i]? = w.heap[i]?) : w'.ownsRow base e k v n xs := by
  refine ⟨h.1, ?_⟩
  rcases h.2 with h2 | ⟨g, cap, cur, hv, hg, hh, r⟩
  · exact .inl h2
  · subst hv
    exact .inr ⟨g, cap, cur, rfl, hg, (hk g rfl).trans hh, r⟩
theorem Kept.keep {w w' : World} {base g : Nat} {ls : List BL} {vb : Value} {K : Nat → Prop} (h : Kept w base g ls vb K) (hk : ∀ i, K i → w'.heap[i]? = w.heap[i]?) (hz : w.heap.size ≤ w'.heap.size) : Kept w' base g ls vb K :=
  ⟨(hk g h.kg).trans h.book, own_kept h.own fun i hi => hk i (h.kv i hi), fun b hb => by obtain ⟨xs, hx⟩ := h.each b hb; exact ⟨xs, own_kept hx fun i hi => hk i (h.kb b hb i hi)⟩, h.dis, h.fine, h.kg, h.kv, h.kb, h.low, fun i hi => Nat.lt_of_lt_of_le (h.lt i hi) hz⟩
theorem kept_start {w0 w : World} {base : Nat} (hs : base ≤ w.heap.size) : Kept (w.alloc (.cells (bookCells 0 nilS) 45)) base w.heap.size [] nilS (fun i => i = w.heap.size) :=
  ⟨heap_alloc_new w _, World.ownsRow_nil _ _ _ _, fun b hb => (by cases hb), fun i j bi bj _ h => (by simp at h), fun b hb => (by cases hb), rfl, fun i hi => (by cases hi), fun b hb => (by cases hb), fun i hi => by rw [hi]; exact hs, fun i hi => by rw [hi]; simp⟩
/-- one list more -/
theorem Kept.bytes {w : World} {base g : Nat} {ls : List BL} {vb : Value} {K : Nat → Prop} (h : Kept w base g ls vb K) (hbase : base ≤ w.heap.size) (A : Option Addr) (n c : Nat) (hl : ls.length ≤ 1000) (hn : n ≤ 1099511627776) (hd : Kd w base ⟨A, n, c, ls.length + 1⟩) (hK : ∀ i, (Value.slice A n c).ownBlock = some i → ¬ K i) :
    Calls Tryz.prog 20 #[.pointer (some ⟨g, 0, none⟩), .slice A n c] w fun e w' => e = .returned (.tuple #[]) ∧ ∃ vb' K', Kept w' base g (ls ++ [⟨A, n, c, ls.length + 1⟩]) vb' K' ∧ Turn K w w' ∧ ∀ i, K' i → K i ∨ (Value.slice A n c).ownBlock = some i ∨ w.heap.size ≤ i := by
  refine (bytes_at g ls.length ls.length base vb (held0 ls) A n c w h.book h.own hbase (by omega) (by omega)).mono ?_
  rintro e w' ⟨he, vb', hB', hO', on, hat⟩
  have hold : ∀ b ∈ ls ++ [⟨A, n, c, ls.length + 1⟩], Kd w base b := fun b hb => by
    rcases List.mem_append.1 hb with hb | hb
    · exact h.each b hb
    · rw [List.mem_singleton.1 hb]; exact hd
  have hne : ∀ b ∈ ls, b.v.ownBlock = none ∨ b.v.ownBlock ≠ (Value.slice A n c).ownBlock := fun b hb => by
    cases hv : b.v.ownBlock with
    | none => exact .inl rfl
    | some i => exact .inr fun e => hK i e.symm (h.kb b hb i hv)
  have hne' : ∀ b ∈ ls, (Value.slice A n c).ownBlock = none ∨ (Value.slice A n c).ownBlock ≠ b.v.ownBlock := fun b hb => by
    cases hv : (Value.slice A n c).ownBlock with
    | none => exact .inl rfl
    | some i => exact .inr fun e => hK i hv (h.kb b hb i e.symm)
  refine ⟨he, vb', fun i => K i ∨ (Value.slice A n c).ownBlock = some i ∨ vb'.ownBlock = some i, ⟨?_, ?_, fun b hb => (hold b hb).only on h.book h.own, ?_, ?_, .inl h.kg, fun i hi => .inr (.inr hi), ?_, ?_, ?_⟩, ⟨on.os, on.tape, on.output, on.size, fun i hi hn => on.block i hi (fun x => hn (by injection x with x; rw [x]; exact h.kg)) (fun x => hn (h.kv i x.symm))⟩, fun i hi => ?_⟩
  · rw [List.length_append]; exact hB'
  · have e : held0 (ls ++ [⟨A, n, c, ls.length + 1⟩]) = held0 ls ++ [.slice A n c, nilS, .int .i64 ((ls.length + 1 : Nat) : Int)] := by simp [held0, BL.v]
    rw [e, List.length_append]; exact hO'
  · intro i j bi bj hij hi hj
    by_cases h1 : i < ls.length
    · rw [List.getElem?_append_left h1] at hi
      by_cases h2 : j < ls.length
      · rw [List.getElem?_append_left h2] at hj
        exact h.dis i j bi bj hij hi hj
      · rw [List.getElem?_append_right (by omega)] at hj
        obtain ⟨_, hj⟩ := List.getElem?_eq_some_iff.1 hj
        simp at hj
        rw [← hj]
        exact hne bi (List.mem_of_getElem? hi)
    · rw [List.getElem?_append_right (by omega)] at hi
      obtain ⟨h3, hi⟩ := List.getElem?_eq_some_iff.1 hi
      simp at hi h3
      by_cases h2 : j < ls.length
      · rw [List.getElem?_append_left h2] at hj
        rw [← hi]
        exact hne' bj (List.mem_of_getElem? hj)
      · rw [List.getElem?_append_right (by omega)] at hj
        obtain ⟨h4, hj⟩ := List.getElem?_eq_some_iff.1 hj
        simp at h4
        omega
  · intro b hb
    rcases List.mem_append.1 hb with hb | hb
    · exact h.fine b hb
    · rw [List.mem_singleton.1 hb]; exact ⟨hn, by show ls.length + 1 ≤ _; omega⟩
  · intro b hb i hi
    rcases List.mem_append.1 hb with hb | hb
    · exact .inl (h.kb b hb i hi)
    · rw [List.mem_singleton.1 hb] at hi; exact .inr (.inl hi)
  · intro i hi
    rcases hi with hi | hi | hi
    · exact h.low i hi
    · obtain ⟨xs, hx⟩ := hd; exact (hx.lt i hi).1
    · exact (hO'.lt i hi).1
  · intro i hi
    rcases hi with hi | hi | hi
    · exact Nat.lt_of_lt_of_le (h.lt i hi) on.size
    · obtain ⟨xs, hx⟩ := hd; exact Nat.lt_of_lt_of_le (hx.lt i hi).2 on.size
    · exact (hO'.lt i hi).2
  · rcases hi with hi | hi | hi
    · exact .inl hi
    · exact .inr (.inl hi)
    · rcases hat with hat | ⟨j, hj, hz⟩
      · rw [hat] at hi; exact .inl (h.kv i hi)
      · rw [hj] at hi; injection hi with hi; exact .inr (.inr (by omega))
/-- the Book is asked -/
theorem Kept.apart {w : World} {base g : Nat} {ls : List BL} {vb : Value} {K : Nat → Prop} (h : Kept w base g ls vb K) (hbase : base ≤ w.heap.size) (hl : ls.length ≤ 1000) :
    Calls Tryz.prog 33 #[.pointer (some ⟨g, 0, none⟩)] w fun e w' => e = .returned (.bool true) ∧ Below base w w' := by
  refine apart_any g ls.length base vb ls w h.book h.own ?_ h.dis hbase hl h.fine
  intro i b hi
  obtain ⟨xs, hx⟩ := h.each b (List.mem_of_getElem? hi)
  exact ⟨xs, hx, fun h => absurd h (Nat.not_lt_zero _)⟩
end Go.Proofs.YtbpdonnneleeeaaGreatDoor
