/-
  Layer 12's helpers: entry, left; SameRows of like rows.
-/
import Derived.Test.YtoljldokehfokaaMgYZ
import Derived.Test.YtoljldokehfokaaBkMB
import Derived.Test.YtoljldokehfokaaKpX
namespace Go.Proofs.Ytoljldokehfokaa
open Go.RowKit
set_option linter.unusedVariables false
set_option maxRecDepth 100000

theorem ent12_any (k : ByteArray) (s : Nat) (v : ByteArray) (w : World) :
    Calls Try.prog 13 #[.string k, .int .u64 (s : Int), .string v] w fun e w' => e = .returned (mkE k s v).v ∧ Below w.heap.size w w' := by
  go_enter Try.func13, Try.ntmps13
  go_wp2
  have h : (w.alloc (Obj.cells #[Value.string k, Value.int IntKind.u64 (s : Int), Value.bool v.toList.isEmpty, Value.string v] 31)).heap[w.heap.size]? = some (.cells #[Value.string k, Value.int IntKind.u64 (s : Int), Value.bool v.toList.isEmpty, Value.string v] 31 (0, 0)) := heap_alloc_new w _
  have hb : Below w.heap.size w (w.alloc (Obj.cells #[Value.string k, Value.int IntKind.u64 (s : Int), Value.bool v.toList.isEmpty, Value.string v] 31)) := (Below.refl _ _).alloc (Nat.le_refl _) _
  revert h hb
  generalize w.alloc (Obj.cells #[Value.string k, Value.int IntKind.u64 (s : Int), Value.bool v.toList.isEmpty, Value.string v] 31) = W
  intro h hb
  have z0 : W.cell? ⟨w.heap.size, 0, none⟩ = some (.string k) := cell_of_row W _ 0 _ _ (0, 0) h
  have z1 : W.cell? ⟨w.heap.size, 1, none⟩ = some (.int .u64 (s : Int)) := cell_of_row W _ 1 _ _ (0, 0) h
  have z2 : W.cell? ⟨w.heap.size, 2, none⟩ = some (.bool v.toList.isEmpty) := cell_of_row W _ 2 _ _ (0, 0) h
  have z3 : W.cell? ⟨w.heap.size, 3, none⟩ = some (.string v) := cell_of_row W _ 3 _ _ (0, 0) h
  exact bodyPost_ret (v := .agg #[.string k, .int .u64 (s : Int), .bool v.toList.isEmpty, .string v]) (by simp [results, Try.results13, go_sem, z0, z1, z2, z3]) rfl ⟨rfl, hb⟩

/-- what left answers of entries that rise -/
def LeftR (w : World) (S : List En) (looks : List Nat) (last : Bool) (e : Ending) (w' : World) : Prop := ∃ A c, e = .returned (.slice A (thinF (looks ++ [MX]) last S).length c) ∧ w'.ownsRow w.heap.size 31 4 (.slice A (thinF (looks ++ [MX]) last S).length c) (thinF (looks ++ [MX]) last S).length (ecs (thinF (looks ++ [MX]) last S)) ∧ Below w.heap.size w w'
set_option maxHeartbeats 2000000 in
theorem left12_any (B n c m c2 : Nat) (A A2 : Option Addr) (S : List En) (looks : List Nat) (last : Bool) (w : World) (hE : EL w B A n c S) (hn : n ≤ 300000) (hs : ∀ x ∈ S, x.m.s ≤ MX) (hL : Lies w w.heap.size 1 A2 m (looks.map uv)) (hm : m ≤ 12) (hlk : ∀ k ∈ looks, k ≤ MX) (hr : Rise S) :
    Calls Try.prog 14 #[.slice A n c, .bool last, .slice A2 m c2] w (LeftR w S looks last) := by
  have HT := Lib.hid (thin_any B n c m c2 A A2 S looks last w hE hn hs hL hm hlk)
  have HR := Lib.hid hr
  clear hE hL hs hlk hr
  go_enter Try.func14, Try.ntmps14
  go_wp2_with fail
  refine HT.out.mono ?_
  rintro e w2 ⟨hb, h⟩
  rcases h with ⟨_, v, rfl, ho⟩ | ⟨hno, _⟩
  · obtain ⟨A3, c3, rfl, _⟩ := own_shape ho
    have HF : Hid (LeftR w S looks last (.returned (.slice A3 (thinF (looks ++ [MX]) last S).length c3)) w2) := ⟨A3, c3, rfl, ho, hb⟩
    clear ho hb HT
    go_wp2
    go_ret
    exact HF.out
  · exact absurd HR.out hno

theorem rcs_len (l : List Rw) : (rcs l).length = l.length * 2 := flat_len _ 2 (fun _ => rfl) l
theorem Lies.rw_ {w : World} {B n i : Nat} {A : Option Addr} {l : List Rw} (h : Lies w B 2 A n (rcs l)) (hi : i < n) :
    ∃ b o x, A = some ⟨b, o, none⟩ ∧ b < B ∧ l[i]? = some x ∧ w.cell? ⟨b, o + i * 2, none⟩ = some (.string x.1) ∧ w.cell? ⟨b, o + i * 2 + 1, none⟩ = some (.string x.2) := by
  obtain ⟨b, o, e, hb, hc⟩ := h.elem (by decide) hi
  have hl : i < l.length := by have := h.len; rw [rcs_len] at this; omega
  refine ⟨b, o, l[i], e, hb, List.getElem?_eq_getElem hl, ?_, ?_⟩
  · rw [show o + i * 2 = o + (i * 2 + 0) from rfl, hc 0 (by decide)]; exact flat_get (fun r : Rw => [Value.string r.1, .string r.2]) 2 (fun _ => rfl) l i 0 _ (List.getElem?_eq_getElem hl) (by decide)
  · rw [Nat.add_assoc, hc 1 (by decide)]; exact flat_get (fun r : Rw => [Value.string r.1, .string r.2]) 2 (fun _ => rfl) l i 1 _ (List.getElem?_eq_getElem hl) (by decide)
set_option maxHeartbeats 1000000 in
theorem sameRw_yes {w : World} {A A2 : Option Addr} {n c c2 : Nat} {l : List Rw} (h1 : Lies w w.heap.size 2 A n (rcs l)) (h2 : Lies w w.heap.size 2 A2 n (rcs l)) (hn : n ≤ 4611686018427387904) :
    Calls Try.prog 12 #[.slice A n c, .slice A2 n c2] w fun e w' => e = .returned (.bool true) ∧ Below w.heap.size w w' := by
  have H1 := Lib.hid h1; have H2 := Lib.hid h2
  clear h1 h2
  go_enter Try.func12, Try.ntmps12
  go_wp2
  go_loopw [5] (fun i wr => ∃ k q : Nat, k ≤ n ∧ i = .int .i64 (k : Int) ∧ wr = w.drewN q) (fun i _ => n - (intOf i).toNat)
  case atStart => exact ⟨0, 0, Nat.zero_le _, rfl, rfl⟩
  case round =>
    obtain ⟨k, q, hk, rfl, rfl⟩ := hrel
    by_cases hlt : k < n
    · obtain ⟨b, o, x, rfl, hbB, hu, c0, c1⟩ := H1.out.rw_ hlt
      obtain ⟨b2, o2, x2, rfl, hbB2, hu2, d0, d1⟩ := H2.out.rw_ hlt
      rw [hu] at hu2
      injection hu2 with hu2
      subst hu2
      have hi0 : (0 : Int) ≤ (k : Int) := by omega
      have hi1 : (k : Int) < (n : Int) := by omega
      clear hu
      go_wp2
      go_quiet (fail)
      go_wp2
      go_roundw
      case rel => exact ⟨k + 1, _, hlt, by go_num, by first | rfl | (rw [World.drewN_drewN])⟩
      case measure => simp [intOf]; omega
    · obtain rfl : k = n := by omega
      go_wp2
      go_ret
      exact ⟨rfl, below_drewN (Below.refl _ _) _⟩
end Go.Proofs.Ytoljldokehfokaa
