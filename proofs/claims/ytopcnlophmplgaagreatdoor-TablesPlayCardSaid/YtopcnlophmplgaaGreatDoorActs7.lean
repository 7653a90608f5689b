/-
  Acts of layer 7's law: what is done with a table, as they lie in memory, six cells each; great.
-/
import Derived.Test.YtopcnlophmplgaaGreatDoorMarks
import Derived.BigQuiet
namespace Go.Proofs.YtopcnlophmplgaaGreatDoor
open Go.RowKit
set_option linter.unusedVariables false
set_option maxRecDepth 100000

structure Ac7 where
  kind : Nat
  e : En
  n : Int
def Ac7.cs (x : Ac7) : List Value := [.int .u8 (x.kind : Int), .string x.e.m.k, .int .u64 (x.e.m.s : Int), .bool x.e.m.g, .string x.e.x, .int .i64 x.n]
def acs7 (l : List Ac7) : List Value := l.flatMap Ac7.cs
structure Ac7.Ok (x : Ac7) : Prop where
  kind : x.kind < 256
  s : x.e.m.s < 18446744073709551616
  k : x.e.m.k.size ≤ 140737488351232
  v : x.e.x.size ≤ 140737488351232
  n1 : -9223372036854775808 ≤ x.n
  n2 : x.n ≤ 9223372036854775807
theorem acs7_len (l : List Ac7) : (acs7 l).length = l.length * 6 := flat_len Ac7.cs 6 (fun _ => rfl) l
section
variable {w : World} {B n i : Nat} {A : Option Addr}
theorem Lies.act7 {l : List Ac7} (h : Lies w B 6 A n (acs7 l)) (hi : i < n) :
    ∃ b o x, A = some ⟨b, o, none⟩ ∧ b < B ∧ l[i]? = some x ∧ w.cell? ⟨b, o + i * 6, none⟩ = some (.int .u8 (x.kind : Int)) ∧ w.cell? ⟨b, o + i * 6 + 1, none⟩ = some (.string x.e.m.k) ∧ w.cell? ⟨b, o + i * 6 + 2, none⟩ = some (.int .u64 (x.e.m.s : Int)) ∧
      w.cell? ⟨b, o + i * 6 + 3, none⟩ = some (.bool x.e.m.g) ∧ w.cell? ⟨b, o + i * 6 + 4, none⟩ = some (.string x.e.x) ∧ w.cell? ⟨b, o + i * 6 + 5, none⟩ = some (.int .i64 x.n) := by
  obtain ⟨b, o, e, hb, hc⟩ := h.elem (by decide) hi
  have hl : i < l.length := by have := h.len; rw [acs7_len] at this; omega
  have hx : l[i]? = some l[i] := List.getElem?_eq_getElem hl
  refine ⟨b, o, l[i], e, hb, hx, ?_, ?_, ?_, ?_, ?_, ?_⟩
  · rw [show o + i * 6 = o + (i * 6 + 0) from rfl, hc 0 (by decide)]; exact flat_get Ac7.cs 6 (fun _ => rfl) l i 0 _ hx (by decide)
  · rw [Nat.add_assoc, hc 1 (by decide)]; exact flat_get Ac7.cs 6 (fun _ => rfl) l i 1 _ hx (by decide)
  · rw [Nat.add_assoc, hc 2 (by decide)]; exact flat_get Ac7.cs 6 (fun _ => rfl) l i 2 _ hx (by decide)
  · rw [Nat.add_assoc, hc 3 (by decide)]; exact flat_get Ac7.cs 6 (fun _ => rfl) l i 3 _ hx (by decide)
  · rw [Nat.add_assoc, hc 4 (by decide)]; exact flat_get Ac7.cs 6 (fun _ => rfl) l i 4 _ hx (by decide)
  · rw [Nat.add_assoc, hc 5 (by decide)]; exact flat_get Ac7.cs 6 (fun _ => rfl) l i 5 _ hx (by decide)
theorem Lies.alen7 {l : List Ac7} (h : Lies w B 6 A n (acs7 l)) : l.length = n := by have := h.len; rw [acs7_len] at this; omega
end
/-- how much acts weigh -/
def weigh7 (l : List Ac7) : Nat := (l.map fun x => 1 + x.e.m.k.size + x.e.x.size).sum
theorem weigh7_take (l : List Ac7) (k : Nat) (x : Ac7) (h : l[k]? = some x) : weigh7 (l.take (k + 1)) = weigh7 (l.take k) + (1 + x.e.m.k.size + x.e.x.size) := by
  unfold weigh7
  rw [List.take_add_one, h]; simp
theorem weigh7_take_le (l : List Ac7) (k : Nat) : weigh7 (l.take k) ≤ weigh7 l := by
  have e : weigh7 l = weigh7 (l.take k) + weigh7 (l.drop k) := by
    unfold weigh7
    rw [← List.sum_append, ← List.map_append, List.take_append_drop]
  omega
/-- acts that are gone through: 300 at most, of 40000 at most together -/
def Fits7 (n : Nat) (l : List Ac7) : Prop := weigh7 l ≤ 40000 ∧ n ≤ 300
def GR7 (w : World) (l : List Ac7) (n : Nat) (t i : Value) (wr : World) : Prop :=
  ∃ (k v q : Nat), k ≤ n ∧ i = .int .i64 (k : Int) ∧ t = .int .i64 (v : Int) ∧ v ≤ 40000 ∧ Hid (v = weigh7 (l.take k)) ∧ wr = w.drewN q
def Great7 (w : World) (n : Nat) (l : List Ac7) (e : Ending) (w' : World) : Prop := ∃ b : Bool, e = .returned (.bool b) ∧ (b = false → Fits7 n l) ∧ ∃ q, w' = w.drewN q

set_option maxHeartbeats 2000000 in
theorem great7_any (A : Option Addr) (n c B : Nat) (l : List Ac7) (w : World) (hl : Lies w B 6 A n (acs7 l)) (ha : ∀ x ∈ l, x.Ok) (hn : n ≤ 140737488351232) :
    Calls Tryz.prog 29 #[.slice A n c] w (Great7 w n l) := by
  have HL := Lib.hid hl; have HA := Lib.hid ha
  clear hl ha
  go_enter Tryz.func29, Tryz.ntmps29
  go_wp2
  go_loopw [3, 4] (fun t i wr => GR7 w l n t i wr) (fun _ i _ => n - (intOf i).toNat)
  case atStart => exact ⟨0, 0, 0, Nat.zero_le _, rfl, rfl, Nat.zero_le _, rfl, rfl⟩
  case round =>
    obtain ⟨k, v, q, hk, rfl, rfl, hv, HV, rfl⟩ := hrel
    by_cases hlt : k < n
    · obtain ⟨b, o, x, hAe, hbB, hx, q0, q1, q2, q3, q4, q5⟩ := HL.out.act7 hlt
      subst hAe
      have hok := HA.out x (List.mem_of_getElem? hx)
      have b3 := hok.k; have b4 := hok.v
      have HW : Hid (weigh7 (l.take (k + 1)) = v + (1 + x.e.m.k.size + x.e.x.size)) := by show _ = _; rw [weigh7_take l k x hx, HV.out]
      have w1 : IntKind.i64.wrap ((v : Int) + 1) = (v : Int) + 1 := (IntWalk.i64_left _).trans (IntWalk.wrap64_in _ ⟨by omega, by omega⟩)
      have w2 : IntKind.i64.wrap ((v : Int) + 1 + (x.e.m.k.size : Int)) = (v : Int) + 1 + (x.e.m.k.size : Int) := (IntWalk.i64_left _).trans (IntWalk.wrap64_in _ ⟨by omega, by omega⟩)
      have w3 : IntKind.i64.wrap ((v : Int) + 1 + (x.e.m.k.size : Int) + (x.e.x.size : Int)) = (v : Int) + 1 + (x.e.m.k.size : Int) + (x.e.x.size : Int) := (IntWalk.i64_left _).trans (IntWalk.wrap64_in _ ⟨by omega, by omega⟩)
      clear hx hok q0 q2 q3 q5
      by_cases hg : 40000 < v + (1 + x.e.m.k.size + x.e.x.size)
      · have g1 : (40000 : Int) < (v : Int) + 1 + (x.e.m.k.size : Int) + (x.e.x.size : Int) := by omega
        clear hg
        go_wp2
        go_quiet (fail)
        go_wp2
        go_ret
        exact ⟨true, rfl, fun h => (by cases h), _, rfl⟩
      · have g1 : (v : Int) + 1 + (x.e.m.k.size : Int) + (x.e.x.size : Int) ≤ (40000 : Int) := by omega
        have HE : Hid (v + (1 + x.e.m.k.size + x.e.x.size) ≤ 40000) := by show _ ≤ _; omega
        clear hg
        go_wp2
        go_quiet (fail)
        go_wp2
        go_roundw
        case rel => exact ⟨k + 1, v + (1 + x.e.m.k.size + x.e.x.size), _, hlt, by go_num, by congr 2; omega, HE.out, HW.out.symm, rfl⟩
        case measure => simp [intOf]; omega
    · obtain rfl : n = k := by omega
      have HE : Hid (weigh7 l ≤ 40000) := by
        have h1 := HV.out
        rw [List.take_of_length_le (by rw [HL.out.alen7]; exact Nat.le_refl _)] at h1
        show _ ≤ _; omega
      go_wp2
      go_ret
      exact ⟨decide (300 < (n : Int)), rfl, fun h => ⟨HE.out, by have := of_decide_eq_false h; omega⟩, _, rfl⟩
end Go.Proofs.YtopcnlophmplgaaGreatDoor
