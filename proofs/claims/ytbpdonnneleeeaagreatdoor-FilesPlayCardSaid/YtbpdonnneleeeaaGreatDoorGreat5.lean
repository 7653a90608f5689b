/-
  Great: are acts more than is gone through?
-/
import Derived.Test.YtbpdonnneleeeaaGreatDoorActs
import Derived.BigQuiet
namespace Go.Proofs.YtbpdonnneleeeaaGreatDoor
open Go.RowKit
set_option linter.unusedVariables false
set_option maxRecDepth 20000

/-- acts that are gone through: 200 at most, of 40000 at most together -/
def Fits (n : Nat) (l : List AcC) : Prop := weigh l ≤ 40000 ∧ n ≤ 200
def GR (w : World) (l : List AcC) (n : Nat) (t i : Value) (wr : World) : Prop :=
  ∃ (k v q : Nat), k ≤ n ∧ i = .int .i64 (k : Int) ∧ t = .int .i64 (v : Int) ∧ v ≤ 40000 ∧ Hid (v = weigh (l.take k)) ∧ wr = w.drewN q
def GreatIs (w : World) (n : Nat) (l : List AcC) (e : Ending) (w' : World) : Prop := ∃ b : Bool, e = .returned (.bool b) ∧ (b = false → Fits n l) ∧ ∃ q, w' = w.drewN q

set_option maxHeartbeats 2000000 in
theorem great_any (A : Option Addr) (n c B : Nat) (l : List AcC) (w : World) (hl : Lies w B 7 A n (acs l)) (ha : Acts w B l) (hn : n ≤ 140737488351232) :
    Calls Tryz.prog 5 #[.slice A n c] w (GreatIs w n l) := by
  have HL := Lib.hid hl; have HA := Lib.hid ha
  clear hl ha
  go_enter Tryz.func5, Tryz.ntmps5
  go_wp2
  go_loopw [3, 4] (fun t i wr => GR w l n t i wr) (fun _ i _ => n - (intOf i).toNat)
  case atStart => exact ⟨0, 0, 0, Nat.zero_le _, rfl, rfl, Nat.zero_le _, rfl, rfl⟩
  case round =>
    obtain ⟨k, v, q, hk, rfl, rfl, hv, HV, rfl⟩ := hrel
    by_cases hlt : k < n
    · obtain ⟨b, o, x, hAe, hbB, hx, q0, q1, q2, q3, q4, q5, q6⟩ := HL.out.act hlt
      subst hAe
      have hok := HA.out x (List.mem_of_getElem? hx)
      have b1 := hok.nc; have b2 := hok.cap; have b3 := hok.name; have b4 := hok.to_
      have HW : Hid (weigh (l.take (k + 1)) = v + (1 + x.n + x.name.size + x.to_.size)) := by show _ = _; rw [weigh_take l k x hx, HV.out]
      have HWl : Hid (weigh (l.take (k + 1)) ≤ weigh l) := weigh_take_le l (k + 1)
      have w1 : IntKind.i64.wrap ((v : Int) + 1) = (v : Int) + 1 := (IntWalk.i64_left _).trans (IntWalk.wrap64_in _ ⟨by omega, by omega⟩)
      have w2 : IntKind.i64.wrap ((v : Int) + 1 + (x.n : Int)) = (v : Int) + 1 + (x.n : Int) := (IntWalk.i64_left _).trans (IntWalk.wrap64_in _ ⟨by omega, by omega⟩)
      have w3 : IntKind.i64.wrap ((v : Int) + 1 + (x.n : Int) + (x.name.size : Int)) = (v : Int) + 1 + (x.n : Int) + (x.name.size : Int) := (IntWalk.i64_left _).trans (IntWalk.wrap64_in _ ⟨by omega, by omega⟩)
      have w4 : IntKind.i64.wrap ((v : Int) + 1 + (x.n : Int) + (x.name.size : Int) + (x.to_.size : Int)) = (v : Int) + 1 + (x.n : Int) + (x.name.size : Int) + (x.to_.size : Int) := (IntWalk.i64_left _).trans (IntWalk.wrap64_in _ ⟨by omega, by omega⟩)
      clear hx hok q0 q4 q5 q6
      by_cases hg : 40000 < v + (1 + x.n + x.name.size + x.to_.size)
      · have g1 : (40000 : Int) < (v : Int) + 1 + (x.n : Int) + (x.name.size : Int) + (x.to_.size : Int) := by omega
        clear hg
        go_wp2
        go_quiet (fail)
        go_wp2
        go_ret
        exact ⟨true, rfl, fun h => (by cases h), _, rfl⟩
      · have g1 : (v : Int) + 1 + (x.n : Int) + (x.name.size : Int) + (x.to_.size : Int) ≤ (40000 : Int) := by omega
        have HE : Hid (v + (1 + x.n + x.name.size + x.to_.size) ≤ 40000) := by show _ ≤ _; omega
        clear hg
        go_wp2
        go_quiet (fail)
        go_wp2
        go_roundw
        case rel => exact ⟨k + 1, v + (1 + x.n + x.name.size + x.to_.size), _, hlt, by go_num, by congr 2; omega, HE.out, HW.out.symm, rfl⟩
        case measure => simp [intOf]; omega
    · obtain rfl : n = k := by omega
      have HE : Hid (weigh l ≤ 40000) := by
        have h1 := HV.out
        rw [List.take_of_length_le (by rw [HL.out.alen]; exact Nat.le_refl _)] at h1
        show _ ≤ _; omega
      go_wp2
      go_ret
      exact ⟨decide (200 < (n : Int)), rfl, fun h => ⟨HE.out, by have := of_decide_eq_false h; omega⟩, _, rfl⟩
end Go.Proofs.YtbpdonnneleeeaaGreatDoor
