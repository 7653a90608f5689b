/-
  Contracts of package blocks: visit, of entries, of numbers, of bytes; the function that it calls may write what is its own.
-/
import Derived.Test.YtbbimfbkllellaaGreatDoorMarks
import Derived.LoopTactic
import Derived.Deep.QuietTactic
import Derived.BigQuiet
namespace Go.Proofs.YtbbimfbkllellaaGreatDoor
open Go.RowKit
set_option linter.unusedVariables false
set_option maxRecDepth 100000

/-- a function that has a body is entered -/
def Enters (f : FuncId) : Prop := ∀ (args : Array Value) (w : World), (callFunc f args).run Tryz.prog w = .ok (.enter f args) w
theorem enters_of {f : FuncId} {fn : Func} {c : Code} (hf : Tryz.prog.funcs[f]? = some fn) (hname : (fn.name == "runtime.NumGoroutine") = false) (hb : fn.body = some c) : Enters f := fun args w => by
  have h1 : fn.name ≠ "runtime.NumGoroutine" := by simpa using hname
  simp [callFunc, hf, h1, hb]

/-- what is asked of the function that visit calls: vs are the elements as values; R k holds behind k of them, F behind one at which it ends -/
structure Vis (vs : List Value) (f : FuncId) (cap : Array Value) (g : Nat → Bool) (R : Nat → World → Prop) (F : World → Prop) : Prop where
  ent : Enters f
  go : ∀ k v W, vs[k]? = some v → R k W → Calls Tryz.prog f (#[.int .i64 (k : Int), v] ++ cap) W fun e W' => e = .returned (.bool (g k)) ∧ (g k = true → R (k + 1) W') ∧ (g k = false → F W')
  up : ∀ k W W', R k W → Below W.heap.size W W' → R k W'
/-- what visit answers: how many were visited -/
def VisP (n : Nat) (g : Nat → Bool) (R : Nat → World → Prop) (F : World → Prop) (e : Ending) (w' : World) : Prop :=
  ∃ k : Nat, k ≤ n ∧ e = .returned (.int .i64 (k : Int)) ∧ (∀ j, j < k → g j = true) ∧ (k = n ∧ R n w' ∨ k < n ∧ g k = false ∧ F w')
def VisL (n : Nat) (g : Nat → Bool) (R : Nat → World → Prop) (i : Value) (wr : World) : Prop :=
  ∃ k : Nat, k ≤ n ∧ i = .int .i64 (k : Int) ∧ (∀ j, j < k → g j = true) ∧ R k wr

set_option maxHeartbeats 1000000 in
theorem visitN_any (l : List Int) (A : Option Addr) (n c B : Nat) (f : FuncId) (cap : Array Value) (g : Nat → Bool) (R : Nat → World → Prop) (F : World → Prop) (w : World)
    (H : Vis (l.map fun i => Value.int .i64 i) f cap g R F) (hl : ∀ k W, R k W → Lies W B 1 A n (l.map fun i => Value.int .i64 i)) (hn : n ≤ 9223372036854775807) (h0 : R 0 w) :
    Calls Tryz.prog 72 #[.slice A n c, .func (.func f) #[] cap] w (VisP n g R F) := by
  have HH := Lib.hid H; have HL := Lib.hid hl; have H0 := Lib.hid h0
  clear H hl h0
  go_enter Tryz.func72, Tryz.ntmps72
  go_wp2
  go_loopw [9] (fun i wr => VisL n g R i wr) (fun i _ => n - (intOf i).toNat)
  case atStart => exact ⟨0, Nat.zero_le _, rfl, fun j hj => by omega, H0.out⟩
  case round =>
    obtain ⟨k, hk, rfl, hz, hr⟩ := hrel
    have HZ := Lib.hid hz; have HR := Lib.hid hr
    clear hz hr
    by_cases hlt : k < n
    · obtain ⟨b, o, v, rfl, hbB, hu, hcell⟩ := (HL.out k wr HR.out).at_ hlt
      have HE := Lib.hid HH.out.ent
      have hmap := hu
      rw [List.getElem?_map] at hmap
      obtain ⟨y, hy⟩ : ∃ y, l[k]? = some y := by
        cases hx : l[k]? with
        | none => rw [hx] at hmap; cases hmap
        | some y => exact ⟨y, rfl⟩
      rw [hy] at hmap
      injection hmap with hmap
      subst hmap
      have HC := Lib.hid (HH.out.go k _ wr hu HR.out)
      clear hu hy
      go_wp2_with fail
      rw [HE.out]
      rw [Oper.upon_enter]
      refine HC.out.mono ?_
      rintro e w2 ⟨rfl, h1, h2⟩
      have H1 := Lib.hid h1; have H2 := Lib.hid h2
      obtain ⟨x, hx⟩ : ∃ x, g k = x := ⟨_, rfl⟩
      have HX := Lib.hid hx
      rw [hx]
      clear h1 h2 hcell hx
      cases x
      · go_wp2
        go_ret
        exact ⟨k, hk, rfl, HZ.out, .inr ⟨hlt, HX.out, H2.out HX.out⟩⟩
      · have HZ2 : Hid (∀ j, j < k + 1 → g j = true) := fun j hj => by
          by_cases hj2 : j < k
          · exact HZ.out j hj2
          · obtain rfl : j = k := by omega
            exact HX.out
        go_wp2
        go_roundw
        case rel => exact ⟨k + 1, hlt, by go_num, HZ2.out, H1.out HX.out⟩
        case measure => simp [intOf]; omega
    · obtain rfl : n = k := by omega
      go_wp2
      go_ret
      exact ⟨n, Nat.le_refl _, rfl, HZ.out, .inl ⟨rfl, HR.out⟩⟩
set_option maxHeartbeats 1000000 in
theorem visitB_any (l : List UInt8) (A : Option Addr) (n c B : Nat) (f : FuncId) (cap : Array Value) (g : Nat → Bool) (R : Nat → World → Prop) (F : World → Prop) (w : World)
    (H : Vis (l.map bv) f cap g R F) (hl : ∀ k W, R k W → Lies W B 1 A n (l.map bv)) (hn : n ≤ 9223372036854775807) (h0 : R 0 w) :
    Calls Tryz.prog 130 #[.slice A n c, .func (.func f) #[] cap] w (VisP n g R F) := by
  have HH := Lib.hid H; have HL := Lib.hid hl; have H0 := Lib.hid h0
  clear H hl h0
  go_enter Tryz.func130, Tryz.ntmps130
  go_wp2
  go_loopw [9] (fun i wr => VisL n g R i wr) (fun i _ => n - (intOf i).toNat)
  case atStart => exact ⟨0, Nat.zero_le _, rfl, fun j hj => by omega, H0.out⟩
  case round =>
    obtain ⟨k, hk, rfl, hz, hr⟩ := hrel
    have HZ := Lib.hid hz; have HR := Lib.hid hr
    clear hz hr
    by_cases hlt : k < n
    · obtain ⟨b, o, v, rfl, hbB, hu, hcell⟩ := (HL.out k wr HR.out).at_ hlt
      have HE := Lib.hid HH.out.ent
      have hmap := hu
      rw [List.getElem?_map] at hmap
      obtain ⟨y, hy⟩ : ∃ y, l[k]? = some y := by
        cases hx : l[k]? with
        | none => rw [hx] at hmap; cases hmap
        | some y => exact ⟨y, rfl⟩
      rw [hy] at hmap
      injection hmap with hmap
      subst hmap
      have HC := Lib.hid (HH.out.go k _ wr hu HR.out)
      clear hu hy
      go_wp2_with fail
      rw [HE.out]
      rw [Oper.upon_enter]
      refine HC.out.mono ?_
      rintro e w2 ⟨rfl, h1, h2⟩
      have H1 := Lib.hid h1; have H2 := Lib.hid h2
      obtain ⟨x, hx⟩ : ∃ x, g k = x := ⟨_, rfl⟩
      have HX := Lib.hid hx
      rw [hx]
      clear h1 h2 hcell hx
      cases x
      · go_wp2
        go_ret
        exact ⟨k, hk, rfl, HZ.out, .inr ⟨hlt, HX.out, H2.out HX.out⟩⟩
      · have HZ2 : Hid (∀ j, j < k + 1 → g j = true) := fun j hj => by
          by_cases hj2 : j < k
          · exact HZ.out j hj2
          · obtain rfl : j = k := by omega
            exact HX.out
        go_wp2
        go_roundw
        case rel => exact ⟨k + 1, hlt, by go_num, HZ2.out, H1.out HX.out⟩
        case measure => simp [intOf]; omega
    · obtain rfl : n = k := by omega
      go_wp2
      go_ret
      exact ⟨n, Nat.le_refl _, rfl, HZ.out, .inl ⟨rfl, HR.out⟩⟩
set_option maxHeartbeats 2000000 in
theorem visitE_any (l : List En) (A : Option Addr) (n c B : Nat) (f : FuncId) (cap : Array Value) (g : Nat → Bool) (R : Nat → World → Prop) (F : World → Prop) (w : World)
    (H : Vis (l.map En.v) f cap g R F) (hl : ∀ k W, R k W → B ≤ W.heap.size ∧ Lies W B 4 A n (ecs l)) (hn : n ≤ 9223372036854775807) (h0 : R 0 w) :
    Calls Tryz.prog 18 #[.slice A n c, .func (.func f) #[] cap] w (VisP n g R F) := by
  have HH := Lib.hid H; have HL := Lib.hid hl; have H0 := Lib.hid h0
  clear H hl h0
  go_enter Tryz.func18, Tryz.ntmps18
  go_wp2
  go_loopw [9] (fun i wr => VisL n g R i wr) (fun i _ => n - (intOf i).toNat)
  case atStart => exact ⟨0, Nat.zero_le _, rfl, fun j hj => by omega, H0.out⟩
  case round =>
    obtain ⟨k, hk, rfl, hz, hr⟩ := hrel
    have HZ := Lib.hid hz; have HR := Lib.hid hr
    clear hz hr
    by_cases hlt : k < n
    · obtain ⟨b, o, x, rfl, hbB, hu, c0, c1, c2, c3⟩ := (HL.out k wr HR.out).2.entry hlt
      have hBw := (HL.out k wr HR.out).1
      have HE := Lib.hid HH.out.ent
      have hu2 : (l.map En.v)[k]? = some x.v := by rw [List.getElem?_map, hu]; rfl
      have HG := Lib.hid (fun W hW => HH.out.go k _ W hu2 hW)
      have HUP := Lib.hid (fun W' hb => HH.out.up k wr W' HR.out hb)
      unfold En.v at HG
      have HU := Lib.hid hu
      clear hu hu2
      have HC := Lib.hid (HG.out (wr.alloc (.cells #[.string x.m.k, .int .u64 (x.m.s : Int), .bool x.m.g, .string x.x] 59)) (HUP.out _ ((Below.refl _ _).alloc (Nat.le_refl _) _)))
      clear HG HU
      go_wp2_with fail
      rw [HE.out]
      rw [Oper.upon_enter]
      refine HC.out.mono ?_
      rintro e w2 ⟨rfl, h1, h2⟩
      have H1 := Lib.hid h1; have H2 := Lib.hid h2
      obtain ⟨y, hx⟩ : ∃ y, g k = y := ⟨_, rfl⟩
      have HX := Lib.hid hx
      rw [hx]
      clear h1 h2 c0 c1 c2 c3 hx
      cases y
      · go_wp2
        go_ret
        exact ⟨k, hk, rfl, HZ.out, .inr ⟨hlt, HX.out, H2.out HX.out⟩⟩
      · have HZ2 : Hid (∀ j, j < k + 1 → g j = true) := fun j hj => by
          by_cases hj2 : j < k
          · exact HZ.out j hj2
          · obtain rfl : j = k := by omega
            exact HX.out
        go_wp2
        go_roundw
        case rel => exact ⟨k + 1, hlt, by go_num, HZ2.out, H1.out HX.out⟩
        case measure => simp [intOf]; omega
    · obtain rfl : n = k := by omega
      go_wp2
      go_ret
      exact ⟨n, Nat.le_refl _, rfl, HZ.out, .inl ⟨rfl, HR.out⟩⟩
end Go.Proofs.YtbbimfbkllellaaGreatDoor
