/-
  Contracts of package files' 'arguments' and of what it hands back.
-/
import Derived.Test.YtopcnlophmplgaaChkA
namespace Go.Proofs.Ytopcnlophmplgaa
open Go.RowKit
set_option maxRecDepth 100000
set_option linter.unusedVariables false

/-- what the arguments' check answers -/
def argErr (bs : List Bool) : Int := if bs.all id then 0 else 1
theorem argErr_ok {bs : List Bool} (h : bs.all id = true) : argErr bs = 0 := by unfold argErr; rw [if_pos h]
theorem argErr_no {bs : List Bool} (h : bs.all id = false) : argErr bs = 1 := by unfold argErr; rw [if_neg (by simp [h])]
def ARel (w : World) (bs : List Bool) (i : Value) (wr : World) : Prop :=
  ∃ k : Nat, k ≤ bs.length ∧ i = .int .i64 (k : Int) ∧ (∀ j, j < k → ∀ c, bs[j]? = some c → c = true) ∧ wr = w

set_option maxHeartbeats 1000000 in
theorem argumentsF_any (p : Addr) (B : Nat) (A : Option Addr) (n c : Nat) (bs : List Bool) (w : World) (hn : n ≤ 1000) (hc : w.cell? p = some (.slice A n c)) (hl : Lies w B 1 A n (bs.map Value.bool)) :
    Calls Try.prog 70 #[.pointer (some p)] w fun x w' => x = .returned (er (argErr bs)) ∧ w' = w := by
  have hlen : bs.length = n := by have := hl.len; simpa using this
  have HL := Lib.hid hl
  clear hl
  go_enter Try.func70, Try.ntmps70
  go_wp2
  go_loopw [6] (fun i wr => ARel w bs i wr) (fun i _ => n - (intOf i).toNat)
  case atStart => exact ⟨0, Nat.zero_le _, rfl, fun j hj => by omega, rfl⟩
  case round =>
    obtain ⟨k, hk, rfl, hz, rfl⟩ := hrel
    have HZ := Lib.hid hz
    clear hz
    by_cases hlt : k < n
    · obtain ⟨b, o, v, rfl, hbB, hu, hcell⟩ := HL.out.at_ hlt
      rw [List.getElem?_map] at hu
      obtain ⟨x, hx, rfl⟩ := Option.map_eq_some_iff.1 hu
      have HX := Lib.hid hx
      clear hu hx
      cases x
      · have HB : Hid (argErr bs = 1) := by
          refine argErr_no ?_
          rw [List.all_eq_false]; exact ⟨false, List.mem_of_getElem? HX.out, by simp⟩
        go_wp2
        go_ret
        exact ⟨by rw [HB.out]; rfl, rfl⟩
      · have HZ2 : Hid (∀ j, j < k + 1 → ∀ c', bs[j]? = some c' → c' = true) := fun j hj c' hc' => by
          by_cases hj2 : j < k
          · exact HZ.out j hj2 c' hc'
          · obtain rfl : j = k := by omega
            rw [HX.out] at hc'
            injection hc' with hc'
            exact hc'.symm
        go_wp2
        go_roundw
        case rel => exact ⟨k + 1, by omega, by go_num, HZ2.out, rfl⟩
        case measure => simp [intOf]; omega
    · obtain rfl : n = k := by omega
      have HB : Hid (argErr bs = 0) := by
        refine argErr_ok ?_
        rw [List.all_eq_true]
        intro x hx
        obtain ⟨j, hj, he⟩ := List.getElem_of_mem hx
        exact HZ.out j (by omega) x (by rw [List.getElem?_eq_getElem hj, he])
      go_wp2
      go_ret
      exact ⟨by rw [HB.out]; rfl, rfl⟩

set_option maxHeartbeats 1000000 in
theorem arguments_any (A : Option Addr) (n c : Nat) (bs : List Bool) (w : World) (hn : n ≤ 1000) (hl : Lies w w.heap.size 1 A n (bs.map Value.bool)) :
    Calls Try.prog 41 #[.slice A n c] w fun x w' => ∃ q, x = .returned (.func (.func 70) #[] #[.pointer (some q)]) ∧ Below w.heap.size w w' ∧ Gives w' (.func (.func 70) #[] #[.pointer (some q)]) (argErr bs) := by
  have hmf : ∀ (fn : Fn) (first cap : Array Value) (w : World), (Instr.makeFunc fn first cap).run Try.prog w = .ok (.func fn first cap) w := fun _ _ _ _ => rfl
  have HL := Lib.hid hl
  clear hl
  go_enter Try.func41, Try.ntmps41
  go_wp2
  go_ret
  refine ⟨_, rfl, (Below.refl _ _).alloc (Nat.le_refl _) _, _, _, _, rfl, ent_of Try.func70 (by kernel_rfl) rfl, fun w' hb => ?_⟩
  refine (argumentsF_any _ w.heap.size A n c bs w' hn ?_ ?_).mono fun x w2 h => ?_
  · rw [hb.cell (by simp)]
    exact (Box.new w _ _).cell
  · exact (HL.out.alloc (Nat.le_refl _) _).below (hb.mono (by simp))
  · obtain ⟨rfl, rfl⟩ := h
    exact ⟨rfl, Below.refl _ _⟩

/-- what is captured lies in a block of its own -/
def Kept1 (w : World) (b : Nat) (v : Value) : Prop := b < w.heap.size ∧ w.cell? ⟨b, 0, none⟩ = some v
theorem Kept1.below {w w' : World} {b : Nat} {v : Value} (h : Kept1 w b v) (hb : Below w.heap.size w w') : Kept1 w' b v :=
  ⟨Nat.lt_of_lt_of_le h.1 hb.size, by rw [hb.cell h.1]; exact h.2⟩
theorem kept1_new (w : World) (v : Value) (t : TypeId) : Kept1 (w.alloc (.cells #[v] t)) w.heap.size v := ⟨by simp, (Box.new w t v).cell⟩

def Made2 (w : World) (f : FuncId) (x y : Value) (e : Ending) (w' : World) : Prop :=
  ∃ a b, e = .returned (.func (.func f) #[] #[.pointer (some ⟨a, 0, none⟩), .pointer (some ⟨b, 0, none⟩)]) ∧ Kept1 w' a x ∧ Kept1 w' b y ∧ Below w.heap.size w w'
def Made3 (w : World) (f : FuncId) (x y z : Value) (e : Ending) (w' : World) : Prop :=
  ∃ a b c, e = .returned (.func (.func f) #[] #[.pointer (some ⟨a, 0, none⟩), .pointer (some ⟨b, 0, none⟩), .pointer (some ⟨c, 0, none⟩)]) ∧ Kept1 w' a x ∧ Kept1 w' b y ∧ Kept1 w' c z ∧ Below w.heap.size w w'
def Made4 (w : World) (f : FuncId) (x y z u : Value) (e : Ending) (w' : World) : Prop :=
  ∃ a b c d, e = .returned (.func (.func f) #[] #[.pointer (some ⟨a, 0, none⟩), .pointer (some ⟨b, 0, none⟩), .pointer (some ⟨c, 0, none⟩), .pointer (some ⟨d, 0, none⟩)]) ∧ Kept1 w' a x ∧ Kept1 w' b y ∧ Kept1 w' c z ∧ Kept1 w' d u ∧ Below w.heap.size w w'

theorem below_a {w w1 : World} (hb : Below w.heap.size w w1) (o : Obj) : Below w.heap.size w (w1.alloc o) := hb.alloc hb.size o
theorem Kept1.a {w : World} {b : Nat} {v : Value} (h : Kept1 w b v) (o : Obj) : Kept1 (w.alloc o) b v := h.below ((Below.refl _ _).alloc (Nat.le_refl _) o)
theorem kept1_n {w : World} {v : Value} {t : TypeId} {b : Nat} (hb : b = w.heap.size) : Kept1 (w.alloc (.cells #[v] t)) b v := by subst hb; exact kept1_new w v t

theorem alloc_size (w : World) (o : Obj) : w.heap.size + 1 = (w.alloc o).heap.size := (Array.size_push (xs := w.heap) o).symm
theorem alloc_size2 (w : World) (o o' : Obj) : w.heap.size + 1 + 1 = ((w.alloc o).alloc o').heap.size := by rw [← alloc_size, ← alloc_size]
theorem alloc_size3 (w : World) (o o' o2 : Obj) : w.heap.size + 1 + 1 + 1 = (((w.alloc o).alloc o').alloc o2).heap.size := by rw [← alloc_size, ← alloc_size, ← alloc_size]
theorem made2_of (w : World) (f : FuncId) (x y : Value) (t u : TypeId) : Made2 w f x y (.returned (.func (.func f) #[] #[.pointer (some ⟨w.heap.size, 0, none⟩), .pointer (some ⟨w.heap.size + 1, 0, none⟩)])) ((w.alloc (.cells #[x] t)).alloc (.cells #[y] u)) :=
  ⟨_, _, rfl, (kept1_new w x t).a _, kept1_n (alloc_size _ _), below_a (below_a (Below.refl _ _) _) _⟩
theorem made3_of (w : World) (f : FuncId) (x y z : Value) (t u s : TypeId) : Made3 w f x y z (.returned (.func (.func f) #[] #[.pointer (some ⟨w.heap.size, 0, none⟩), .pointer (some ⟨w.heap.size + 1, 0, none⟩), .pointer (some ⟨w.heap.size + 1 + 1, 0, none⟩)])) (((w.alloc (.cells #[x] t)).alloc (.cells #[y] u)).alloc (.cells #[z] s)) :=
  ⟨_, _, _, rfl, ((kept1_new w x t).a _).a _, (kept1_n (alloc_size _ _)).a _, kept1_n (alloc_size2 _ _ _), below_a (below_a (below_a (Below.refl _ _) _) _) _⟩
theorem made4_of (w : World) (f : FuncId) (x y z v : Value) (t u s r : TypeId) : Made4 w f x y z v (.returned (.func (.func f) #[] #[.pointer (some ⟨w.heap.size, 0, none⟩), .pointer (some ⟨w.heap.size + 1, 0, none⟩), .pointer (some ⟨w.heap.size + 1 + 1 + 1, 0, none⟩), .pointer (some ⟨w.heap.size + 1 + 1, 0, none⟩)])) ((((w.alloc (.cells #[x] t)).alloc (.cells #[y] u)).alloc (.cells #[v] s)).alloc (.cells #[z] r)) :=
  ⟨_, _, _, _, rfl, (((kept1_new w x t).a _).a _).a _, ((kept1_n (alloc_size _ _)).a _).a _, kept1_n (alloc_size3 _ _ _ _), (kept1_n (alloc_size2 _ _ _)).a _, below_a (below_a (below_a (below_a (Below.refl _ _) _) _) _) _⟩

theorem leads_makes (p : Option Addr) (s : ByteArray) (w : World) : Calls Try.prog 43 #[.pointer p, .string s] w fun e w' => Made2 w 72 (.pointer p) (.string s) e w' := by
  have hmf : ∀ (fn : Fn) (first cap : Array Value) (w : World), (Instr.makeFunc fn first cap).run Try.prog w = .ok (.func fn first cap) w := fun _ _ _ _ => rfl
  go_enter Try.func43, Try.ntmps43
  go_wp2
  go_ret
  exact made2_of _ _ _ _ _ _
theorem isFree_makes (p : Option Addr) (s : ByteArray) (w : World) : Calls Try.prog 46 #[.pointer p, .string s] w fun e w' => Made2 w 74 (.pointer p) (.string s) e w' := by
  have hmf : ∀ (fn : Fn) (first cap : Array Value) (w : World), (Instr.makeFunc fn first cap).run Try.prog w = .ok (.func fn first cap) w := fun _ _ _ _ => rfl
  go_enter Try.func46, Try.ntmps46
  go_wp2
  go_ret
  exact made2_of _ _ _ _ _ _
theorem hasSpace_makes (p : Option Addr) (s : ByteArray) (n : Int) (w : World) : Calls Try.prog 48 #[.pointer p, .string s, .int .i64 n] w fun e w' => Made3 w 75 (.pointer p) (.string s) (.int .i64 n) e w' := by
  have hmf : ∀ (fn : Fn) (first cap : Array Value) (w : World), (Instr.makeFunc fn first cap).run Try.prog w = .ok (.func fn first cap) w := fun _ _ _ _ => rfl
  go_enter Try.func48, Try.ntmps48
  go_wp2
  go_ret
  exact made3_of _ _ _ _ _ _ _ _
theorem reaches_makes (p : Option Addr) (s : ByteArray) (a n : Int) (w : World) : Calls Try.prog 44 #[.pointer p, .string s, .int .i64 a, .int .i64 n] w fun e w' => Made4 w 73 (.pointer p) (.string s) (.int .i64 n) (.int .i64 a) e w' := by
  have hmf : ∀ (fn : Fn) (first cap : Array Value) (w : World), (Instr.makeFunc fn first cap).run Try.prog w = .ok (.func fn first cap) w := fun _ _ _ _ => rfl
  go_enter Try.func44, Try.ntmps44
  go_wp2
  go_ret
  exact made4_of _ _ _ _ _ _ _ _ _ _

/-- a disk value that no call made -/
def NoDisk (w : World) (d : Value) : Prop := d = .pointer none ∨ ∃ b, d = .pointer (some ⟨b, 0, none⟩) ∧ b < w.heap.size ∧ w.cell? ⟨b, 1, none⟩ = some (.map none)
theorem NoDisk.below {w w' : World} {d : Value} (h : NoDisk w d) (hb : Below w.heap.size w w') : NoDisk w' d := by
  rcases h with h | ⟨b, h1, h2, h3⟩
  · exact .inl h
  · exact .inr ⟨b, h1, Nat.lt_of_lt_of_le h2 hb.size, by rw [hb.cell h2]; exact h3⟩
theorem NoDisk.exists {w : World} {d : Value} (h : NoDisk w d) : Calls Try.prog 40 #[d] w fun x w' => x = .returned (er 2) ∧ w' = w := by
  rcases h with rfl | ⟨b, rfl, _, h3⟩
  · exact exists_nil w
  · exact exists_not b w h3
theorem NoDisk.gives {w : World} {d : Value} (h : NoDisk w d) : Gives w (.func (.func 40) #[d] #[]) 2 :=
  ⟨_, _, _, rfl, ent_of Try.func40 (by kernel_rfl) rfl, fun w' hb => (h.below hb).exists.mono fun x w2 ⟨h1, h2⟩ => ⟨h1, by rw [h2]; exact Below.refl _ _⟩⟩
theorem Gives.below {w w' : World} {v : Value} {e : Int} (h : Gives w v e) (hb : Below w.heap.size w w') : Gives w' v e := by
  obtain ⟨f, first, cap, rfl, he, hc⟩ := h
  exact ⟨f, first, cap, rfl, he, fun w2 hb2 => hc w2 (hb.trans (hb2.mono hb.size))⟩

/-- several checks, of which the first fails -/
theorem firstError_one {w w0 : World} {v : Value} {vs : List Value} {e : Int} (A : Option Addr) (n c : Nat) (hl : Lies w w.heap.size 1 A n (v :: vs)) (hg : Gives w v e) (h0 : e ≠ 0) (hn : n ≤ 1000) :
    Calls Try.prog 39 #[.slice A n c] w fun x w' => x = .returned (er e) ∧ Below w.heap.size w w' := by
  have hlen := hl.len
  refine (firstError_any A n c (v :: vs) (e :: vs.map fun _ => 0) w hl (by simpa using hlen) hn ?_).mono fun x w' h => ?_
  · intro i v' e' hv he hz
    cases i with
    | zero =>
      injection hv with hv; injection he with he
      subst hv he; exact hg
    | succ i => exact absurd (hz 0 (by omega) e rfl) h0
  · refine ⟨h.1.trans ?_, h.2⟩
    show Ending.returned (er (if e = 0 then _ else e)) = _
    rw [if_neg h0]
end Go.Proofs.Ytopcnlophmplgaa
