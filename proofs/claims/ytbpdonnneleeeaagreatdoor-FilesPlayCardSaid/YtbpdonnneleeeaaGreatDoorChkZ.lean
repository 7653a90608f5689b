/-
  Contracts of package files' checks that need no disk: unless, firstError, exists, arguments, isName.
  Contracts of package files' 'arguments' and of what it hands back.
-/
import Derived.Test.YtbpdonnneleeeaaGreatDoorMemZ
import Derived.LoopTactic
namespace Go.Proofs.YtbpdonnneleeeaaGreatDoor
open Go.RowKit
set_option maxRecDepth 100000
set_option linter.unusedVariables false

/-- an error, as a value -/
abbrev er (e : Int) : Value := .int .i64 e

theorem unless_any (ok : Bool) (e : Int) (w : World) : Calls Tryz.prog 108 #[.bool ok, er e] w fun x w' => x = .returned (er (if ok then 0 else e)) ∧ w' = w := by
  cases ok
  · go_enter Tryz.func108, Tryz.ntmps108
    go_wp2
    go_ret
    exact ⟨rfl, rfl⟩
  · go_enter Tryz.func108, Tryz.ntmps108
    go_wp2
    go_ret
    exact ⟨rfl, rfl⟩

/-- a function that has a body is entered -/
def Ent (f : FuncId) : Prop := ∀ (args : Array Value) (w : World), (callFunc f args).run Tryz.prog w = .ok (.enter f args) w
theorem ent_of {f : FuncId} {fn : Func} {c : Code} (hf : Tryz.prog.funcs[f]? = some fn) (hname : (fn.name == "runtime.NumGoroutine") = false) (hb : fn.body = some c) : Ent f := fun args w => by
  have h1 : fn.name ≠ "runtime.NumGoroutine" := by simpa using hname
  simp [callFunc, hf, h1, hb]
/-- called with nothing, in any later world, the function value answers the error e, and writes nothing that was there -/
def Gives (w : World) (v : Value) (e : Int) : Prop :=
  ∃ f first cap, v = .func (.func f) first cap ∧ Ent f ∧ ∀ w', Below w.heap.size w w' → Calls Tryz.prog f (first ++ cap) w' fun x w2 => x = .returned (er e) ∧ Below w'.heap.size w' w2

/-- the first of them that is one -/
def firstErr : List Int → Int
  | [] => 0
  | e :: l => if e = 0 then firstErr l else e

theorem firstErr_zero (es : List Int) (n : Nat) (h : ∀ j, j < n → ∀ e, es[j]? = some e → e = 0) : firstErr es = firstErr (es.drop n) := by
  induction n generalizing es with
  | zero => rfl
  | succ n ih =>
    cases es with
    | nil => rfl
    | cons a l =>
      have h0 : a = 0 := h 0 (by omega) a rfl
      subst h0
      show firstErr l = _
      exact ih l fun j hj e he => h (j + 1) (by omega) e he

def FEr (w : World) (n : Nat) (es : List Int) (i : Value) (wr : World) : Prop :=
  ∃ k : Nat, k ≤ n ∧ i = .int .i64 (k : Int) ∧ (∀ j, j < k → ∀ e, es[j]? = some e → e = 0) ∧ Below w.heap.size w wr

set_option maxHeartbeats 1000000 in
theorem firstError_any (A : Option Addr) (n c : Nat) (vs : List Value) (es : List Int) (w : World) (hl : Lies w w.heap.size 1 A n vs) (he : es.length = n) (hn : n ≤ 1000)
    (hg : ∀ (i : Nat) v e, vs[i]? = some v → es[i]? = some e → (∀ j : Nat, j < i → ∀ e', es[j]? = some e' → e' = 0) → Gives w v e) :
    Calls Tryz.prog 43 #[.slice A n c] w fun x w' => x = .returned (er (firstErr es)) ∧ Below w.heap.size w w' := by
  have HL := Lib.hid hl; have HG := Lib.hid hg; have HE := Lib.hid he
  clear hl hg he
  go_enter Tryz.func43, Tryz.ntmps43
  go_wp2
  go_loopw [8] (fun i wr => FEr w n es i wr) (fun i _ => n - (intOf i).toNat)
  case atStart => exact ⟨0, Nat.zero_le _, rfl, fun j hj => by omega, Below.refl _ _⟩
  case round =>
    obtain ⟨k, hk, rfl, hz, hb⟩ := hrel
    have HZ := Lib.hid hz
    clear hz
    by_cases hlt : k < n
    · obtain ⟨b, o, v, rfl, hbB, hu, hcell⟩ := HL.out.at_ hlt
      obtain ⟨e, hee⟩ : ∃ e, es[k]? = some e := ⟨es[k]'(by have := HE.out; omega), List.getElem?_eq_getElem _⟩
      obtain ⟨f, first, cap, rfl, hent, hcall⟩ := HG.out k v e hu hee HZ.out
      have hcell' : wr.cell? ⟨b, o + k, none⟩ = some (.func (.func f) first cap) := by rw [hb.cell (by simpa using hbB)]; exact hcell
      have HB := Lib.hid hb; have HC := Lib.hid hcall; have HT := Lib.hid hent; have HEE := Lib.hid hee
      clear hu hcell hcall hee hb hent
      go_wp2_with fail
      rw [HT.out]
      rw [Oper.upon_enter]
      refine (HC.out wr HB.out).mono ?_
      rintro x w2 ⟨rfl, hb2⟩
      have HB2 := Lib.hid (HB.out.trans (hb2.mono HB.out.size))
      clear HB hb2 hcell'
      by_cases h0 : e = 0
      · have HZ2 : Hid (∀ j, j < k + 1 → ∀ e', es[j]? = some e' → e' = 0) := fun j hj e' he' => by
          by_cases hj2 : j < k
          · exact HZ.out j hj2 e' he'
          · obtain rfl : j = k := by omega
            rw [HEE.out] at he'
            injection he' with he'
            rw [← he', h0]
        have h1 : (e != 0) = false := by simp [h0]
        go_wp2
        go_roundw
        case rel => exact ⟨k + 1, hlt, by go_num, HZ2.out, HB2.out⟩
        case measure => simp [intOf]; omega
      · have HF : Hid (firstErr es = e) := by
          show firstErr es = e
          rw [firstErr_zero es k HZ.out]
          obtain ⟨hk2, hk3⟩ := List.getElem?_eq_some_iff.1 HEE.out
          rw [List.drop_eq_getElem_cons hk2, hk3]
          show (if e = 0 then _ else e) = e
          rw [if_neg h0]
        have h1 : (e != 0) = true := by simp [h0]
        go_wp2
        go_ret
        exact ⟨by rw [HF.out]; rfl, HB2.out⟩
    · obtain rfl : n = k := by omega
      go_wp2
      go_ret
      exact ⟨by rw [firstErr_zero es n HZ.out, List.drop_of_length_le (by rw [HE.out]; exact Nat.le_refl _)]; rfl, hb⟩

theorem exists_nil (w : World) : Calls Tryz.prog 44 #[.pointer none] w fun x w' => x = .returned (er 2) ∧ w' = w := by
  go_enter Tryz.func44, Tryz.ntmps44
  go_wp2_with (go_at_call 108; refine (unless_any _ _ _).mono ?_; rintro x w' ⟨rfl, rfl⟩)
  go_ret
  exact ⟨rfl, rfl⟩
theorem exists_ok (b m : Nat) (w : World) (hc : w.cell? ⟨b, 1, none⟩ = some (.map (some m))) :
    Calls Tryz.prog 44 #[.pointer (some ⟨b, 0, none⟩)] w fun x w' => x = .returned (er 0) ∧ w' = w := by
  have qm : (binOp .neq 83 (.map (some m)) (.map none)).run Tryz.prog w = .ok (.bool true) w := run_neq_map_nil w _ _ _ _ Tryz.underlying83
  go_enter Tryz.func44, Tryz.ntmps44
  go_wp2_with (go_at_call 108; refine (unless_any _ _ _).mono ?_; rintro x w' ⟨rfl, rfl⟩)
  go_ret
  exact ⟨rfl, rfl⟩
theorem exists_not (b : Nat) (w : World) (hc : w.cell? ⟨b, 1, none⟩ = some (.map none)) :
    Calls Tryz.prog 44 #[.pointer (some ⟨b, 0, none⟩)] w fun x w' => x = .returned (er 2) ∧ w' = w := by
  have qm : (binOp .neq 83 (.map none) (.map none)).run Tryz.prog w = .ok (.bool false) w := run_neq_map_nil w _ _ _ _ Tryz.underlying83
  go_enter Tryz.func44, Tryz.ntmps44
  go_wp2_with (go_at_call 108; refine (unless_any _ _ _).mono ?_; rintro x w' ⟨rfl, rfl⟩)
  go_ret
  exact ⟨rfl, rfl⟩

/-- a character that a name may have -/
def okByte (c : UInt8) : Bool := decide (97 ≤ c.toNat ∧ c.toNat ≤ 122) || decide (48 ≤ c.toNat ∧ c.toNat ≤ 57) || decide (c.toNat = 45) || decide (c.toNat = 46)
/-- may this be a name? -/
def okName (l : List UInt8) : Bool := decide (1 ≤ l.length ∧ l.length ≤ 16) && l.all okByte

set_option maxHeartbeats 1000000 in
theorem nameByte_any (c : UInt8) (w : World) : Calls Tryz.prog 110 #[bv c] w fun x w' => x = .returned (.bool (okByte c)) ∧ w' = w := by
  have hc : c.toNat < 256 := c.toNat_lt
  unfold okByte bv
  generalize c.toNat = n at *
  by_cases h1 : 97 ≤ n <;> by_cases h2 : n ≤ 122 <;> by_cases h3 : 48 ≤ n <;> by_cases h4 : n ≤ 57 <;> by_cases h5 : n = 45 <;> by_cases h6 : n = 46 <;> first | (exfalso; omega) | skip
  all_goals
    go_enter Tryz.func110, Tryz.ntmps110
    go_wp2
    go_ret
    simp [*] <;> omega

def NRel (w : World) (l : List UInt8) (i : Value) (wr : World) : Prop :=
  ∃ k : Nat, k ≤ l.length ∧ i = .int .i64 (k : Int) ∧ (∀ j, j < k → ∀ c, l[j]? = some c → okByte c = true) ∧ wr = w

theorem name_bad {l : List UInt8} {k : Nat} {c : UInt8} (h : l[k]? = some c) (hc : okByte c = false) : l.all okByte = false := by
  rw [List.all_eq_false]
  exact ⟨c, List.mem_of_getElem? h, by simp [hc]⟩
theorem name_good {l : List UInt8} (h : ∀ j, j < l.length → ∀ c, l[j]? = some c → okByte c = true) : l.all okByte = true := by
  rw [List.all_eq_true]
  intro c hc
  obtain ⟨j, hj, he⟩ := List.getElem_of_mem hc
  exact h j hj c (by rw [List.getElem?_eq_getElem hj, he])

set_option maxHeartbeats 1000000 in
theorem isName_any (s : ByteArray) (w : World) (hs : s.size ≤ 140737488355328) : Calls Tryz.prog 46 #[.string s] w fun x w' => x = .returned (.bool (okName s.data.toList)) ∧ w' = w := by
  obtain ⟨l, hl⟩ : ∃ l, s.data.toList = l := ⟨_, rfl⟩
  have hsz : s.size = l.length := by rw [← hl, Array.length_toList]; rfl
  rw [hl]
  by_cases h0 : l.length < 1
  · have HR : Hid (okName l = false) := by unfold Hid okName; rw [decide_eq_false (by omega)]; rfl
    have h0' : ((s.size : Nat) : Int) < 1 := by omega
    go_enter Tryz.func46, Tryz.ntmps46
    go_wp2
    go_ret
    exact ⟨by rw [HR.out]; rfl, rfl⟩
  · by_cases h1 : 16 < l.length
    · have HR : Hid (okName l = false) := by unfold Hid okName; rw [decide_eq_false (by omega)]; rfl
      have h0' : ¬ ((s.size : Nat) : Int) < 1 := by omega
      have h1' : (16 : Int) < ((s.size : Nat) : Int) := by omega
      go_enter Tryz.func46, Tryz.ntmps46
      go_wp2
      go_ret
      exact ⟨by rw [HR.out]; rfl, rfl⟩
    · have HN : Hid (okName l = l.all okByte) := by unfold Hid okName; rw [decide_eq_true (by omega)]; simp
      have h0' : ¬ ((s.size : Nat) : Int) < 1 := by omega
      have h1' : ¬ (16 : Int) < ((s.size : Nat) : Int) := by omega
      have HSZ := Lib.hid hsz; have HL := Lib.hid hl
      clear hl
      obtain ⟨n, hn⟩ : ∃ n, s.size = n := ⟨_, rfl⟩
      rw [hn] at h0' h1' hsz
      have HSN := Lib.hid hn
      go_enter Tryz.func46, Tryz.ntmps46
      go_wp2
      go_loopw [14] (fun i wr => NRel w l i wr) (fun i _ => n - (intOf i).toNat)
      case atStart => exact ⟨0, Nat.zero_le _, rfl, fun j hj => by omega, rfl⟩
      case round =>
        obtain ⟨k, hk, rfl, hz, rfl⟩ := hrel
        have HZ := Lib.hid hz
        clear hz
        by_cases hlt : k < n
        · obtain ⟨c, hc⟩ : ∃ c, l[k]? = some c := ⟨l[k]'(by omega), List.getElem?_eq_getElem _⟩
          have HC := Lib.hid hc
          have hget : s.data[k]? = some c := by rw [← hc, ← HL.out]; simp
          have hks : k < s.size := by omega
          have hsk : s[k] = c := by
            have h := hget
            rw [Array.getElem?_eq_getElem (show k < s.data.size from hks)] at h
            injection h
          cases hok : okByte c
          · have HB : Hid (okName l = false) := by rw [HN.out]; exact name_bad hc hok
            have HO : Hid (okByte s[k] = false) := by rw [hsk]; exact hok
            clear hc hget hsk hok
            go_wp2_with (go_at_call 110; refine (nameByte_any _ _).mono ?_; rintro x w' ⟨rfl, rfl⟩; rw [HO.out])
            go_ret
            exact ⟨by rw [HB.out]; rfl, rfl⟩
          · have HO : Hid (okByte s[k] = true) := by rw [hsk]; exact hok
            have HZ2 : Hid (∀ j, j < k + 1 → ∀ c', l[j]? = some c' → okByte c' = true) := fun j hj c' hc' => by
              by_cases hj2 : j < k
              · exact HZ.out j hj2 c' hc'
              · obtain rfl : j = k := by omega
                rw [hc] at hc'
                injection hc' with hc'
                rw [← hc', hok]
            clear hc hget hsk hok
            go_wp2_with (go_at_call 110; refine (nameByte_any _ _).mono ?_; rintro x w' ⟨rfl, rfl⟩; rw [HO.out])
            go_roundw
            case rel => exact ⟨k + 1, by omega, by go_num, HZ2.out, rfl⟩
            case measure => simp [intOf]; omega
        · obtain rfl : n = k := by omega
          go_wp2
          go_ret
          exact ⟨by rw [HN.out, name_good (fun j hj => HZ.out j (by omega))]; rfl, rfl⟩
end Go.Proofs.YtbpdonnneleeeaaGreatDoor

namespace Go.Proofs.YtbpdonnneleeeaaGreatDoor
open Go.RowKit
set_option maxRecDepth 100000
set_option linter.unusedVariables false

/-- what the arguments' check answers -/
def argErr (bs : List Bool) : Int := if bs.all id then 0 else 1
theorem argErr_ok {bs : List Bool} (h : bs.all id = true) : argErr bs = 0 := by unfold argErr; rw [if_pos h]
theorem argErr_no {bs : List Bool} (h : bs.all id = false) : argErr bs = 1 := by unfold argErr; rw [if_neg (by simp [h])]
def ARel (w : World) (bs : List Bool) (i : Value) (wr : World) : Prop :=
  ∃ k : Nat, k ≤ bs.length ∧ i = .int .i64 (k : Int) ∧ (∀ j, j < k → ∀ c, bs[j]? = some c → c = true) ∧ wr = w

set_option maxHeartbeats 1000000 in
theorem argumentsF_any (p : Addr) (B : Nat) (A : Option Addr) (n c : Nat) (bs : List Bool) (w : World) (hn : n ≤ 1000) (hc : w.cell? p = some (.slice A n c)) (hl : Lies w B 1 A n (bs.map Value.bool)) :
    Calls Tryz.prog 109 #[.pointer (some p)] w fun x w' => x = .returned (er (argErr bs)) ∧ w' = w := by
  have hlen : bs.length = n := by have := hl.len; simpa using this
  have HL := Lib.hid hl
  clear hl
  go_enter Tryz.func109, Tryz.ntmps109
  go_wp2
  go_loopw [6] (fun i wr => ARel w bs i wr) (fun i _ => n - (intOf i).toNat)
  case atStart => exact ⟨0, Nat.zero_le _, rfl, fun j hj => by omega, rfl⟩
  case round =>
    obtain ⟨k, hk, rfl, hz, rfl⟩ := hrel
    have HZ := Lib.hid hz
    clear hz
    by_cases hlt : k < n
    · obtain ⟨b, o, v, rfl, hbB, hu, hcell⟩ := HL.out.at_ hlt
      rw [List.getElem?_map] at hu
      obtain ⟨x, hx, rfl⟩ := Option.map_eq_some_iff.1 hu
      have HX := Lib.hid hx
      clear hu hx
      cases x
      · have HB : Hid (argErr bs = 1) := by
          refine argErr_no ?_
          rw [List.all_eq_false]; exact ⟨false, List.mem_of_getElem? HX.out, by simp⟩
        go_wp2
        go_ret
        exact ⟨by rw [HB.out]; rfl, rfl⟩
      · have HZ2 : Hid (∀ j, j < k + 1 → ∀ c', bs[j]? = some c' → c' = true) := fun j hj c' hc' => by
          by_cases hj2 : j < k
          · exact HZ.out j hj2 c' hc'
          · obtain rfl : j = k := by omega
            rw [HX.out] at hc'
            injection hc' with hc'
            exact hc'.symm
        go_wp2
        go_roundw
        case rel => exact ⟨k + 1, by omega, by go_num, HZ2.out, rfl⟩
        case measure => simp [intOf]; omega
    · obtain rfl : n = k := by omega
      have HB : Hid (argErr bs = 0) := by
        refine argErr_ok ?_
        rw [List.all_eq_true]
        intro x hx
        obtain ⟨j, hj, he⟩ := List.getElem_of_mem hx
        exact HZ.out j (by omega) x (by rw [List.getElem?_eq_getElem hj, he])
      go_wp2
      go_ret
      exact ⟨by rw [HB.out]; rfl, rfl⟩

set_option maxHeartbeats 1000000 in
theorem arguments_any (A : Option Addr) (n c : Nat) (bs : List Bool) (w : World) (hn : n ≤ 1000) (hl : Lies w w.heap.size 1 A n (bs.map Value.bool)) :
    Calls Tryz.prog 45 #[.slice A n c] w fun x w' => ∃ q, x = .returned (.func (.func 109) #[] #[.pointer (some q)]) ∧ Below w.heap.size w w' ∧ Gives w' (.func (.func 109) #[] #[.pointer (some q)]) (argErr bs) := by
  have hmf : ∀ (fn : Fn) (first cap : Array Value) (w : World), (Instr.makeFunc fn first cap).run Tryz.prog w = .ok (.func fn first cap) w := fun _ _ _ _ => rfl
  have HL := Lib.hid hl
  clear hl
  go_enter Tryz.func45, Tryz.ntmps45
  go_wp2
  go_ret
  refine ⟨_, rfl, (Below.refl _ _).alloc (Nat.le_refl _) _, _, _, _, rfl, ent_of Tryz.func109 (by kernel_rfl) rfl, fun w' hb => ?_⟩
  refine (argumentsF_any _ w.heap.size A n c bs w' hn ?_ ?_).mono fun x w2 h => ?_
  · rw [hb.cell (by simp)]
    exact (Box.new w _ _).cell
  · exact (HL.out.alloc (Nat.le_refl _) _).below (hb.mono (by simp))
  · obtain ⟨rfl, rfl⟩ := h
    exact ⟨rfl, Below.refl _ _⟩

/-- what is captured lies in a block of its own -/
def Kept1 (w : World) (b : Nat) (v : Value) : Prop := b < w.heap.size ∧ w.cell? ⟨b, 0, none⟩ = some v
theorem Kept1.below {w w' : World} {b : Nat} {v : Value} (h : Kept1 w b v) (hb : Below w.heap.size w w') : Kept1 w' b v :=
  ⟨Nat.lt_of_lt_of_le h.1 hb.size, by rw [hb.cell h.1]; exact h.2⟩
theorem kept1_new (w : World) (v : Value) (t : TypeId) : Kept1 (w.alloc (.cells #[v] t)) w.heap.size v := ⟨by simp, (Box.new w t v).cell⟩

def Made2 (w : World) (f : FuncId) (x y : Value) (e : Ending) (w' : World) : Prop :=
  ∃ a b, e = .returned (.func (.func f) #[] #[.pointer (some ⟨a, 0, none⟩), .pointer (some ⟨b, 0, none⟩)]) ∧ Kept1 w' a x ∧ Kept1 w' b y ∧ Below w.heap.size w w'
def Made3 (w : World) (f : FuncId) (x y z : Value) (e : Ending) (w' : World) : Prop :=
  ∃ a b c, e = .returned (.func (.func f) #[] #[.pointer (some ⟨a, 0, none⟩), .pointer (some ⟨b, 0, none⟩), .pointer (some ⟨c, 0, none⟩)]) ∧ Kept1 w' a x ∧ Kept1 w' b y ∧ Kept1 w' c z ∧ Below w.heap.size w w'
def Made4 (w : World) (f : FuncId) (x y z u : Value) (e : Ending) (w' : World) : Prop :=
  ∃ a b c d, e = .returned (.func (.func f) #[] #[.pointer (some ⟨a, 0, none⟩), .pointer (some ⟨b, 0, none⟩), .pointer (some ⟨c, 0, none⟩), .pointer (some ⟨d, 0, none⟩)]) ∧ Kept1 w' a x ∧ Kept1 w' b y ∧ Kept1 w' c z ∧ Kept1 w' d u ∧ Below w.heap.size w w'

theorem below_a {w w1 : World} (hb : Below w.heap.size w w1) (o : Obj) : Below w.heap.size w (w1.alloc o) := hb.alloc hb.size o
theorem Kept1.a {w : World} {b : Nat} {v : Value} (h : Kept1 w b v) (o : Obj) : Kept1 (w.alloc o) b v := h.below ((Below.refl _ _).alloc (Nat.le_refl _) o)
theorem kept1_n {w : World} {v : Value} {t : TypeId} {b : Nat} (hb : b = w.heap.size) : Kept1 (w.alloc (.cells #[v] t)) b v := by subst hb; exact kept1_new w v t

theorem alloc_size (w : World) (o : Obj) : w.heap.size + 1 = (w.alloc o).heap.size := (Array.size_push (xs := w.heap) o).symm
theorem alloc_size2 (w : World) (o o' : Obj) : w.heap.size + 1 + 1 = ((w.alloc o).alloc o').heap.size := by rw [← alloc_size, ← alloc_size]
theorem alloc_size3 (w : World) (o o' o2 : Obj) : w.heap.size + 1 + 1 + 1 = (((w.alloc o).alloc o').alloc o2).heap.size := by rw [← alloc_size, ← alloc_size, ← alloc_size]
theorem made2_of (w : World) (f : FuncId) (x y : Value) (t u : TypeId) : Made2 w f x y (.returned (.func (.func f) #[] #[.pointer (some ⟨w.heap.size, 0, none⟩), .pointer (some ⟨w.heap.size + 1, 0, none⟩)])) ((w.alloc (.cells #[x] t)).alloc (.cells #[y] u)) :=
  ⟨_, _, rfl, (kept1_new w x t).a _, kept1_n (alloc_size _ _), below_a (below_a (Below.refl _ _) _) _⟩
theorem made3_of (w : World) (f : FuncId) (x y z : Value) (t u s : TypeId) : Made3 w f x y z (.returned (.func (.func f) #[] #[.pointer (some ⟨w.heap.size, 0, none⟩), .pointer (some ⟨w.heap.size + 1, 0, none⟩), .pointer (some ⟨w.heap.size + 1 + 1, 0, none⟩)])) (((w.alloc (.cells #[x] t)).alloc (.cells #[y] u)).alloc (.cells #[z] s)) :=
  ⟨_, _, _, rfl, ((kept1_new w x t).a _).a _, (kept1_n (alloc_size _ _)).a _, kept1_n (alloc_size2 _ _ _), below_a (below_a (below_a (Below.refl _ _) _) _) _⟩
theorem made4_of (w : World) (f : FuncId) (x y z v : Value) (t u s r : TypeId) : Made4 w f x y z v (.returned (.func (.func f) #[] #[.pointer (some ⟨w.heap.size, 0, none⟩), .pointer (some ⟨w.heap.size + 1, 0, none⟩), .pointer (some ⟨w.heap.size + 1 + 1 + 1, 0, none⟩), .pointer (some ⟨w.heap.size + 1 + 1, 0, none⟩)])) ((((w.alloc (.cells #[x] t)).alloc (.cells #[y] u)).alloc (.cells #[v] s)).alloc (.cells #[z] r)) :=
  ⟨_, _, _, _, rfl, (((kept1_new w x t).a _).a _).a _, ((kept1_n (alloc_size _ _)).a _).a _, kept1_n (alloc_size3 _ _ _ _), (kept1_n (alloc_size2 _ _ _)).a _, below_a (below_a (below_a (below_a (Below.refl _ _) _) _) _) _⟩

theorem leads_makes (p : Option Addr) (s : ByteArray) (w : World) : Calls Tryz.prog 52 #[.pointer p, .string s] w fun e w' => Made2 w 112 (.pointer p) (.string s) e w' := by
  have hmf : ∀ (fn : Fn) (first cap : Array Value) (w : World), (Instr.makeFunc fn first cap).run Tryz.prog w = .ok (.func fn first cap) w := fun _ _ _ _ => rfl
  go_enter Tryz.func52, Tryz.ntmps52
  go_wp2
  go_ret
  exact made2_of _ _ _ _ _ _
theorem isFree_makes (p : Option Addr) (s : ByteArray) (w : World) : Calls Tryz.prog 47 #[.pointer p, .string s] w fun e w' => Made2 w 111 (.pointer p) (.string s) e w' := by
  have hmf : ∀ (fn : Fn) (first cap : Array Value) (w : World), (Instr.makeFunc fn first cap).run Tryz.prog w = .ok (.func fn first cap) w := fun _ _ _ _ => rfl
  go_enter Tryz.func47, Tryz.ntmps47
  go_wp2
  go_ret
  exact made2_of _ _ _ _ _ _
theorem hasSpace_makes (p : Option Addr) (s : ByteArray) (n : Int) (w : World) : Calls Tryz.prog 54 #[.pointer p, .string s, .int .i64 n] w fun e w' => Made3 w 113 (.pointer p) (.string s) (.int .i64 n) e w' := by
  have hmf : ∀ (fn : Fn) (first cap : Array Value) (w : World), (Instr.makeFunc fn first cap).run Tryz.prog w = .ok (.func fn first cap) w := fun _ _ _ _ => rfl
  go_enter Tryz.func54, Tryz.ntmps54
  go_wp2
  go_ret
  exact made3_of _ _ _ _ _ _ _ _
theorem reaches_makes (p : Option Addr) (s : ByteArray) (a n : Int) (w : World) : Calls Tryz.prog 55 #[.pointer p, .string s, .int .i64 a, .int .i64 n] w fun e w' => Made4 w 114 (.pointer p) (.string s) (.int .i64 n) (.int .i64 a) e w' := by
  have hmf : ∀ (fn : Fn) (first cap : Array Value) (w : World), (Instr.makeFunc fn first cap).run Tryz.prog w = .ok (.func fn first cap) w := fun _ _ _ _ => rfl
  go_enter Tryz.func55, Tryz.ntmps55
  go_wp2
  go_ret
  exact made4_of _ _ _ _ _ _ _ _ _ _

/-- a disk value that no call made -/
def NoDisk (w : World) (d : Value) : Prop := d = .pointer none ∨ ∃ b, d = .pointer (some ⟨b, 0, none⟩) ∧ b < w.heap.size ∧ w.cell? ⟨b, 1, none⟩ = some (.map none)
theorem NoDisk.below {w w' : World} {d : Value} (h : NoDisk w d) (hb : Below w.heap.size w w') : NoDisk w' d := by
  rcases h with h | ⟨b, h1, h2, h3⟩
  · exact .inl h
  · exact .inr ⟨b, h1, Nat.lt_of_lt_of_le h2 hb.size, by rw [hb.cell h2]; exact h3⟩
theorem NoDisk.exists {w : World} {d : Value} (h : NoDisk w d) : Calls Tryz.prog 44 #[d] w fun x w' => x = .returned (er 2) ∧ w' = w := by
  rcases h with rfl | ⟨b, rfl, _, h3⟩
  · exact exists_nil w
  · exact exists_not b w h3
theorem NoDisk.gives {w : World} {d : Value} (h : NoDisk w d) : Gives w (.func (.func 44) #[d] #[]) 2 :=
  ⟨_, _, _, rfl, ent_of Tryz.func44 (by kernel_rfl) rfl, fun w' hb => (h.below hb).exists.mono fun x w2 ⟨h1, h2⟩ => ⟨h1, by rw [h2]; exact Below.refl _ _⟩⟩
theorem Gives.below {w w' : World} {v : Value} {e : Int} (h : Gives w v e) (hb : Below w.heap.size w w') : Gives w' v e := by
  obtain ⟨f, first, cap, rfl, he, hc⟩ := h
  exact ⟨f, first, cap, rfl, he, fun w2 hb2 => hc w2 (hb.trans (hb2.mono hb.size))⟩

/-- several checks, of which the first fails -/
theorem firstError_one {w w0 : World} {v : Value} {vs : List Value} {e : Int} (A : Option Addr) (n c : Nat) (hl : Lies w w.heap.size 1 A n (v :: vs)) (hg : Gives w v e) (h0 : e ≠ 0) (hn : n ≤ 1000) :
    Calls Tryz.prog 43 #[.slice A n c] w fun x w' => x = .returned (er e) ∧ Below w.heap.size w w' := by
  have hlen := hl.len
  refine (firstError_any A n c (v :: vs) (e :: vs.map fun _ => 0) w hl (by simpa using hlen) hn ?_).mono fun x w' h => ?_
  · intro i v' e' hv he hz
    cases i with
    | zero =>
      injection hv with hv; injection he with he
      subst hv he; exact hg
    | succ i => exact absurd (hz 0 (by omega) e rfl) h0
  · refine ⟨h.1.trans ?_, h.2⟩
    show Ending.returned (er (if e = 0 then _ else e)) = _
    rw [if_neg h0]
end Go.Proofs.YtbpdonnneleeeaaGreatDoor

