/-
  Contracts of package files' checks that need no disk: unless, firstError, exists, arguments, isName.
-/
import Derived.Test.YtopcnlophmplgaaBase
import Derived.LoopTactic
namespace Go.Proofs.Ytopcnlophmplgaa
open Go.RowKit
set_option maxRecDepth 100000
set_option linter.unusedVariables false

/-- an error, as a value -/
abbrev er (e : Int) : Value := .int .i64 e

theorem unless_any (ok : Bool) (e : Int) (w : World) : Calls Try.prog 69 #[.bool ok, er e] w fun x w' => x = .returned (er (if ok then 0 else e)) ∧ w' = w := by
  cases ok
  · go_enter Try.func69, Try.ntmps69
    go_wp2
    go_ret
    exact ⟨rfl, rfl⟩
  · go_enter Try.func69, Try.ntmps69
    go_wp2
    go_ret
    exact ⟨rfl, rfl⟩

/-- a function that has a body is entered -/
def Ent (f : FuncId) : Prop := ∀ (args : Array Value) (w : World), (callFunc f args).run Try.prog w = .ok (.enter f args) w
theorem ent_of {f : FuncId} {fn : Func} {c : Code} (hf : Try.prog.funcs[f]? = some fn) (hname : (fn.name == "runtime.NumGoroutine") = false) (hb : fn.body = some c) : Ent f := fun args w => by
  have h1 : fn.name ≠ "runtime.NumGoroutine" := by simpa using hname
  simp [callFunc, hf, h1, hb]
/-- called with nothing, in any later world, the function value answers the error e, and writes nothing that was there -/
def Gives (w : World) (v : Value) (e : Int) : Prop :=
  ∃ f first cap, v = .func (.func f) first cap ∧ Ent f ∧ ∀ w', Below w.heap.size w w' → Calls Try.prog f (first ++ cap) w' fun x w2 => x = .returned (er e) ∧ Below w'.heap.size w' w2

/-- the first of them that is one -/
def firstErr : List Int → Int
  | [] => 0
  | e :: l => if e = 0 then firstErr l else e

theorem firstErr_zero (es : List Int) (n : Nat) (h : ∀ j, j < n → ∀ e, es[j]? = some e → e = 0) : firstErr es = firstErr (es.drop n) := by
  induction n generalizing es with
  | zero => rfl
  | succ n ih =>
    cases es with
    | nil => rfl
    | cons a l =>
      have h0 : a = 0 := h 0 (by omega) a rfl
      subst h0
      show firstErr l = _
      exact ih l fun j hj e he => h (j + 1) (by omega) e he

def FEr (w : World) (n : Nat) (es : List Int) (i : Value) (wr : World) : Prop :=
  ∃ k : Nat, k ≤ n ∧ i = .int .i64 (k : Int) ∧ (∀ j, j < k → ∀ e, es[j]? = some e → e = 0) ∧ Below w.heap.size w wr

set_option maxHeartbeats 1000000 in
theorem firstError_any (A : Option Addr) (n c : Nat) (vs : List Value) (es : List Int) (w : World) (hl : Lies w w.heap.size 1 A n vs) (he : es.length = n) (hn : n ≤ 1000)
    (hg : ∀ (i : Nat) v e, vs[i]? = some v → es[i]? = some e → (∀ j : Nat, j < i → ∀ e', es[j]? = some e' → e' = 0) → Gives w v e) :
    Calls Try.prog 39 #[.slice A n c] w fun x w' => x = .returned (er (firstErr es)) ∧ Below w.heap.size w w' := by
  have HL := Lib.hid hl; have HG := Lib.hid hg; have HE := Lib.hid he
  clear hl hg he
  go_enter Try.func39, Try.ntmps39
  go_wp2
  go_loopw [8] (fun i wr => FEr w n es i wr) (fun i _ => n - (intOf i).toNat)
  case atStart => exact ⟨0, Nat.zero_le _, rfl, fun j hj => by omega, Below.refl _ _⟩
  case round =>
    obtain ⟨k, hk, rfl, hz, hb⟩ := hrel
    have HZ := Lib.hid hz
    clear hz
    by_cases hlt : k < n
    · obtain ⟨b, o, v, rfl, hbB, hu, hcell⟩ := HL.out.at_ hlt
      obtain ⟨e, hee⟩ : ∃ e, es[k]? = some e := ⟨es[k]'(by have := HE.out; omega), List.getElem?_eq_getElem _⟩
      obtain ⟨f, first, cap, rfl, hent, hcall⟩ := HG.out k v e hu hee HZ.out
      have hcell' : wr.cell? ⟨b, o + k, none⟩ = some (.func (.func f) first cap) := by rw [hb.cell (by simpa using hbB)]; exact hcell
      have HB := Lib.hid hb; have HC := Lib.hid hcall; have HT := Lib.hid hent; have HEE := Lib.hid hee
      clear hu hcell hcall hee hb hent
      go_wp2_with fail
      rw [HT.out]
      rw [Oper.upon_enter]
      refine (HC.out wr HB.out).mono ?_
      rintro x w2 ⟨rfl, hb2⟩
      have HB2 := Lib.hid (HB.out.trans (hb2.mono HB.out.size))
      clear HB hb2 hcell'
      by_cases h0 : e = 0
      · have HZ2 : Hid (∀ j, j < k + 1 → ∀ e', es[j]? = some e' → e' = 0) := fun j hj e' he' => by
          by_cases hj2 : j < k
          · exact HZ.out j hj2 e' he'
          · obtain rfl : j = k := by omega
            rw [HEE.out] at he'
            injection he' with he'
            rw [← he', h0]
        have h1 : (e != 0) = false := by simp [h0]
        go_wp2
        go_roundw
        case rel => exact ⟨k + 1, hlt, by go_num, HZ2.out, HB2.out⟩
        case measure => simp [intOf]; omega
      · have HF : Hid (firstErr es = e) := by
          show firstErr es = e
          rw [firstErr_zero es k HZ.out]
          obtain ⟨hk2, hk3⟩ := List.getElem?_eq_some_iff.1 HEE.out
          rw [List.drop_eq_getElem_cons hk2, hk3]
          show (if e = 0 then _ else e) = e
          rw [if_neg h0]
        have h1 : (e != 0) = true := by simp [h0]
        go_wp2
        go_ret
        exact ⟨by rw [HF.out]; rfl, HB2.out⟩
    · obtain rfl : n = k := by omega
      go_wp2
      go_ret
      exact ⟨by rw [firstErr_zero es n HZ.out, List.drop_of_length_le (by rw [HE.out]; exact Nat.le_refl _)]; rfl, hb⟩

theorem exists_nil (w : World) : Calls Try.prog 40 #[.pointer none] w fun x w' => x = .returned (er 2) ∧ w' = w := by
  go_enter Try.func40, Try.ntmps40
  go_wp2_with (go_at_call 69; refine (unless_any _ _ _).mono ?_; rintro x w' ⟨rfl, rfl⟩)
  go_ret
  exact ⟨rfl, rfl⟩
theorem exists_ok (b m : Nat) (w : World) (hc : w.cell? ⟨b, 1, none⟩ = some (.map (some m))) :
    Calls Try.prog 40 #[.pointer (some ⟨b, 0, none⟩)] w fun x w' => x = .returned (er 0) ∧ w' = w := by
  have qm : (binOp .neq 93 (.map (some m)) (.map none)).run Try.prog w = .ok (.bool true) w := run_neq_map_nil w _ _ _ _ Try.underlying93
  go_enter Try.func40, Try.ntmps40
  go_wp2_with (go_at_call 69; refine (unless_any _ _ _).mono ?_; rintro x w' ⟨rfl, rfl⟩)
  go_ret
  exact ⟨rfl, rfl⟩
theorem exists_not (b : Nat) (w : World) (hc : w.cell? ⟨b, 1, none⟩ = some (.map none)) :
    Calls Try.prog 40 #[.pointer (some ⟨b, 0, none⟩)] w fun x w' => x = .returned (er 2) ∧ w' = w := by
  have qm : (binOp .neq 93 (.map none) (.map none)).run Try.prog w = .ok (.bool false) w := run_neq_map_nil w _ _ _ _ Try.underlying93
  go_enter Try.func40, Try.ntmps40
  go_wp2_with (go_at_call 69; refine (unless_any _ _ _).mono ?_; rintro x w' ⟨rfl, rfl⟩)
  go_ret
  exact ⟨rfl, rfl⟩

/-- a character that a name may have -/
def okByte (c : UInt8) : Bool := decide (97 ≤ c.toNat ∧ c.toNat ≤ 122) || decide (48 ≤ c.toNat ∧ c.toNat ≤ 57) || decide (c.toNat = 45) || decide (c.toNat = 46)
/-- may this be a name? -/
def okName (l : List UInt8) : Bool := decide (1 ≤ l.length ∧ l.length ≤ 16) && l.all okByte

set_option maxHeartbeats 1000000 in
theorem nameByte_any (c : UInt8) (w : World) : Calls Try.prog 71 #[bv c] w fun x w' => x = .returned (.bool (okByte c)) ∧ w' = w := by
  have hc : c.toNat < 256 := c.toNat_lt
  unfold okByte bv
  generalize c.toNat = n at *
  by_cases h1 : 97 ≤ n <;> by_cases h2 : n ≤ 122 <;> by_cases h3 : 48 ≤ n <;> by_cases h4 : n ≤ 57 <;> by_cases h5 : n = 45 <;> by_cases h6 : n = 46 <;> first | (exfalso; omega) | skip
  all_goals
    go_enter Try.func71, Try.ntmps71
    go_wp2
    go_ret
    simp [*] <;> omega

def NRel (w : World) (l : List UInt8) (i : Value) (wr : World) : Prop :=
  ∃ k : Nat, k ≤ l.length ∧ i = .int .i64 (k : Int) ∧ (∀ j, j < k → ∀ c, l[j]? = some c → okByte c = true) ∧ wr = w

theorem name_bad {l : List UInt8} {k : Nat} {c : UInt8} (h : l[k]? = some c) (hc : okByte c = false) : l.all okByte = false := by
  rw [List.all_eq_false]
  exact ⟨c, List.mem_of_getElem? h, by simp [hc]⟩
theorem name_good {l : List UInt8} (h : ∀ j, j < l.length → ∀ c, l[j]? = some c → okByte c = true) : l.all okByte = true := by
  rw [List.all_eq_true]
  intro c hc
  obtain ⟨j, hj, he⟩ := List.getElem_of_mem hc
  exact h j hj c (by rw [List.getElem?_eq_getElem hj, he])

set_option maxHeartbeats 1000000 in
theorem isName_any (s : ByteArray) (w : World) (hs : s.size ≤ 140737488355328) : Calls Try.prog 42 #[.string s] w fun x w' => x = .returned (.bool (okName s.data.toList)) ∧ w' = w := by
  obtain ⟨l, hl⟩ : ∃ l, s.data.toList = l := ⟨_, rfl⟩
  have hsz : s.size = l.length := by rw [← hl, Array.length_toList]; rfl
  rw [hl]
  by_cases h0 : l.length < 1
  · have HR : Hid (okName l = false) := by unfold Hid okName; rw [decide_eq_false (by omega)]; rfl
    have h0' : ((s.size : Nat) : Int) < 1 := by omega
    go_enter Try.func42, Try.ntmps42
    go_wp2
    go_ret
    exact ⟨by rw [HR.out]; rfl, rfl⟩
  · by_cases h1 : 16 < l.length
    · have HR : Hid (okName l = false) := by unfold Hid okName; rw [decide_eq_false (by omega)]; rfl
      have h0' : ¬ ((s.size : Nat) : Int) < 1 := by omega
      have h1' : (16 : Int) < ((s.size : Nat) : Int) := by omega
      go_enter Try.func42, Try.ntmps42
      go_wp2
      go_ret
      exact ⟨by rw [HR.out]; rfl, rfl⟩
    · have HN : Hid (okName l = l.all okByte) := by unfold Hid okName; rw [decide_eq_true (by omega)]; simp
      have h0' : ¬ ((s.size : Nat) : Int) < 1 := by omega
      have h1' : ¬ (16 : Int) < ((s.size : Nat) : Int) := by omega
      have HSZ := Lib.hid hsz; have HL := Lib.hid hl
      clear hl
      obtain ⟨n, hn⟩ : ∃ n, s.size = n := ⟨_, rfl⟩
      rw [hn] at h0' h1' hsz
      have HSN := Lib.hid hn
      go_enter Try.func42, Try.ntmps42
      go_wp2
      go_loopw [14] (fun i wr => NRel w l i wr) (fun i _ => n - (intOf i).toNat)
      case atStart => exact ⟨0, Nat.zero_le _, rfl, fun j hj => by omega, rfl⟩
      case round =>
        obtain ⟨k, hk, rfl, hz, rfl⟩ := hrel
        have HZ := Lib.hid hz
        clear hz
        by_cases hlt : k < n
        · obtain ⟨c, hc⟩ : ∃ c, l[k]? = some c := ⟨l[k]'(by omega), List.getElem?_eq_getElem _⟩
          have HC := Lib.hid hc
          have hget : s.data[k]? = some c := by rw [← hc, ← HL.out]; simp
          have hks : k < s.size := by omega
          have hsk : s[k] = c := by
            have h := hget
            rw [Array.getElem?_eq_getElem (show k < s.data.size from hks)] at h
            injection h
          cases hok : okByte c
          · have HB : Hid (okName l = false) := by rw [HN.out]; exact name_bad hc hok
            have HO : Hid (okByte s[k] = false) := by rw [hsk]; exact hok
            clear hc hget hsk hok
            go_wp2_with (go_at_call 71; refine (nameByte_any _ _).mono ?_; rintro x w' ⟨rfl, rfl⟩; rw [HO.out])
            go_ret
            exact ⟨by rw [HB.out]; rfl, rfl⟩
          · have HO : Hid (okByte s[k] = true) := by rw [hsk]; exact hok
            have HZ2 : Hid (∀ j, j < k + 1 → ∀ c', l[j]? = some c' → okByte c' = true) := fun j hj c' hc' => by
              by_cases hj2 : j < k
              · exact HZ.out j hj2 c' hc'
              · obtain rfl : j = k := by omega
                rw [hc] at hc'
                injection hc' with hc'
                rw [← hc', hok]
            clear hc hget hsk hok
            go_wp2_with (go_at_call 71; refine (nameByte_any _ _).mono ?_; rintro x w' ⟨rfl, rfl⟩; rw [HO.out])
            go_roundw
            case rel => exact ⟨k + 1, by omega, by go_num, HZ2.out, rfl⟩
            case measure => simp [intOf]; omega
        · obtain rfl : n = k := by omega
          go_wp2
          go_ret
          exact ⟨by rw [HN.out, name_good (fun j hj => HZ.out j (by omega))]; rfl, rfl⟩
end Go.Proofs.Ytopcnlophmplgaa
