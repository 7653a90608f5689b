/-
  Plain mathematics: entries in blocks, as bytes; what may be a block; what is read of any bytes.
  Contracts of package blocks: visit, of entries, of numbers, of bytes; the function that it calls may write what is its own.
  The world behind the box of an entry, of a mark.
  '[]byte(s)' of any string.
  Contracts of package blocks: isValid, makeBlock; commonPrefix.
  Contracts of package blocks: makeBlock; commonPrefix.
  Literal lists of entries.
-/
import Derived.Test.YtghfhojpnbpjoaaPlTx
import Derived.Test.YtghfhojpnbpjoaaEnX
import Derived.LoopTactic
import Derived.Deep.QuietTactic
import Derived.BigQuiet
import Derived.KernelRfl
import Derived.Test.YtghfhojpnbpjoaaMem
import Derived.Laws.IdiomStrings
import Derived.Deep.Cut
import Derived.Deep.RegionHeld3
namespace Go.Proofs.Ytghfhojpnbpjoaa
open Go.RowKit
set_option linter.unusedVariables false

/-! two keys -/
/-- with how many bytes two lists begin alike -/
def cpl : List UInt8 → List UInt8 → Nat
  | a :: l, b :: m => if a = b then cpl l m + 1 else 0
  | _, _ => 0
theorem cpl_nil (l : List UInt8) : cpl l [] = 0 := by cases l <;> rfl
theorem cpl_le : ∀ l m : List UInt8, cpl l m ≤ l.length ∧ cpl l m ≤ m.length
  | [], m => by simp [cpl]
  | a :: l, [] => by simp [cpl]
  | a :: l, b :: m => by
    have := cpl_le l m
    unfold cpl
    split
    · simp; omega
    · simp
theorem cpl_take : ∀ l m : List UInt8, l.take (cpl l m) = m.take (cpl l m)
  | [], m => by simp [cpl]
  | a :: l, [] => by simp [cpl]
  | a :: l, b :: m => by
    unfold cpl
    split
    · rename_i h; subst h; rw [List.take_succ_cons, List.take_succ_cons, cpl_take l m]
    · simp
theorem cpl_eq : ∀ (a b : List UInt8) (k : Nat), k ≤ a.length → (∀ j, j < k → j < b.length ∧ a[j]? = b[j]?) → (k < a.length → ¬ (k < b.length ∧ a[k]? = b[k]?)) → cpl a b = k
  | [], b, k, h1, _, _ => by simp at h1; subst h1; simp [cpl]
  | a :: l, [], k, h1, h2, h3 => by
    rcases Nat.eq_zero_or_pos k with h | h
    · subst h; rfl
    · have := (h2 0 h).1; simp at this
  | a :: l, b :: m, k, h1, h2, h3 => by
    unfold cpl
    cases k with
    | zero =>
      have := h3 (by simp)
      rw [if_neg]
      intro e; exact this ⟨by simp, by simp [e]⟩
    | succ k =>
      have h0 := (h2 0 (by omega)).2
      simp at h0
      rw [if_pos h0, cpl_eq l m k (by simpa using h1) (fun j hj => by have := h2 (j + 1) (by omega); simpa using this) (fun hk => by have := h3 (by simpa using hk); simpa using this)]
def cpK (a b : ByteArray) : Nat := cpl a.data.toList b.data.toList
theorem cpK_le (a b : ByteArray) : cpK a b ≤ a.size ∧ cpK a b ≤ b.size := by
  have := cpl_le a.data.toList b.data.toList
  rw [slen, slen] at this; exact this
theorem cpK_empty (a : ByteArray) : cpK a ByteArray.empty = 0 := cpl_nil _
/-- a key without its first bytes -/
def cutK (k : ByteArray) (n : Nat) : ByteArray := k.extract n k.size
theorem cutK_data (k : ByteArray) (n : Nat) : (cutK k n).data.toList = k.data.toList.drop n := by
  unfold cutK
  rw [Lib.extract_data, List.take_of_length_le (by rw [List.length_drop, slen]; omega)]
theorem cutK_size (k : ByteArray) (n : Nat) : (cutK k n).size = k.size - n := by unfold cutK; rw [ByteArray.size_extract]; omega
theorem cutK_zero (k : ByteArray) : cutK k 0 = k := txt_ext (by rw [cutK_data, List.drop_zero])
theorem joinK (a p : ByteArray) : p.extract 0 (cpK a p) ++ cutK a (cpK a p) = a := by
  apply txt_ext
  have h : (p.extract 0 (cpK a p) ++ cutK a (cpK a p)).data.toList = (p.extract 0 (cpK a p)).data.toList ++ (cutK a (cpK a p)).data.toList := by simp
  rw [h, Lib.extract_data, cutK_data, List.drop_zero, Nat.sub_zero]
  unfold cpK
  rw [← cpl_take, List.take_append_drop]

/-! the bytes -/
/-- an entry without its key's first bytes -/
def restE (n : Nat) (x : En) : En := ⟨⟨cutK x.m.k n, x.m.s, x.m.g⟩, x.x⟩
def rowE (p : ByteArray) (x : En) : List UInt8 := Vi.enc (cpK x.m.k p) ++ encE (restE (cpK x.m.k p) x)
/-- what the key of the entry at place i is held against -/
def preK (i : Nat) (p : ByteArray) : ByteArray := if i % 4 = 0 then ByteArray.empty else p
def bodyG : Nat → ByteArray → List En → List UInt8
  | _, _, [] => []
  | i, p, x :: S => rowE (preK i p) x ++ bodyG (i + 1) x.m.k S
/-- the last key -/
def lastK : ByteArray → List En → ByteArray
  | p, [] => p
  | _, x :: S => lastK x.m.k S
theorem lastK_snoc (x : En) : ∀ (p : ByteArray) (S : List En), lastK p (S ++ [x]) = x.m.k
  | _, [] => rfl
  | _, y :: S => lastK_snoc x y.m.k S
theorem bodyG_app : ∀ (S T : List En) (i : Nat) (p : ByteArray), bodyG i p (S ++ T) = bodyG i p S ++ bodyG (i + S.length) (lastK p S) T
  | [], T, i, p => rfl
  | x :: S, T, i, p => by
    rw [List.cons_append, bodyG, bodyG, bodyG_app S T, List.append_assoc, List.length_cons, lastK]
    rw [show i + 1 + S.length = i + (S.length + 1) from by omega]
theorem bodyG_fresh (p q : ByteArray) (i : Nat) (h : i % 4 = 0) (S : List En) : bodyG i p S = bodyG i q S := by
  cases S with
  | nil => rfl
  | cons x S => rw [bodyG, bodyG]; unfold preK; rw [if_pos h, if_pos h]
theorem bodyG_four (i j : Nat) (h : i % 4 = j % 4) : ∀ (S : List En) (p : ByteArray), bodyG i p S = bodyG j p S := by
  intro S
  induction S generalizing i j with
  | nil => intro p; rfl
  | cons x S ih =>
    intro p
    rw [bodyG, bodyG, ih (i + 1) (j + 1) (by omega)]
    unfold preK; rw [h]
/-- where every fourth entry begins -/
def offG : Nat → Nat → ByteArray → List En → List Nat
  | _, _, _, [] => []
  | i, n, p, x :: S => (if i % 4 = 0 then [n] else []) ++ offG (i + 1) (n + (rowE (preK i p) x).length) x.m.k S
theorem offG_app : ∀ (S T : List En) (i n : Nat) (p : ByteArray), offG i n p (S ++ T) = offG i n p S ++ offG (i + S.length) (n + (bodyG i p S).length) (lastK p S) T
  | [], T, i, n, p => rfl
  | x :: S, T, i, n, p => by
    rw [List.cons_append, offG, offG, offG_app S T, List.append_assoc, List.length_cons, lastK, bodyG, List.length_append]
    rw [show i + 1 + S.length = i + (S.length + 1) from by omega, Nat.add_assoc n]
theorem offG_len : ∀ (S : List En) (i n : Nat) (p : ByteArray), (offG i n p S).length + (i + 3) / 4 = (i + S.length + 3) / 4
  | [], i, n, p => by simp [offG]
  | x :: S, i, n, p => by
    have := offG_len S (i + 1) (n + (rowE (preK i p) x).length) x.m.k
    rw [offG, List.length_append, List.length_cons]
    by_cases h : i % 4 = 0
    · rw [if_pos h, List.length_singleton]; omega
    · rw [if_neg h, List.length_nil]; omega
theorem offG_le : ∀ (S : List En) (i n : Nat) (p : ByteArray), ∀ o ∈ offG i n p S, o ≤ n + (bodyG i p S).length
  | [], i, n, p, o, ho => by simp [offG] at ho
  | x :: S, i, n, p, o, ho => by
    rw [offG, List.mem_append] at ho
    rw [bodyG, List.length_append]
    rcases ho with ho | ho
    · by_cases h : i % 4 = 0
      · rw [if_pos h] at ho; simp at ho; omega
      · rw [if_neg h] at ho; cases ho
    · have := offG_le S _ _ _ o ho; omega
/-- a number as two bytes, the higher one first -/
def two (n : Nat) : List UInt8 := [UInt8.ofNat (n / 256), UInt8.ofNat n]
def body (S : List En) : List UInt8 := bodyG 0 ByteArray.empty S
def places (S : List En) : List Nat := offG 0 0 ByteArray.empty S
def tailB (S : List En) : List UInt8 := (places S ++ [(places S).length]).flatMap two
/-- the bytes of a block -/
def encB (S : List En) : List UInt8 := body S ++ tailB S
theorem places_len (S : List En) : (places S).length = (S.length + 3) / 4 := by
  have := offG_len S 0 0 ByteArray.empty
  unfold places; simpa using this
theorem flat_two (l : List Nat) : (l.flatMap two).length = 2 * l.length := by
  induction l with
  | nil => rfl
  | cons a l ih => rw [List.flatMap_cons, List.length_append, ih, List.length_cons]; simp [two]; omega
theorem tailB_len (S : List En) : (tailB S).length = 2 * ((S.length + 3) / 4) + 2 := by
  unfold tailB; rw [flat_two, List.length_append, places_len, List.length_singleton]; omega
theorem rowE_len (p : ByteArray) (x : En) (hf : fineE x = true) : 4 ≤ (rowE p x).length ∧ (rowE p x).length ≤ 329 := by
  unfold rowE
  have h1 := Vi.enc_len (cpK x.m.k p)
  have h2 := Vi.enc_pos (cpK x.m.k p)
  have h3 := encE_len (restE (cpK x.m.k p) x)
  have h4 : fineE x = true := hf
  unfold fineE chk at h4
  simp only [Bool.and_eq_true, decide_eq_true_eq] at h4
  have h5 := cutK_size x.m.k (cpK x.m.k p)
  rw [List.length_append]
  unfold restE at h3 ⊢
  simp only at h3
  omega
theorem bodyG_len : ∀ (S : List En) (i : Nat) (p : ByteArray), (∀ e ∈ S, fineE e = true) → (bodyG i p S).length ≤ 329 * S.length
  | [], i, p, _ => by simp [bodyG]
  | x :: S, i, p, h => by
    have h1 := rowE_len (preK i p) x (h x (by simp))
    have h2 := bodyG_len S (i + 1) x.m.k (fun e he => h e (by simp [he]))
    rw [bodyG, List.length_append, List.length_cons]; omega

/-! what may be a block -/
def okB (S : List En) : Bool := decide (1 ≤ S.length) && (decide (S.length ≤ 64) && (S.all fineE && decide (S.Pairwise fun a b => cmpM a.m b.m < 0)))
theorem okB_iff (S : List En) : okB S = true ↔ 1 ≤ S.length ∧ S.length ≤ 64 ∧ (∀ e ∈ S, fineE e = true) ∧ Rise S := by
  unfold okB Rise
  simp only [Bool.and_eq_true, decide_eq_true_eq, List.all_eq_true]
/-- may the entry at a place be, behind the one ahead? -/
def goodAt (S : List En) (j : Nat) : Bool :=
  match S[j]? with
  | none => false
  | some x => fineE x && (decide (j = 0) || match S[j - 1]? with | none => false | some y => decide (cmpM y.m x.m < 0))
theorem goodAt_some {S : List En} {j : Nat} {x : En} (h : S[j]? = some x) : goodAt S j = (fineE x && (decide (j = 0) || match S[j - 1]? with | none => false | some y => decide (cmpM y.m x.m < 0))) := by
  unfold goodAt; rw [h]
theorem good_all (S : List En) : (∀ j, j < S.length → goodAt S j = true) ↔ (∀ e ∈ S, fineE e = true) ∧ Rise S := by
  constructor
  · intro h
    have hf : ∀ e ∈ S, fineE e = true := fun e he => by
      obtain ⟨j, hj⟩ := List.getElem?_of_mem he
      have := h j (List.getElem?_eq_some_iff.1 hj).1
      rw [goodAt_some hj] at this
      simp only [Bool.and_eq_true] at this
      exact this.1
    refine ⟨hf, ?_⟩
    have hn : ∀ j, j + 1 < S.length → ∀ a b, S[j]? = some a → S[j + 1]? = some b → cmpM a.m b.m < 0 := fun j hj a b ha hb => by
      have := h (j + 1) hj
      rw [goodAt_some hb] at this
      simp only [Bool.and_eq_true, Nat.add_sub_cancel, ha, Bool.or_eq_true, decide_eq_true_eq] at this
      rcases this.2 with q | q
      · omega
      · exact q
    unfold Rise
    rw [List.pairwise_iff_getElem]
    have hd : ∀ d i (hi : i < S.length) (hj : i + d + 1 < S.length), cmpM S[i].m S[i + d + 1].m < 0 := by
      intro d
      induction d with
      | zero => intro i hi hj; exact hn i hj _ _ (List.getElem?_eq_getElem hi) (List.getElem?_eq_getElem hj)
      | succ d ih =>
        intro i hi hj
        exact cmp_trans (ih i hi (by omega)) (hn (i + d + 1) hj _ _ (List.getElem?_eq_getElem (by omega)) (List.getElem?_eq_getElem hj))
    intro i j hi hj hij
    obtain ⟨d, rfl⟩ : ∃ d, j = i + d + 1 := ⟨j - i - 1, by omega⟩
    exact hd d i hi hj
  · rintro ⟨hf, hr⟩ j hj
    rw [goodAt_some (List.getElem?_eq_getElem hj), hf _ (List.getElem_mem hj)]
    rcases Nat.eq_zero_or_pos j with h | h
    · subst h; rfl
    · rw [List.getElem?_eq_getElem (show j - 1 < S.length by omega)]
      have := hr.ne (i := j - 1) (j := j) (by omega) (List.getElem?_eq_getElem (by omega)) (List.getElem?_eq_getElem hj)
      simp only [this, decide_true, Bool.or_true, Bool.and_true]
theorem okB_good (S : List En) (h1 : 1 ≤ S.length) (h2 : S.length ≤ 64) : okB S = true ↔ ∀ j, j < S.length → goodAt S j = true := by
  rw [okB_iff, good_all]
  exact ⟨fun h => h.2.2, fun h => ⟨h1, h2, h⟩⟩
theorem encB_len (S : List En) (h : okB S = true) : 8 ≤ (encB S).length ∧ (encB S).length ≤ 22000 := by
  obtain ⟨h1, h2, h3, _⟩ := (okB_iff S).1 h
  have q := bodyG_len S 0 ByteArray.empty h3
  have t := tailB_len S
  unfold encB body
  rw [List.length_append]
  refine ⟨?_, by omega⟩
  cases S with
  | nil => simp at h1
  | cons x S =>
    have := rowE_len (preK 0 ByteArray.empty) x (h3 x (by simp))
    rw [bodyG, List.length_append]; rw [List.length_cons] at t; omega
end Go.Proofs.Ytghfhojpnbpjoaa

namespace Go.Proofs.Ytghfhojpnbpjoaa
open Go.RowKit
set_option linter.unusedVariables false
set_option maxRecDepth 100000

/-- a function that has a body is entered -/
def Enters (f : FuncId) : Prop := ∀ (args : Array Value) (w : World), (callFunc f args).run Try.prog w = .ok (.enter f args) w
theorem enters_of {f : FuncId} {fn : Func} {c : Code} (hf : Try.prog.funcs[f]? = some fn) (hname : (fn.name == "runtime.NumGoroutine") = false) (hb : fn.body = some c) : Enters f := fun args w => by
  have h1 : fn.name ≠ "runtime.NumGoroutine" := by simpa using hname
  simp [callFunc, hf, h1, hb]

/-- what is asked of the function that visit calls: vs are the elements as values; R k holds behind k of them, F behind one at which it ends -/
structure Vis (vs : List Value) (f : FuncId) (cap : Array Value) (g : Nat → Bool) (R : Nat → World → Prop) (F : World → Prop) : Prop where
  ent : Enters f
  go : ∀ k v W, vs[k]? = some v → R k W → Calls Try.prog f (#[.int .i64 (k : Int), v] ++ cap) W fun e W' => e = .returned (.bool (g k)) ∧ (g k = true → R (k + 1) W') ∧ (g k = false → F W')
  up : ∀ k W W', R k W → Below W.heap.size W W' → R k W'
/-- what visit answers: how many were visited -/
def VisP (n : Nat) (g : Nat → Bool) (R : Nat → World → Prop) (F : World → Prop) (e : Ending) (w' : World) : Prop :=
  ∃ k : Nat, k ≤ n ∧ e = .returned (.int .i64 (k : Int)) ∧ (∀ j, j < k → g j = true) ∧ (k = n ∧ R n w' ∨ k < n ∧ g k = false ∧ F w')
def VisL (n : Nat) (g : Nat → Bool) (R : Nat → World → Prop) (i : Value) (wr : World) : Prop :=
  ∃ k : Nat, k ≤ n ∧ i = .int .i64 (k : Int) ∧ (∀ j, j < k → g j = true) ∧ R k wr

set_option maxHeartbeats 1000000 in
theorem visitN_any (l : List Int) (A : Option Addr) (n c B : Nat) (f : FuncId) (cap : Array Value) (g : Nat → Bool) (R : Nat → World → Prop) (F : World → Prop) (w : World)
    (H : Vis (l.map fun i => Value.int .i64 i) f cap g R F) (hl : ∀ k W, R k W → Lies W B 1 A n (l.map fun i => Value.int .i64 i)) (hn : n ≤ 9223372036854775807) (h0 : R 0 w) :
    Calls Try.prog 60 #[.slice A n c, .func (.func f) #[] cap] w (VisP n g R F) := by
  have HH := Lib.hid H; have HL := Lib.hid hl; have H0 := Lib.hid h0
  clear H hl h0
  go_enter Try.func60, Try.ntmps60
  go_wp2
  go_loopw [9] (fun i wr => VisL n g R i wr) (fun i _ => n - (intOf i).toNat)
  case atStart => exact ⟨0, Nat.zero_le _, rfl, fun j hj => by omega, H0.out⟩
  case round =>
    obtain ⟨k, hk, rfl, hz, hr⟩ := hrel
    have HZ := Lib.hid hz; have HR := Lib.hid hr
    clear hz hr
    by_cases hlt : k < n
    · obtain ⟨b, o, v, rfl, hbB, hu, hcell⟩ := (HL.out k wr HR.out).at_ hlt
      have HE := Lib.hid HH.out.ent
      have hmap := hu
      rw [List.getElem?_map] at hmap
      obtain ⟨y, hy⟩ : ∃ y, l[k]? = some y := by
        cases hx : l[k]? with
        | none => rw [hx] at hmap; cases hmap
        | some y => exact ⟨y, rfl⟩
      rw [hy] at hmap
      injection hmap with hmap
      subst hmap
      have HC := Lib.hid (HH.out.go k _ wr hu HR.out)
      clear hu hy
      go_wp2_with fail
      rw [HE.out]
      rw [Oper.upon_enter]
      refine HC.out.mono ?_
      rintro e w2 ⟨rfl, h1, h2⟩
      have H1 := Lib.hid h1; have H2 := Lib.hid h2
      obtain ⟨x, hx⟩ : ∃ x, g k = x := ⟨_, rfl⟩
      have HX := Lib.hid hx
      rw [hx]
      clear h1 h2 hcell hx
      cases x
      · go_wp2
        go_ret
        exact ⟨k, hk, rfl, HZ.out, .inr ⟨hlt, HX.out, H2.out HX.out⟩⟩
      · have HZ2 : Hid (∀ j, j < k + 1 → g j = true) := fun j hj => by
          by_cases hj2 : j < k
          · exact HZ.out j hj2
          · obtain rfl : j = k := by omega
            exact HX.out
        go_wp2
        go_roundw
        case rel => exact ⟨k + 1, hlt, by go_num, HZ2.out, H1.out HX.out⟩
        case measure => simp [intOf]; omega
    · obtain rfl : n = k := by omega
      go_wp2
      go_ret
      exact ⟨n, Nat.le_refl _, rfl, HZ.out, .inl ⟨rfl, HR.out⟩⟩
set_option maxHeartbeats 1000000 in
theorem visitB_any (l : List UInt8) (A : Option Addr) (n c B : Nat) (f : FuncId) (cap : Array Value) (g : Nat → Bool) (R : Nat → World → Prop) (F : World → Prop) (w : World)
    (H : Vis (l.map bv) f cap g R F) (hl : ∀ k W, R k W → Lies W B 1 A n (l.map bv)) (hn : n ≤ 9223372036854775807) (h0 : R 0 w) :
    Calls Try.prog 93 #[.slice A n c, .func (.func f) #[] cap] w (VisP n g R F) := by
  have HH := Lib.hid H; have HL := Lib.hid hl; have H0 := Lib.hid h0
  clear H hl h0
  go_enter Try.func93, Try.ntmps93
  go_wp2
  go_loopw [9] (fun i wr => VisL n g R i wr) (fun i _ => n - (intOf i).toNat)
  case atStart => exact ⟨0, Nat.zero_le _, rfl, fun j hj => by omega, H0.out⟩
  case round =>
    obtain ⟨k, hk, rfl, hz, hr⟩ := hrel
    have HZ := Lib.hid hz; have HR := Lib.hid hr
    clear hz hr
    by_cases hlt : k < n
    · obtain ⟨b, o, v, rfl, hbB, hu, hcell⟩ := (HL.out k wr HR.out).at_ hlt
      have HE := Lib.hid HH.out.ent
      have hmap := hu
      rw [List.getElem?_map] at hmap
      obtain ⟨y, hy⟩ : ∃ y, l[k]? = some y := by
        cases hx : l[k]? with
        | none => rw [hx] at hmap; cases hmap
        | some y => exact ⟨y, rfl⟩
      rw [hy] at hmap
      injection hmap with hmap
      subst hmap
      have HC := Lib.hid (HH.out.go k _ wr hu HR.out)
      clear hu hy
      go_wp2_with fail
      rw [HE.out]
      rw [Oper.upon_enter]
      refine HC.out.mono ?_
      rintro e w2 ⟨rfl, h1, h2⟩
      have H1 := Lib.hid h1; have H2 := Lib.hid h2
      obtain ⟨x, hx⟩ : ∃ x, g k = x := ⟨_, rfl⟩
      have HX := Lib.hid hx
      rw [hx]
      clear h1 h2 hcell hx
      cases x
      · go_wp2
        go_ret
        exact ⟨k, hk, rfl, HZ.out, .inr ⟨hlt, HX.out, H2.out HX.out⟩⟩
      · have HZ2 : Hid (∀ j, j < k + 1 → g j = true) := fun j hj => by
          by_cases hj2 : j < k
          · exact HZ.out j hj2
          · obtain rfl : j = k := by omega
            exact HX.out
        go_wp2
        go_roundw
        case rel => exact ⟨k + 1, hlt, by go_num, HZ2.out, H1.out HX.out⟩
        case measure => simp [intOf]; omega
    · obtain rfl : n = k := by omega
      go_wp2
      go_ret
      exact ⟨n, Nat.le_refl _, rfl, HZ.out, .inl ⟨rfl, HR.out⟩⟩
set_option maxHeartbeats 2000000 in
theorem visitE_any (l : List En) (A : Option Addr) (n c B : Nat) (f : FuncId) (cap : Array Value) (g : Nat → Bool) (R : Nat → World → Prop) (F : World → Prop) (w : World)
    (H : Vis (l.map En.v) f cap g R F) (hl : ∀ k W, R k W → B ≤ W.heap.size ∧ Lies W B 4 A n (ecs l)) (hn : n ≤ 9223372036854775807) (h0 : R 0 w) :
    Calls Try.prog 55 #[.slice A n c, .func (.func f) #[] cap] w (VisP n g R F) := by
  have HH := Lib.hid H; have HL := Lib.hid hl; have H0 := Lib.hid h0
  clear H hl h0
  go_enter Try.func55, Try.ntmps55
  go_wp2
  go_loopw [9] (fun i wr => VisL n g R i wr) (fun i _ => n - (intOf i).toNat)
  case atStart => exact ⟨0, Nat.zero_le _, rfl, fun j hj => by omega, H0.out⟩
  case round =>
    obtain ⟨k, hk, rfl, hz, hr⟩ := hrel
    have HZ := Lib.hid hz; have HR := Lib.hid hr
    clear hz hr
    by_cases hlt : k < n
    · obtain ⟨b, o, x, rfl, hbB, hu, c0, c1, c2, c3⟩ := (HL.out k wr HR.out).2.entry hlt
      have hBw := (HL.out k wr HR.out).1
      have HE := Lib.hid HH.out.ent
      have hu2 : (l.map En.v)[k]? = some x.v := by rw [List.getElem?_map, hu]; rfl
      have HG := Lib.hid (fun W hW => HH.out.go k _ W hu2 hW)
      have HUP := Lib.hid (fun W' hb => HH.out.up k wr W' HR.out hb)
      unfold En.v at HG
      have HU := Lib.hid hu
      clear hu hu2
      have HC := Lib.hid (HG.out (wr.alloc (.cells #[.string x.m.k, .int .u64 (x.m.s : Int), .bool x.m.g, .string x.x] 40)) (HUP.out _ ((Below.refl _ _).alloc (Nat.le_refl _) _)))
      clear HG HU
      go_wp2_with fail
      rw [HE.out]
      rw [Oper.upon_enter]
      refine HC.out.mono ?_
      rintro e w2 ⟨rfl, h1, h2⟩
      have H1 := Lib.hid h1; have H2 := Lib.hid h2
      obtain ⟨y, hx⟩ : ∃ y, g k = y := ⟨_, rfl⟩
      have HX := Lib.hid hx
      rw [hx]
      clear h1 h2 c0 c1 c2 c3 hx
      cases y
      · go_wp2
        go_ret
        exact ⟨k, hk, rfl, HZ.out, .inr ⟨hlt, HX.out, H2.out HX.out⟩⟩
      · have HZ2 : Hid (∀ j, j < k + 1 → g j = true) := fun j hj => by
          by_cases hj2 : j < k
          · exact HZ.out j hj2
          · obtain rfl : j = k := by omega
            exact HX.out
        go_wp2
        go_roundw
        case rel => exact ⟨k + 1, hlt, by go_num, HZ2.out, H1.out HX.out⟩
        case measure => simp [intOf]; omega
    · obtain rfl : n = k := by omega
      go_wp2
      go_ret
      exact ⟨n, Nat.le_refl _, rfl, HZ.out, .inl ⟨rfl, HR.out⟩⟩
end Go.Proofs.Ytghfhojpnbpjoaa

namespace Go.Proofs.Ytghfhojpnbpjoaa
open Go.RowKit
set_option linter.unusedVariables false

/-- the world behind an entry's box -/
abbrev enW (w : World) (x : En) : World := w.alloc (.cells #[.string x.m.k, .int .u64 (x.m.s : Int), .bool x.m.g, .string x.x] 40)
theorem enW_facts (w : World) (x : En) : (enW w x).cell? ⟨w.heap.size, 0, none⟩ = some (.string x.m.k) ∧ (enW w x).cell? ⟨w.heap.size, 1, none⟩ = some (.int .u64 (x.m.s : Int)) ∧ (enW w x).cell? ⟨w.heap.size, 2, none⟩ = some (.bool x.m.g) ∧ (enW w x).cell? ⟨w.heap.size, 3, none⟩ = some (.string x.x) ∧ Below w.heap.size w (enW w x) ∧ (enW w x).heap.size = w.heap.size + 1 := by
  have h : (enW w x).heap[w.heap.size]? = some (.cells #[.string x.m.k, .int .u64 (x.m.s : Int), .bool x.m.g, .string x.x] 40 (0, 0)) := heap_alloc_new w _
  exact ⟨cell_of_row _ _ 0 _ _ (0, 0) h, cell_of_row _ _ 1 _ _ (0, 0) h, cell_of_row _ _ 2 _ _ (0, 0) h, cell_of_row _ _ 3 _ _ (0, 0) h, (Below.refl _ _).alloc (Nat.le_refl _) _, by simp⟩
abbrev mkW (w : World) (m : Mk) : World := w.alloc (.cells #[.string m.k, .int .u64 (m.s : Int), .bool m.g] 38)
theorem mkW_facts (w : World) (m : Mk) : (mkW w m).cell? ⟨w.heap.size, 0, none⟩ = some (.string m.k) ∧ (mkW w m).cell? ⟨w.heap.size, 1, none⟩ = some (.int .u64 (m.s : Int)) ∧ (mkW w m).cell? ⟨w.heap.size, 2, none⟩ = some (.bool m.g) ∧ Below w.heap.size w (mkW w m) ∧ (mkW w m).heap.size = w.heap.size + 1 := by
  have h : (mkW w m).heap[w.heap.size]? = some (.cells #[.string m.k, .int .u64 (m.s : Int), .bool m.g] 38 (0, 0)) := heap_alloc_new w _
  exact ⟨cell_of_row _ _ 0 _ _ (0, 0) h, cell_of_row _ _ 1 _ _ (0, 0) h, cell_of_row _ _ 2 _ _ (0, 0) h, (Below.refl _ _).alloc (Nat.le_refl _) _, by simp⟩
theorem entry_info : (Try.prog.info? 40).map (fun i => (i.zero, i.size, i.bytes)) = some (some (.agg #[.string ByteArray.empty, .int .u64 0, .bool false, .string ByteArray.empty]), 4, 48) := by kernel_rfl
theorem ecs_one (l : List En) : ∀ u ∈ ecs l, u.oneCell' = true := by
  intro u hu
  obtain ⟨m, _, hm⟩ := List.mem_flatMap.1 hu
  simp only [En.cs, List.mem_cons, List.not_mem_nil, or_false] at hm
  rcases hm with rfl | rfl | rfl | rfl <;> rfl
theorem en_lies (w : World) (x : En) : Lies (enW w x) (w.heap.size + 1) 4 (some ⟨w.heap.size, 0, none⟩) 1 (ecs [x]) := by
  have h : (enW w x).heap[w.heap.size]? = some (.cells #[.string x.m.k, .int .u64 (x.m.s : Int), .bool x.m.g, .string x.x] 40 (0, 0)) := heap_alloc_new w _
  have e : ecs [x] = [.string x.m.k, .int .u64 (x.m.s : Int), .bool x.m.g, .string x.x] := by simp [ecs, En.cs]
  rw [e]
  refine ⟨rfl, fun j hj => ?_⟩
  have hj4 : j < 4 := hj
  refine ⟨_, _, rfl, Nat.lt_succ_self _, List.getElem?_eq_getElem hj4, ?_⟩
  rw [add_lit, Nat.zero_add, cell_of_row _ _ j _ _ (0, 0) h]
  rw [List.getElem?_toArray]
  exact List.getElem?_eq_getElem hj4
end Go.Proofs.Ytghfhojpnbpjoaa

namespace Go.Proofs.Ytghfhojpnbpjoaa
open Go.RowKit
set_option linter.unusedVariables false
set_option maxRecDepth 20000

/-- '[]byte(s)' -/
theorem conv_bytes (w : World) (s : ByteArray) : ∃ w' c, (convert 9 25 (.string s)).run Try.prog w = .ok (.slice (some ⟨w.heap.size, 0, none⟩) s.size c) w' ∧ Below w.heap.size w w' ∧ Lies w' w'.heap.size 1 (some ⟨w.heap.size, 0, none⟩) s.size (s.data.toList.map bv) := by
  refine ⟨_, _, run_bytes_of_string w 9 25 5 s Try.underlying9 Try.underlying25 Try.underlying5, ((Below.refl _ _).drew).alloc (Nat.le_refl _) _, ?_⟩
  generalize grownCap w s.size 0 5 = c
  have hz := (fun (w : World) (o : Obj) => (Array.size_push (xs := w.heap) o).symm : ∀ (w : World) (o : Obj), w.heap.size + 1 = (w.alloc o).heap.size) w.drew (.cells (bytesRow s c) 5 ((bytesRow s c).size, (bytesRow s c).size + 1))
  have h : (w.drew.alloc (.cells (bytesRow s c) 5 ((bytesRow s c).size, (bytesRow s c).size + 1))).heap[w.heap.size]? = some (.cells (bytesRow s c) 5 ((bytesRow s c).size, (bytesRow s c).size + 1)) := heap_alloc_new w.drew _
  have hz2 : w.heap.size + 1 = (w.drew.alloc (.cells (bytesRow s c) 5 ((bytesRow s c).size, (bytesRow s c).size + 1))).heap.size := hz
  refine ⟨by rw [List.length_map, Array.length_toList, Nat.mul_one]; rfl, fun j hj => ?_⟩
  have hj2 : j < s.data.size := by rw [List.length_map, Array.length_toList] at hj; exact hj
  refine ⟨_, bv (s.data[j]), rfl, by show w.heap.size < _; omega, ?_, ?_⟩
  · rw [List.getElem?_map, Array.getElem?_toList, Array.getElem?_eq_getElem hj2]; rfl
  · rw [add_lit, Nat.zero_add, cell_of_row _ w.heap.size j _ _ _ h, bytesRow_at s c j hj2]
end Go.Proofs.Ytghfhojpnbpjoaa

namespace Go.Proofs.Ytghfhojpnbpjoaa
open Go.RowKit
set_option linter.unusedVariables false
set_option maxRecDepth 100000

theorem bvalid_any (x : En) (w : World) (hk : x.m.k.size ≤ 140737488351232) (hx : x.x.size ≤ 140737488351232) :
    Calls Try.prog 57 #[x.v] w fun e w' => e = .returned (.bool (fineE x)) ∧ Below w.heap.size w w' := by
  unfold fineE En.v
  obtain ⟨b0, b1, b2, b3, hB, _⟩ := enW_facts w x
  have HB := Lib.hid hB
  have HC : Hid (∀ W, Calls Try.prog 65 #[.string x.m.k] W fun e w' => e = .returned (.bool (chk x.m.k)) ∧ W = w') := fun W => chk_any x.m.k W (by omega)
  clear hB b0 b1 b2 b3
  obtain ⟨c, hc⟩ : ∃ c, chk x.m.k = c := ⟨_, rfl⟩
  rw [hc] at HC ⊢
  clear hc
  cases c
  · go_enter Try.func57, Try.ntmps57
    go_wp2_with (go_at_call 65; refine (HC.out _).mono ?_; rintro e w' ⟨rfl, rfl⟩)
    go_ret
    exact ⟨rfl, HB.out⟩
  · by_cases h2 : x.x.size ≤ 256
    · have i2 : (x.x.size : Int) ≤ 256 := by omega
      have d2 : decide (x.x.size ≤ 256) = true := decide_eq_true h2
      rw [d2]
      cases h3 : x.x.toList.isEmpty <;> cases h4 : x.m.g <;>
      · go_enter Try.func57, Try.ntmps57
        go_wp2_with (go_at_call 65; refine (HC.out _).mono ?_; rintro e w' ⟨rfl, rfl⟩)
        go_ret
        exact ⟨rfl, by rw [← h4]; exact HB.out⟩
    · have i2 : ¬ (x.x.size : Int) ≤ 256 := by omega
      have d2 : decide (x.x.size ≤ 256) = false := decide_eq_false h2
      rw [d2]
      go_enter Try.func57, Try.ntmps57
      go_wp2_with (go_at_call 65; refine (HC.out _).mono ?_; rintro e w' ⟨rfl, rfl⟩)
      go_ret
      exact ⟨rfl, HB.out⟩

/-- a variable that holds the list: a block of one cell -/
def LBox (w : World) (g : Nat) (A : Option Addr) (n c : Nat) : Prop := Box w g 22 (.slice A n c)
/-- what the region of makeBlock's function reads: the box of the entry, the list, the mark ahead -/
abbrev MB0 (g h : Nat) (A : Option Addr) (n c : Nat) (x : En) (w : World) : Prop :=
  w.cell? ⟨h, 0, none⟩ = some (.string x.m.k) ∧ w.cell? ⟨h, 1, none⟩ = some (.int .u64 (x.m.s : Int)) ∧ w.cell? ⟨h, 2, none⟩ = some (.bool x.m.g) ∧ w.cell? ⟨h, 3, none⟩ = some (.string x.x) ∧
  w.cell? ⟨g, 0, none⟩ = some (.slice A n c)
abbrev MB (g h b o : Nat) (A : Option Addr) (n c : Nat) (x : En) (m : Mk) (w : World) : Prop :=
  w.cell? ⟨h, 0, none⟩ = some (.string x.m.k) ∧ w.cell? ⟨h, 1, none⟩ = some (.int .u64 (x.m.s : Int)) ∧ w.cell? ⟨h, 2, none⟩ = some (.bool x.m.g) ∧ w.cell? ⟨h, 3, none⟩ = some (.string x.x) ∧
  w.cell? ⟨g, 0, none⟩ = some (.slice A n c) ∧ w.cell? ⟨b, o, none⟩ = some (.string m.k) ∧ w.cell? ⟨b, o + 1, none⟩ = some (.int .u64 (m.s : Int)) ∧ w.cell? ⟨b, o + 2, none⟩ = some (.bool m.g)
theorem MB0.below {g h : Nat} {A : Option Addr} {n c : Nat} {x : En} {w w' : World} (H : MB0 g h A n c x w) (hb : Below w.heap.size w w') : MB0 g h A n c x w' := by
  have up : ∀ {p v}, w.cell? p = some v → w'.cell? p = some v := fun {p v} h => (hb.cell (World.block_lt_of_cell? w _ h)).trans h
  exact ⟨up H.1, up H.2.1, up H.2.2.1, up H.2.2.2.1, up H.2.2.2.2⟩
theorem MB.below {g h b o : Nat} {A : Option Addr} {n c : Nat} {x : En} {m : Mk} {w w' : World} (H : MB g h b o A n c x m w) (hb : Below w.heap.size w w') : MB g h b o A n c x m w' := by
  have up : ∀ {p v}, w.cell? p = some v → w'.cell? p = some v := fun {p v} h => (hb.cell (World.block_lt_of_cell? w _ h)).trans h
  exact ⟨up H.1, up H.2.1, up H.2.2.1, up H.2.2.2.1, up H.2.2.2.2.1, up H.2.2.2.2.2.1, up H.2.2.2.2.2.2.1, up H.2.2.2.2.2.2.2⟩

/-- what is asked of a list of entries in memory: where it lies, how great they are -/
structure EL (w : World) (B : Nat) (A : Option Addr) (n c : Nat) (S : List En) : Prop where
  lies : Lies w B 4 A n (ecs S)
  B : B ≤ w.heap.size
  nc : n ≤ c
  cc : c ≤ maxLen
  sz : ∀ e ∈ S, e.m.k.size ≤ 140737488351232 ∧ e.x.size ≤ 140737488351232
theorem EL.below {w w' : World} {B n c : Nat} {A : Option Addr} {S : List En} (h : EL w B A n c S) (hb : Below w.heap.size w w') : EL w' B A n c S :=
  ⟨h.lies.keep fun p hp => hb.cell (Nat.lt_of_lt_of_le hp h.B), Nat.le_trans h.B hb.size, h.nc, h.cc, h.sz⟩

set_option maxHeartbeats 4000000 in
theorem mb1_any (S : List En) (k : Nat) (x : En) (hx : S[k]? = some x) (g : Nat) (A : Option Addr) (n c B : Nat) (W : World) (hL : EL W B A n c S) (hb : LBox W g A n c) :
    Calls Try.prog 56 #[.int .i64 (k : Int), x.v, .pointer (some ⟨g, 0, none⟩)] W fun e W' => e = .returned (.bool (goodAt S k)) ∧ Below W.heap.size W W' := by
  have hxs := hL.sz x (List.mem_of_getElem? hx)
  have hln := hL.lies.elen
  have hkn : k < n := by have := (List.getElem?_eq_some_iff.1 hx).1; omega
  obtain ⟨b0, b1, b2, b3, hB, hz⟩ := enW_facts W x
  obtain ⟨W1, hW⟩ : ∃ W1, enW W x = W1 := ⟨_, rfl⟩
  rw [hW] at b0 b1 b2 b3 hB hz
  have hb1 : LBox W1 g A n c := hb.below hB hb.lt
  have hM0 : MB0 g W.heap.size A n c x W1 := ⟨b0, b1, b2, b3, hb1.cell⟩
  have hd1 : Below W1.heap.size W1 W1.drew := ⟨rfl, rfl, rfl, Nat.le_refl _, fun _ _ => rfl⟩
  have HD := Lib.hid (hB.trans (hd1.mono hB.size))
  have HV := Lib.hid (bvalid_any x W1.drew hxs.1 hxs.2)
  have HW : Hid (W.alloc (.cells #[.string x.m.k, .int .u64 (x.m.s : Int), .bool x.m.g, .string x.x] 40) = W1) := hW
  unfold En.v at HV ⊢
  by_cases hf : fineE x = false
  · rw [hf] at HV
    have Sd : MB0 g W.heap.size A n c x W1.drew := MB0.below hM0 hd1
    have HR : Hid (goodAt S k = false) := by unfold Hid; rw [goodAt_some hx, hf]; rfl
    rw [HR.out]
    clear hx hL hb hxs hln b0 b1 b2 b3 hB hz hb1 hM0 hd1 hW hf HR
    go_enter Try.func56, Try.ntmps56
    go_wp2_with fail
    rw [HW.out]
    refine wp_region_held_drew (S := (fun w' => MB0 g W.heap.size A n c x w')) (by kernel_rfl) Sd (fun hHeld => ?_)
    refine wpAnyH_take (i := 0) (oi := _) (v := ?v0) rfl (by kernel_rfl) (by kernel_rfl) (by kernel_rfl) (fun _ _ _ h => h) (Or.inl ⟨by rfl, ?y0⟩) (by assumption) ?r0
    case y0 => (intro w' hSw; (try dsimp only at hSw); go_simp <;> with_reducible rfl)
    try simp only [Act.put, List.setIfInBounds_toArray, List.set_cons_zero, List.set_cons_succ, List.getElem_toArray, List.getElem_cons_zero]
    refine wpAnyH_ready (rs := [1]) (by kernel_rfl) (by simp) ?_
    refine AllReadyH.cons (o := _) rfl (fun K hK => ?_) AllReadyH.nil
    go_simp
    go_at_call 57
    refine HV.out.mono ?_
    rintro e w1 ⟨rfl, hv1⟩
    have S1 := MB0.below Sd hv1
    refine hK.out _ _ S1 (fun hHeld => ?_)
    clear hK K
    try simp only [Act.put, List.setIfInBounds_toArray, List.set_cons_zero, List.set_cons_succ, List.getElem_toArray, List.getElem_cons_zero, List.getElem_cons_succ]
    refine wpAnyH_take (i := 2) (oi := _) (v := ?v1) rfl (by kernel_rfl) (by kernel_rfl) (by kernel_rfl) (fun _ _ _ h => h) (Or.inl ⟨by rfl, ?y1⟩) (by assumption) ?r1
    case y1 => (intro w' hSw; (try dsimp only at hSw); go_simp <;> with_reducible rfl)
    try simp only [Act.put, List.setIfInBounds_toArray, List.set_cons_zero, List.set_cons_succ, List.getElem_toArray, List.getElem_cons_zero, List.getElem_cons_succ]
    refine wpAnyH_take (i := 3) (oi := _) (v := undef) rfl (by kernel_rfl) (by kernel_rfl) (by kernel_rfl) (fun _ _ _ h => h) (Or.inr ⟨by rfl, rfl⟩) (by assumption) ?_
    try simp only [Act.put, List.setIfInBounds_toArray, List.set_cons_zero, List.set_cons_succ, List.getElem_toArray, List.getElem_cons_zero, List.getElem_cons_succ]
    refine wpAnyH_take (i := 4) (oi := _) (v := undef) rfl (by kernel_rfl) (by kernel_rfl) (by kernel_rfl) (fun _ _ _ h => h) (Or.inr ⟨by rfl, rfl⟩) (by assumption) ?_
    try simp only [Act.put, List.setIfInBounds_toArray, List.set_cons_zero, List.set_cons_succ, List.getElem_toArray, List.getElem_cons_zero, List.getElem_cons_succ]
    refine wpAnyH_take (i := 5) (oi := _) (v := undef) rfl (by kernel_rfl) (by kernel_rfl) (by kernel_rfl) (fun _ _ _ h => h) (Or.inr ⟨by rfl, rfl⟩) (by assumption) ?_
    try simp only [Act.put, List.setIfInBounds_toArray, List.set_cons_zero, List.set_cons_succ, List.getElem_toArray, List.getElem_cons_zero, List.getElem_cons_succ]
    refine wpAnyH_take (i := 6) (oi := _) (v := undef) rfl (by kernel_rfl) (by kernel_rfl) (by kernel_rfl) (fun _ _ _ h => h) (Or.inr ⟨by rfl, rfl⟩) (by assumption) ?_
    try simp only [Act.put, List.setIfInBounds_toArray, List.set_cons_zero, List.set_cons_succ, List.getElem_toArray, List.getElem_cons_zero, List.getElem_cons_succ]
    refine wpAnyH_take (i := 7) (oi := _) (v := undef) rfl (by kernel_rfl) (by kernel_rfl) (by kernel_rfl) (fun _ _ _ h => h) (Or.inr ⟨by rfl, rfl⟩) (by assumption) ?_
    try simp only [Act.put, List.setIfInBounds_toArray, List.set_cons_zero, List.set_cons_succ, List.getElem_toArray, List.getElem_cons_zero, List.getElem_cons_succ]
    refine wpAnyH_take (i := 8) (oi := _) (v := undef) rfl (by kernel_rfl) (by kernel_rfl) (by kernel_rfl) (fun _ _ _ h => h) (Or.inr ⟨by rfl, rfl⟩) (by assumption) ?_
    try simp only [Act.put, List.setIfInBounds_toArray, List.set_cons_zero, List.set_cons_succ, List.getElem_toArray, List.getElem_cons_zero, List.getElem_cons_succ]
    refine wpAnyH_take (i := 9) (oi := _) (v := undef) rfl (by kernel_rfl) (by kernel_rfl) (by kernel_rfl) (fun _ _ _ h => h) (Or.inr ⟨by rfl, rfl⟩) (by assumption) ?_
    try simp only [Act.put, List.setIfInBounds_toArray, List.set_cons_zero, List.set_cons_succ, List.getElem_toArray, List.getElem_cons_zero, List.getElem_cons_succ]
    refine wpAnyH_take (i := 10) (oi := _) (v := undef) rfl (by kernel_rfl) (by kernel_rfl) (by kernel_rfl) (fun _ _ _ h => h) (Or.inr ⟨by rfl, rfl⟩) (by assumption) ?_
    try simp only [Act.put, List.setIfInBounds_toArray, List.set_cons_zero, List.set_cons_succ, List.getElem_toArray, List.getElem_cons_zero, List.getElem_cons_succ]
    refine wpAnyH_take (i := 11) (oi := _) (v := undef) rfl (by kernel_rfl) (by kernel_rfl) (by kernel_rfl) (fun _ _ _ h => h) (Or.inr ⟨by rfl, rfl⟩) (by assumption) ?_
    try simp only [Act.put, List.setIfInBounds_toArray, List.set_cons_zero, List.set_cons_succ, List.getElem_toArray, List.getElem_cons_zero, List.getElem_cons_succ]
    refine wpAnyH_take (i := 12) (oi := _) (v := undef) rfl (by kernel_rfl) (by kernel_rfl) (by kernel_rfl) (fun _ _ _ h => h) (Or.inr ⟨by rfl, rfl⟩) (by assumption) ?_
    try simp only [Act.put, List.setIfInBounds_toArray, List.set_cons_zero, List.set_cons_succ, List.getElem_toArray, List.getElem_cons_zero, List.getElem_cons_succ]
    refine wpAnyH_take (i := 13) (oi := _) (v := undef) rfl (by kernel_rfl) (by kernel_rfl) (by kernel_rfl) (fun _ _ _ h => h) (Or.inr ⟨by rfl, rfl⟩) (by assumption) ?_
    try simp only [Act.put, List.setIfInBounds_toArray, List.set_cons_zero, List.set_cons_succ, List.getElem_toArray, List.getElem_cons_zero, List.getElem_cons_succ]
    refine wpAnyH_take (i := 14) (oi := _) (v := undef) rfl (by kernel_rfl) (by kernel_rfl) (by kernel_rfl) (fun _ _ _ h => h) (Or.inr ⟨by rfl, rfl⟩) (by assumption) ?_
    try simp only [Act.put, List.setIfInBounds_toArray, List.set_cons_zero, List.set_cons_succ, List.getElem_toArray, List.getElem_cons_zero, List.getElem_cons_succ]
    refine wpAnyH_take (i := 15) (oi := _) (v := undef) rfl (by kernel_rfl) (by kernel_rfl) (by kernel_rfl) (fun _ _ _ h => h) (Or.inr ⟨by rfl, rfl⟩) (by assumption) ?_
    try simp only [Act.put, List.setIfInBounds_toArray, List.set_cons_zero, List.set_cons_succ, List.getElem_toArray, List.getElem_cons_zero, List.getElem_cons_succ]
    refine wpAnyH_take (i := 16) (oi := _) (v := undef) rfl (by kernel_rfl) (by kernel_rfl) (by kernel_rfl) (fun _ _ _ h => h) (Or.inr ⟨by rfl, rfl⟩) (by assumption) ?_
    try simp only [Act.put, List.setIfInBounds_toArray, List.set_cons_zero, List.set_cons_succ, List.getElem_toArray, List.getElem_cons_zero, List.getElem_cons_succ]
    refine wpAnyH_take (i := 17) (oi := _) (v := ?v16) rfl (by kernel_rfl) (by kernel_rfl) (by kernel_rfl) (fun _ _ _ h => h) (Or.inl ⟨by rfl, ?y16⟩) (by assumption) ?r16
    case y16 => (intro w' hSw; (try dsimp only at hSw); go_simp <;> with_reducible rfl)
    try simp only [Act.put, List.setIfInBounds_toArray, List.set_cons_zero, List.set_cons_succ, List.getElem_toArray, List.getElem_cons_zero, List.getElem_cons_succ]
    refine wpAnyH_take (i := 18) (oi := _) (v := ?v17) rfl (by kernel_rfl) (by kernel_rfl) (by kernel_rfl) (fun _ _ _ h => h) (Or.inl ⟨by rfl, ?y17⟩) (by assumption) ?r17
    case y17 => (intro w' hSw; (try dsimp only at hSw); go_simp <;> with_reducible rfl)
    try simp only [Act.put, List.setIfInBounds_toArray, List.set_cons_zero, List.set_cons_succ, List.getElem_toArray, List.getElem_cons_zero, List.getElem_cons_succ]
    refine wpAnyH_done (by kernel_rfl) ?_ _
    have R := Lib.hid (HD.out.trans (hv1.mono HD.out.size))
    clear S1 Sd hv1
    go_wp2
    go_ret
    exact ⟨rfl, R.out⟩
  · have hf : fineE x = true := by simpa using hf
    rw [hf] at HV
    by_cases hk : k = 0
    · subst hk
      have Sd : MB0 g W.heap.size A n c x W1.drew := MB0.below hM0 hd1
      have HR : Hid (goodAt S 0 = true) := by unfold Hid; rw [goodAt_some hx, hf]; rfl
      rw [HR.out]
      clear hx hL hb hxs hln b0 b1 b2 b3 hB hz hb1 hM0 hd1 hW hf HR
      go_enter Try.func56, Try.ntmps56
      go_wp2_with fail
      rw [HW.out]
      refine wp_region_held_drew (S := (fun w' => MB0 g W.heap.size A n c x w')) (by kernel_rfl) Sd (fun hHeld => ?_)
      refine wpAnyH_take (i := 0) (oi := _) (v := ?v18) rfl (by kernel_rfl) (by kernel_rfl) (by kernel_rfl) (fun _ _ _ h => h) (Or.inl ⟨by rfl, ?y18⟩) (by assumption) ?r18
      case y18 => (intro w' hSw; (try dsimp only at hSw); go_simp <;> with_reducible rfl)
      try simp only [Act.put, List.setIfInBounds_toArray, List.set_cons_zero, List.set_cons_succ, List.getElem_toArray, List.getElem_cons_zero]
      refine wpAnyH_ready (rs := [1]) (by kernel_rfl) (by simp) ?_
      refine AllReadyH.cons (o := _) rfl (fun K hK => ?_) AllReadyH.nil
      go_simp
      go_at_call 57
      refine HV.out.mono ?_
      rintro e w1 ⟨rfl, hv1⟩
      have S1 := MB0.below Sd hv1
      refine hK.out _ _ S1 (fun hHeld => ?_)
      clear hK K
      try simp only [Act.put, List.setIfInBounds_toArray, List.set_cons_zero, List.set_cons_succ, List.getElem_toArray, List.getElem_cons_zero, List.getElem_cons_succ]
      refine wpAnyH_take (i := 2) (oi := _) (v := ?v19) rfl (by kernel_rfl) (by kernel_rfl) (by kernel_rfl) (fun _ _ _ h => h) (Or.inl ⟨by rfl, ?y19⟩) (by assumption) ?r19
      case y19 => (intro w' hSw; (try dsimp only at hSw); go_simp <;> with_reducible rfl)
      try simp only [Act.put, List.setIfInBounds_toArray, List.set_cons_zero, List.set_cons_succ, List.getElem_toArray, List.getElem_cons_zero, List.getElem_cons_succ]
      refine wpAnyH_take (i := 3) (oi := _) (v := ?v20) rfl (by kernel_rfl) (by kernel_rfl) (by kernel_rfl) (fun _ _ _ h => h) (Or.inl ⟨by rfl, ?y20⟩) (by assumption) ?r20
      case y20 => (intro w' hSw; (try dsimp only at hSw); go_simp <;> with_reducible rfl)
      try simp only [Act.put, List.setIfInBounds_toArray, List.set_cons_zero, List.set_cons_succ, List.getElem_toArray, List.getElem_cons_zero, List.getElem_cons_succ]
      refine wpAnyH_take (i := 4) (oi := _) (v := ?v21) rfl (by kernel_rfl) (by kernel_rfl) (by kernel_rfl) (fun _ _ _ h => h) (Or.inl ⟨by rfl, ?y21⟩) (by assumption) ?r21
      case y21 => (intro w' hSw; (try dsimp only at hSw); go_simp <;> with_reducible rfl)
      try simp only [Act.put, List.setIfInBounds_toArray, List.set_cons_zero, List.set_cons_succ, List.getElem_toArray, List.getElem_cons_zero, List.getElem_cons_succ]
      refine wpAnyH_take (i := 5) (oi := _) (v := ?v22) rfl (by kernel_rfl) (by kernel_rfl) (by kernel_rfl) (fun _ _ _ h => h) (Or.inl ⟨by rfl, ?y22⟩) (by assumption) ?r22
      case y22 => (intro w' hSw; (try dsimp only at hSw); go_simp <;> with_reducible rfl)
      try simp only [Act.put, List.setIfInBounds_toArray, List.set_cons_zero, List.set_cons_succ, List.getElem_toArray, List.getElem_cons_zero, List.getElem_cons_succ]
      refine wpAnyH_take (i := 6) (oi := _) (v := undef) rfl (by kernel_rfl) (by kernel_rfl) (by kernel_rfl) (fun _ _ _ h => h) (Or.inr ⟨by rfl, rfl⟩) (by assumption) ?_
      try simp only [Act.put, List.setIfInBounds_toArray, List.set_cons_zero, List.set_cons_succ, List.getElem_toArray, List.getElem_cons_zero, List.getElem_cons_succ]
      refine wpAnyH_take (i := 7) (oi := _) (v := undef) rfl (by kernel_rfl) (by kernel_rfl) (by kernel_rfl) (fun _ _ _ h => h) (Or.inr ⟨by rfl, rfl⟩) (by assumption) ?_
      try simp only [Act.put, List.setIfInBounds_toArray, List.set_cons_zero, List.set_cons_succ, List.getElem_toArray, List.getElem_cons_zero, List.getElem_cons_succ]
      refine wpAnyH_take (i := 8) (oi := _) (v := undef) rfl (by kernel_rfl) (by kernel_rfl) (by kernel_rfl) (fun _ _ _ h => h) (Or.inr ⟨by rfl, rfl⟩) (by assumption) ?_
      try simp only [Act.put, List.setIfInBounds_toArray, List.set_cons_zero, List.set_cons_succ, List.getElem_toArray, List.getElem_cons_zero, List.getElem_cons_succ]
      refine wpAnyH_take (i := 9) (oi := _) (v := undef) rfl (by kernel_rfl) (by kernel_rfl) (by kernel_rfl) (fun _ _ _ h => h) (Or.inr ⟨by rfl, rfl⟩) (by assumption) ?_
      try simp only [Act.put, List.setIfInBounds_toArray, List.set_cons_zero, List.set_cons_succ, List.getElem_toArray, List.getElem_cons_zero, List.getElem_cons_succ]
      refine wpAnyH_take (i := 10) (oi := _) (v := undef) rfl (by kernel_rfl) (by kernel_rfl) (by kernel_rfl) (fun _ _ _ h => h) (Or.inr ⟨by rfl, rfl⟩) (by assumption) ?_
      try simp only [Act.put, List.setIfInBounds_toArray, List.set_cons_zero, List.set_cons_succ, List.getElem_toArray, List.getElem_cons_zero, List.getElem_cons_succ]
      refine wpAnyH_take (i := 11) (oi := _) (v := undef) rfl (by kernel_rfl) (by kernel_rfl) (by kernel_rfl) (fun _ _ _ h => h) (Or.inr ⟨by rfl, rfl⟩) (by assumption) ?_
      try simp only [Act.put, List.setIfInBounds_toArray, List.set_cons_zero, List.set_cons_succ, List.getElem_toArray, List.getElem_cons_zero, List.getElem_cons_succ]
      refine wpAnyH_take (i := 12) (oi := _) (v := undef) rfl (by kernel_rfl) (by kernel_rfl) (by kernel_rfl) (fun _ _ _ h => h) (Or.inr ⟨by rfl, rfl⟩) (by assumption) ?_
      try simp only [Act.put, List.setIfInBounds_toArray, List.set_cons_zero, List.set_cons_succ, List.getElem_toArray, List.getElem_cons_zero, List.getElem_cons_succ]
      refine wpAnyH_take (i := 13) (oi := _) (v := undef) rfl (by kernel_rfl) (by kernel_rfl) (by kernel_rfl) (fun _ _ _ h => h) (Or.inr ⟨by rfl, rfl⟩) (by assumption) ?_
      try simp only [Act.put, List.setIfInBounds_toArray, List.set_cons_zero, List.set_cons_succ, List.getElem_toArray, List.getElem_cons_zero, List.getElem_cons_succ]
      refine wpAnyH_take (i := 14) (oi := _) (v := undef) rfl (by kernel_rfl) (by kernel_rfl) (by kernel_rfl) (fun _ _ _ h => h) (Or.inr ⟨by rfl, rfl⟩) (by assumption) ?_
      try simp only [Act.put, List.setIfInBounds_toArray, List.set_cons_zero, List.set_cons_succ, List.getElem_toArray, List.getElem_cons_zero, List.getElem_cons_succ]
      refine wpAnyH_take (i := 15) (oi := _) (v := undef) rfl (by kernel_rfl) (by kernel_rfl) (by kernel_rfl) (fun _ _ _ h => h) (Or.inr ⟨by rfl, rfl⟩) (by assumption) ?_
      try simp only [Act.put, List.setIfInBounds_toArray, List.set_cons_zero, List.set_cons_succ, List.getElem_toArray, List.getElem_cons_zero, List.getElem_cons_succ]
      refine wpAnyH_take (i := 16) (oi := _) (v := ?v33) rfl (by kernel_rfl) (by kernel_rfl) (by kernel_rfl) (fun _ _ _ h => h) (Or.inl ⟨by rfl, ?y33⟩) (by assumption) ?r33
      case y33 => (intro w' hSw; (try dsimp only at hSw); go_simp <;> with_reducible rfl)
      try simp only [Act.put, List.setIfInBounds_toArray, List.set_cons_zero, List.set_cons_succ, List.getElem_toArray, List.getElem_cons_zero, List.getElem_cons_succ]
      refine wpAnyH_take (i := 17) (oi := _) (v := ?v34) rfl (by kernel_rfl) (by kernel_rfl) (by kernel_rfl) (fun _ _ _ h => h) (Or.inl ⟨by rfl, ?y34⟩) (by assumption) ?r34
      case y34 => (intro w' hSw; (try dsimp only at hSw); go_simp <;> with_reducible rfl)
      try simp only [Act.put, List.setIfInBounds_toArray, List.set_cons_zero, List.set_cons_succ, List.getElem_toArray, List.getElem_cons_zero, List.getElem_cons_succ]
      refine wpAnyH_take (i := 18) (oi := _) (v := ?v35) rfl (by kernel_rfl) (by kernel_rfl) (by kernel_rfl) (fun _ _ _ h => h) (Or.inl ⟨by rfl, ?y35⟩) (by assumption) ?r35
      case y35 => (intro w' hSw; (try dsimp only at hSw); go_simp <;> with_reducible rfl)
      try simp only [Act.put, List.setIfInBounds_toArray, List.set_cons_zero, List.set_cons_succ, List.getElem_toArray, List.getElem_cons_zero, List.getElem_cons_succ]
      refine wpAnyH_done (by kernel_rfl) ?_ _
      have R := Lib.hid (HD.out.trans (hv1.mono HD.out.size))
      clear S1 Sd hv1
      go_wp2
      go_ret
      exact ⟨rfl, R.out⟩
    · obtain ⟨j, rfl⟩ : ∃ j, k = j + 1 := ⟨k - 1, by omega⟩
      obtain ⟨y, hy⟩ : ∃ y, S[j]? = some y := ⟨S[j]'(by omega), List.getElem?_eq_getElem _⟩
      obtain ⟨b, o, y', rfl, hbB, hu, c0, c1, c2, c3⟩ := hL.lies.entry (i := j) (by omega)
      rw [hy] at hu
      injection hu with hu
      subst hu
      have hbs : b < W.heap.size := Nat.lt_of_lt_of_le hbB hL.B
      have hM : MB g W.heap.size b (o + j * 4) (some ⟨b, o, none⟩) n c x y.m W1 := ⟨b0, b1, b2, b3, hb1.cell, (hB.cell (p := ⟨b, o + j * 4, none⟩) hbs).trans c0, (hB.cell (p := ⟨b, o + j * 4 + 1, none⟩) hbs).trans c1, (hB.cell (p := ⟨b, o + j * 4 + 2, none⟩) hbs).trans c2⟩
      have Sd : MB g W.heap.size b (o + j * 4) (some ⟨b, o, none⟩) n c x y.m W1.drew := MB.below hM hd1
      have HR : Hid (goodAt S (j + 1) = decide (cmpM y.m x.m < 0)) := by
        unfold Hid; rw [goodAt_some hx, hf]; simp [hy]
      rw [HR.out]
      have HC : Hid (∀ W', Calls Try.prog 42 #[y.m.v, x.m.v] W' fun e w' => e = .returned (.int .i64 (cmpM y.m x.m)) ∧ Below W'.heap.size W' w') := fun W' => cmp_any y.m x.m W'
      unfold Mk.v at HC
      have hmx := hL.cc
      have hnc := hL.nc
      unfold maxLen at hmx
      have hwr : IntKind.i64.wrap (((j + 1 : Nat) : Int) - 1) = (j : Int) := by rw [IntWalk.i64_in] <;> omega
      have hk0 : ((((j + 1 : Nat) : Int)) == 0) = false := by simp; omega
      have hj0 : (0 : Int) ≤ (j : Int) := by omega
      have hjn : (j : Int) < (n : Int) := by omega
      have hjt : (j : Int).toNat = j := by simp
      obtain ⟨q, hq⟩ : ∃ q : Int, ((j + 1 : Nat) : Int) = q := ⟨_, rfl⟩
      rw [hq] at hwr hk0 ⊢
      obtain ⟨z, hzz⟩ : ∃ z, cmpM y.m x.m = z := ⟨_, rfl⟩
      rw [hzz] at HC ⊢
      clear hx hL hb hxs hln b0 b1 b2 b3 hB hz hb1 hM0 hd1 hW hf HR hy hk hkn hM c0 c1 c2 c3 hmx hnc hq hzz
      go_enter Try.func56, Try.ntmps56
      go_wp2_with fail
      rw [HW.out]
      refine wp_region_held_drew (S := (fun w' => MB g W.heap.size b (o + j * 4) (some ⟨b, o, none⟩) n c x y.m w')) (by kernel_rfl) Sd (fun hHeld => ?_)
      refine wpAnyH_take (i := 0) (oi := _) (v := ?v36) rfl (by kernel_rfl) (by kernel_rfl) (by kernel_rfl) (fun _ _ _ h => h) (Or.inl ⟨by rfl, ?y36⟩) (by assumption) ?r36
      case y36 => (intro w' hSw; (try dsimp only at hSw); go_simp <;> with_reducible rfl)
      try simp only [Act.put, List.setIfInBounds_toArray, List.set_cons_zero, List.set_cons_succ, List.getElem_toArray, List.getElem_cons_zero]
      refine wpAnyH_ready (rs := [1]) (by kernel_rfl) (by simp) ?_
      refine AllReadyH.cons (o := _) rfl (fun K hK => ?_) AllReadyH.nil
      go_simp
      go_at_call 57
      refine HV.out.mono ?_
      rintro e w1 ⟨rfl, hv1⟩
      have S1 := MB.below Sd hv1
      refine hK.out _ _ S1 (fun hHeld => ?_)
      clear hK K
      try simp only [Act.put, List.setIfInBounds_toArray, List.set_cons_zero, List.set_cons_succ, List.getElem_toArray, List.getElem_cons_zero, List.getElem_cons_succ]
      refine wpAnyH_take (i := 2) (oi := _) (v := ?v37) rfl (by kernel_rfl) (by kernel_rfl) (by kernel_rfl) (fun _ _ _ h => h) (Or.inl ⟨by rfl, ?y37⟩) (by assumption) ?r37
      case y37 => (intro w' hSw; (try dsimp only at hSw); go_simp <;> with_reducible rfl)
      try simp only [Act.put, List.setIfInBounds_toArray, List.set_cons_zero, List.set_cons_succ, List.getElem_toArray, List.getElem_cons_zero, List.getElem_cons_succ]
      refine wpAnyH_take (i := 3) (oi := _) (v := ?v38) rfl (by kernel_rfl) (by kernel_rfl) (by kernel_rfl) (fun _ _ _ h => h) (Or.inl ⟨by rfl, ?y38⟩) (by assumption) ?r38
      case y38 => (intro w' hSw; (try dsimp only at hSw); go_simp <;> with_reducible rfl)
      try simp only [Act.put, List.setIfInBounds_toArray, List.set_cons_zero, List.set_cons_succ, List.getElem_toArray, List.getElem_cons_zero, List.getElem_cons_succ]
      refine wpAnyH_take (i := 4) (oi := _) (v := ?v39) rfl (by kernel_rfl) (by kernel_rfl) (by kernel_rfl) (fun _ _ _ h => h) (Or.inl ⟨by rfl, ?y39⟩) (by assumption) ?r39
      case y39 => (intro w' hSw; (try dsimp only at hSw); go_simp <;> with_reducible rfl)
      try simp only [Act.put, List.setIfInBounds_toArray, List.set_cons_zero, List.set_cons_succ, List.getElem_toArray, List.getElem_cons_zero, List.getElem_cons_succ]
      refine wpAnyH_take (i := 5) (oi := _) (v := ?v40) rfl (by kernel_rfl) (by kernel_rfl) (by kernel_rfl) (fun _ _ _ h => h) (Or.inl ⟨by rfl, ?y40⟩) (by assumption) ?r40
      case y40 => (intro w' hSw; (try dsimp only at hSw); go_simp <;> with_reducible rfl)
      try simp only [Act.put, List.setIfInBounds_toArray, List.set_cons_zero, List.set_cons_succ, List.getElem_toArray, List.getElem_cons_zero, List.getElem_cons_succ]
      refine wpAnyH_take (i := 6) (oi := _) (v := ?v41) rfl (by kernel_rfl) (by kernel_rfl) (by kernel_rfl) (fun _ _ _ h => h) (Or.inl ⟨by rfl, ?y41⟩) (by assumption) ?r41
      case y41 => (intro w' hSw; (try dsimp only at hSw); go_simp <;> with_reducible rfl)
      try simp only [Act.put, List.setIfInBounds_toArray, List.set_cons_zero, List.set_cons_succ, List.getElem_toArray, List.getElem_cons_zero, List.getElem_cons_succ]
      refine wpAnyH_take (i := 7) (oi := _) (v := ?v42) rfl (by kernel_rfl) (by kernel_rfl) (by kernel_rfl) (fun _ _ _ h => h) (Or.inl ⟨by rfl, ?y42⟩) (by assumption) ?r42
      case y42 => (intro w' hSw; (try dsimp only at hSw); go_simp <;> with_reducible rfl)
      try simp only [Act.put, List.setIfInBounds_toArray, List.set_cons_zero, List.set_cons_succ, List.getElem_toArray, List.getElem_cons_zero, List.getElem_cons_succ]
      refine wpAnyH_take (i := 8) (oi := _) (v := ?v43) rfl (by kernel_rfl) (by kernel_rfl) (by kernel_rfl) (fun _ _ _ h => h) (Or.inl ⟨by rfl, ?y43⟩) (by assumption) ?r43
      case y43 => (intro w' hSw; (try dsimp only at hSw); go_simp <;> with_reducible rfl)
      try simp only [Act.put, List.setIfInBounds_toArray, List.set_cons_zero, List.set_cons_succ, List.getElem_toArray, List.getElem_cons_zero, List.getElem_cons_succ]
      refine wpAnyH_take (i := 9) (oi := _) (v := ?v44) rfl (by kernel_rfl) (by kernel_rfl) (by kernel_rfl) (fun _ _ _ h => h) (Or.inl ⟨by rfl, ?y44⟩) (by assumption) ?r44
      case y44 => (intro w' hSw; (try dsimp only at hSw); go_simp <;> with_reducible rfl)
      try simp only [Act.put, List.setIfInBounds_toArray, List.set_cons_zero, List.set_cons_succ, List.getElem_toArray, List.getElem_cons_zero, List.getElem_cons_succ]
      refine wpAnyH_take (i := 10) (oi := _) (v := ?v45) rfl (by kernel_rfl) (by kernel_rfl) (by kernel_rfl) (fun _ _ _ h => h) (Or.inl ⟨by rfl, ?y45⟩) (by assumption) ?r45
      case y45 => (intro w' hSw; (try dsimp only at hSw); go_simp <;> with_reducible rfl)
      try simp only [Act.put, List.setIfInBounds_toArray, List.set_cons_zero, List.set_cons_succ, List.getElem_toArray, List.getElem_cons_zero, List.getElem_cons_succ]
      refine wpAnyH_take (i := 11) (oi := _) (v := ?v46) rfl (by kernel_rfl) (by kernel_rfl) (by kernel_rfl) (fun _ _ _ h => h) (Or.inl ⟨by rfl, ?y46⟩) (by assumption) ?r46
      case y46 => (intro w' hSw; (try dsimp only at hSw); go_simp <;> with_reducible rfl)
      try simp only [Act.put, List.setIfInBounds_toArray, List.set_cons_zero, List.set_cons_succ, List.getElem_toArray, List.getElem_cons_zero, List.getElem_cons_succ]
      refine wpAnyH_take (i := 12) (oi := _) (v := ?v47) rfl (by kernel_rfl) (by kernel_rfl) (by kernel_rfl) (fun _ _ _ h => h) (Or.inl ⟨by rfl, ?y47⟩) (by assumption) ?r47
      case y47 => (intro w' hSw; (try dsimp only at hSw); go_simp <;> with_reducible rfl)
      try simp only [Act.put, List.setIfInBounds_toArray, List.set_cons_zero, List.set_cons_succ, List.getElem_toArray, List.getElem_cons_zero, List.getElem_cons_succ]
      refine wpAnyH_take (i := 13) (oi := _) (v := ?v48) rfl (by kernel_rfl) (by kernel_rfl) (by kernel_rfl) (fun _ _ _ h => h) (Or.inl ⟨by rfl, ?y48⟩) (by assumption) ?r48
      case y48 => (intro w' hSw; (try dsimp only at hSw); go_simp <;> with_reducible rfl)
      try simp only [Act.put, List.setIfInBounds_toArray, List.set_cons_zero, List.set_cons_succ, List.getElem_toArray, List.getElem_cons_zero, List.getElem_cons_succ]
      refine wpAnyH_ready (rs := [14]) (by kernel_rfl) (by simp) ?_
      refine AllReadyH.cons (o := _) rfl (fun K hK => ?_) AllReadyH.nil
      go_simp
      go_at_call 42
      refine (HC.out _).mono ?_
      rintro e w2 ⟨rfl, hv2⟩
      have S2 := MB.below S1 hv2
      refine hK.out _ _ S2 (fun hHeld => ?_)
      clear hK K
      try simp only [Act.put, List.setIfInBounds_toArray, List.set_cons_zero, List.set_cons_succ, List.getElem_toArray, List.getElem_cons_zero, List.getElem_cons_succ]
      refine wpAnyH_take (i := 15) (oi := _) (v := ?v49) rfl (by kernel_rfl) (by kernel_rfl) (by kernel_rfl) (fun _ _ _ h => h) (Or.inl ⟨by rfl, ?y49⟩) (by assumption) ?r49
      case y49 => (intro w' hSw; (try dsimp only at hSw); go_simp <;> with_reducible rfl)
      try simp only [Act.put, List.setIfInBounds_toArray, List.set_cons_zero, List.set_cons_succ, List.getElem_toArray, List.getElem_cons_zero, List.getElem_cons_succ]
      refine wpAnyH_take (i := 16) (oi := _) (v := ?v50) rfl (by kernel_rfl) (by kernel_rfl) (by kernel_rfl) (fun _ _ _ h => h) (Or.inl ⟨by rfl, ?y50⟩) (by assumption) ?r50
      case y50 => (intro w' hSw; (try dsimp only at hSw); go_simp <;> with_reducible rfl)
      try simp only [Act.put, List.setIfInBounds_toArray, List.set_cons_zero, List.set_cons_succ, List.getElem_toArray, List.getElem_cons_zero, List.getElem_cons_succ]
      refine wpAnyH_take (i := 17) (oi := _) (v := ?v51) rfl (by kernel_rfl) (by kernel_rfl) (by kernel_rfl) (fun _ _ _ h => h) (Or.inl ⟨by rfl, ?y51⟩) (by assumption) ?r51
      case y51 => (intro w' hSw; (try dsimp only at hSw); go_simp <;> with_reducible rfl)
      try simp only [Act.put, List.setIfInBounds_toArray, List.set_cons_zero, List.set_cons_succ, List.getElem_toArray, List.getElem_cons_zero, List.getElem_cons_succ]
      refine wpAnyH_take (i := 18) (oi := _) (v := ?v52) rfl (by kernel_rfl) (by kernel_rfl) (by kernel_rfl) (fun _ _ _ h => h) (Or.inl ⟨by rfl, ?y52⟩) (by assumption) ?r52
      case y52 => (intro w' hSw; (try dsimp only at hSw); go_simp <;> with_reducible rfl)
      try simp only [Act.put, List.setIfInBounds_toArray, List.set_cons_zero, List.set_cons_succ, List.getElem_toArray, List.getElem_cons_zero, List.getElem_cons_succ]
      refine wpAnyH_done (by kernel_rfl) ?_ _
      have R := Lib.hid (HD.out.trans ((hv1.trans (hv2.mono hv1.size)).mono HD.out.size))
      clear S1 S2 Sd hv1 hv2
      go_wp2
      go_ret
      exact ⟨rfl, R.out⟩
end Go.Proofs.Ytghfhojpnbpjoaa

namespace Go.Proofs.Ytghfhojpnbpjoaa
open Go.RowKit
set_option linter.unusedVariables false
set_option maxRecDepth 100000

/-- what makeBlock's visit keeps -/
def MbR (w0 : World) (g B : Nat) (A : Option Addr) (n c : Nat) (S : List En) (W : World) : Prop := Below w0.heap.size w0 W ∧ LBox W g A n c ∧ EL W B A n c S
theorem mb_vis (w0 : World) (g B : Nat) (A : Option Addr) (n c : Nat) (S : List En) :
    Vis (S.map En.v) 56 #[.pointer (some ⟨g, 0, none⟩)] (goodAt S) (fun _ => MbR w0 g B A n c S) (MbR w0 g B A n c S) where
  ent := enters_of Try.func56 (by kernel_rfl) rfl
  go k v W hv hR := by
    rw [List.getElem?_map] at hv
    obtain ⟨x, hx, rfl⟩ : ∃ x, S[k]? = some x ∧ v = x.v := by
      cases h : S[k]? with
      | none => rw [h] at hv; cases hv
      | some x => rw [h] at hv; injection hv with hv; exact ⟨x, rfl, hv.symm⟩
    refine (mb1_any S k x hx g A n c B W hR.2.2 hR.2.1).mono fun e W' ⟨he, hb⟩ => ?_
    have h : MbR w0 g B A n c S W' := ⟨hR.1.trans (hb.mono hR.1.size), hR.2.1.below hb hR.2.1.lt, hR.2.2.below hb⟩
    exact ⟨he, fun _ => h, fun _ => h⟩
  up k W W' hR hb := ⟨hR.1.trans (hb.mono hR.1.size), hR.2.1.below hb hR.2.1.lt, hR.2.2.below hb⟩

/-- the answer of makeBlock -/
theorem vis_ok {S : List En} {n : Nat} {e : Ending} {w' w0 : World} {g B c : Nat} {A : Option Addr} (hn : S.length = n) (h1 : 1 ≤ n) (h2 : n ≤ 64) (h : VisP n (goodAt S) (fun _ => MbR w0 g B A n c S) (MbR w0 g B A n c S) e w') :
    ∃ k : Nat, e = .returned (.int .i64 (k : Int)) ∧ okB S = decide (k = n) ∧ MbR w0 g B A n c S w' := by
  obtain ⟨k, hk, he, hz, h3⟩ := h
  refine ⟨k, he, ?_, ?_⟩
  · rcases h3 with ⟨rfl, _⟩ | ⟨hlt, hg, _⟩
    · rw [decide_eq_true rfl]
      exact (okB_good S (by omega) (by omega)).2 fun j hj => hz j (by omega)
    · rw [decide_eq_false (by omega)]
      cases hq : okB S with
      | false => rfl
      | true => have := (okB_good S (by omega) (by omega)).1 hq k (by omega); rw [this] at hg; cases hg
  · rcases h3 with ⟨_, h⟩ | ⟨_, _, h⟩ <;> exact h

set_option maxHeartbeats 1000000 in
theorem make_any (S : List En) (A : Option Addr) (n c B : Nat) (w : World) (hL : EL w B A n c S) :
    Calls Try.prog 30 #[.slice A n c] w fun e w' => e = .returned (.bool (okB S)) ∧ Below w.heap.size w w' := by
  have hln := hL.lies.elen
  have hB : Below w.heap.size w (w.alloc (.cells #[.slice A n c] 22)) := (Below.refl _ _).alloc (Nat.le_refl _) _
  have hbx : LBox (w.alloc (.cells #[.slice A n c] 22)) w.heap.size A n c := Box.new w _ _
  have hcell := hbx.cell
  have hR : MbR w w.heap.size B A n c S (w.alloc (.cells #[.slice A n c] 22)) := ⟨hB, hbx, hL.below hB⟩
  have hmx := hL.cc
  have hnc := hL.nc
  unfold maxLen at hmx
  have HVI := Lib.hid (visitE_any S A n c B 56 #[.pointer (some ⟨w.heap.size, 0, none⟩)] (goodAt S) (fun _ => MbR w w.heap.size B A n c S) (MbR w w.heap.size B A n c S) (w.alloc (.cells #[.slice A n c] 22))
    (mb_vis w w.heap.size B A n c S) (fun _ W h => ⟨h.2.2.B, h.2.2.lies⟩) (by omega) hR)
  have HL := Lib.hid hln; have HB := Lib.hid hB
  have hmf : ∀ (fn : Fn) (first cap : Array Value) (w : World), (Instr.makeFunc fn first cap).run Try.prog w = .ok (.func fn first cap) w := fun _ _ _ _ => rfl
  clear hB hbx hR hL hln hmx hnc
  by_cases h1 : n < 1
  · have HR : Hid (okB S = false) := by unfold Hid okB; rw [decide_eq_false (by have := HL.out; omega)]; rfl
    have h1' : (n : Int) < 1 := by omega
    rw [HR.out]
    go_enter Try.func30, Try.ntmps30
    go_wp2
    go_ret
    exact ⟨rfl, HB.out⟩
  · have h1' : ¬ (n : Int) < 1 := by omega
    by_cases h2 : 64 < n
    · have HR : Hid (okB S = false) := by unfold Hid okB; rw [decide_eq_false (p := S.length ≤ 64) (by have := HL.out; omega)]; simp
      have h2' : (64 : Int) < (n : Int) := by omega
      rw [HR.out]
      go_enter Try.func30, Try.ntmps30
      go_wp2
      go_ret
      exact ⟨rfl, HB.out⟩
    · have h2' : ¬ (64 : Int) < (n : Int) := by omega
      go_enter Try.func30, Try.ntmps30
      go_wp2_with fail
      refine HVI.out.mono ?_
      rintro e w1 hv
      obtain ⟨k, rfl, hok, hR⟩ := vis_ok HL.out (by omega) (by omega) hv
      have hc1 := hR.2.1.cell
      have HR := Lib.hid hR.1
      have HO := Lib.hid hok
      have hkd : ((k : Int) == (n : Int)) = decide (k = n) := by
        rw [Bool.eq_iff_iff, beq_iff_eq, decide_eq_true_eq]; omega
      clear hv hR hok hcell
      go_wp2
      go_ret
      exact ⟨by rw [HO.out]; rfl, HR.out⟩

/-! commonPrefix -/
abbrev SBox (w : World) (g : Nat) (s : ByteArray) : Prop := Box w g 9 (.string s)
/-- do two keys agree at a place? -/
def alikeAt (a b : ByteArray) (k : Nat) : Bool := decide (k < b.size) && decide (a.data.toList[k]? = b.data.toList[k]?)
set_option maxHeartbeats 1000000 in
theorem cp1_any (a b : ByteArray) (k : Nat) (x : UInt8) (hx : a.data.toList[k]? = some x) (g : Nat) (W : World) (hb : SBox W g b) (hs : b.size ≤ 140737488351232) (hk : k < 9223372036854775807) :
    Calls Try.prog 94 #[.int .i64 (k : Int), bv x, .pointer (some ⟨g, 0, none⟩)] W fun e W' => e = .returned (.bool (alikeAt a b k)) ∧ W = W' := by
  have hc := hb.cell
  clear hb
  by_cases h1 : k < b.size
  · have h1' : (k : Int) < (b.size : Int) := by omega
    have hbk : b.data.toList[k]? = some b[k] := by
      rw [Array.getElem?_toList, Array.getElem?_eq_getElem h1]; rfl
    have HR : Hid (alikeAt a b k = decide (x = b[k])) := by
      unfold Hid alikeAt; rw [decide_eq_true h1, hx, hbk]; simp
    have HE : Hid (((x.toNat : Int) == (b[k].toNat : Int)) = decide (x = b[k])) := by
      unfold Hid
      rw [Bool.eq_iff_iff, beq_iff_eq, decide_eq_true_eq, ← UInt8.toNat_inj]; omega
    clear hx hbk
    go_enter Try.func94, Try.ntmps94
    go_wp2
    go_ret
    exact ⟨by rw [HR.out, ← HE.out]; rfl, rfl⟩
  · have h1' : ¬ (k : Int) < (b.size : Int) := by omega
    have HR : Hid (alikeAt a b k = false) := by
      unfold Hid alikeAt; rw [decide_eq_false h1]; rfl
    clear hx
    go_enter Try.func94, Try.ntmps94
    go_wp2
    go_ret
    exact ⟨by rw [HR.out]; rfl, rfl⟩
def CpR (w0 : World) (g : Nat) (a b : ByteArray) (n B : Nat) (A : Option Addr) (W : World) : Prop := Below w0.heap.size w0 W ∧ SBox W g b ∧ Lies W B 1 A n (a.data.toList.map bv) ∧ B ≤ W.heap.size
def CpF (w0 : World) (W : World) : Prop := Below w0.heap.size w0 W
theorem cp_vis (a b : ByteArray) (g : Nat) (w0 : World) (n B : Nat) (A : Option Addr) (hs : b.size ≤ 140737488351232) (ha : a.size ≤ 140737488351232) :
    Vis (a.data.toList.map bv) 94 #[.pointer (some ⟨g, 0, none⟩)] (alikeAt a b) (fun _ => CpR w0 g a b n B A) (CpF w0) where
  ent := enters_of Try.func94 (by kernel_rfl) rfl
  go k v W hv hR := by
    rw [List.getElem?_map] at hv
    obtain ⟨x, hx, rfl⟩ : ∃ x, a.data.toList[k]? = some x ∧ v = bv x := by
      cases h : a.data.toList[k]? with
      | none => rw [h] at hv; cases hv
      | some x => rw [h] at hv; injection hv with hv; exact ⟨x, rfl, hv.symm⟩
    have hk := (List.getElem?_eq_some_iff.1 hx).1
    rw [slen] at hk
    refine (cp1_any a b k x hx g W hR.2.1 hs (by omega)).mono fun e W' ⟨he, hb⟩ => ?_
    subst hb
    exact ⟨he, fun _ => hR, fun _ => hR.1⟩
  up k W W' hR hb := ⟨hR.1.trans (hb.mono hR.1.size), hR.2.1.below hb hR.2.1.lt, hR.2.2.1.keep fun p hp => hb.cell (Nat.lt_of_lt_of_le hp hR.2.2.2), Nat.le_trans hR.2.2.2 hb.size⟩
theorem alike_cp {a b : ByteArray} {k : Nat} (hk : k ≤ a.size) (hz : ∀ j, j < k → alikeAt a b j = true) (hf : k < a.size → alikeAt a b k = false) : cpK a b = k := by
  refine cpl_eq _ _ k (by rw [slen]; exact hk) (fun j hj => ?_) (fun hl => ?_)
  · have := hz j hj
    unfold alikeAt at this
    simp only [Bool.and_eq_true, decide_eq_true_eq] at this
    rw [slen]; exact this
  · rw [slen] at hl ⊢
    rintro ⟨h1, h2⟩
    have := hf hl
    unfold alikeAt at this
    rw [decide_eq_true h1, decide_eq_true h2] at this
    cases this
set_option maxHeartbeats 1000000 in
theorem common_any (a b : ByteArray) (w : World) (ha : a.size ≤ 140737488351232) (hs : b.size ≤ 140737488351232) :
    Calls Try.prog 83 #[.string a, .string b] w fun e w' => e = .returned (.int .i64 (cpK a b : Int)) ∧ Below w.heap.size w w' := by
  have hB : Below w.heap.size w (w.alloc (.cells #[.string b] 9)) := (Below.refl _ _).alloc (Nat.le_refl _) _
  have hbx : SBox (w.alloc (.cells #[.string b] 9)) w.heap.size b := Box.new w _ _
  obtain ⟨w1, c1, hrun, hb1, hl1⟩ := conv_bytes (w.alloc (.cells #[.string b] 9)) a
  have hbx1 : SBox w1 w.heap.size b := hbx.below hb1 hbx.lt
  have hz : (w.alloc (.cells #[.string b] 9)).heap.size = w.heap.size + 1 := by simp
  have hbw := hB.trans (hb1.mono hB.size)
  rw [hz] at hrun hl1
  have HVI := Lib.hid (visitB_any a.data.toList (some ⟨w.heap.size + 1, 0, none⟩) a.size c1 w1.heap.size 94 #[.pointer (some ⟨w.heap.size, 0, none⟩)] (alikeAt a b)
    (fun _ => CpR w w.heap.size a b a.size w1.heap.size (some ⟨w.heap.size + 1, 0, none⟩)) (CpF w) w1
    (cp_vis a b w.heap.size w a.size w1.heap.size _ hs ha) (fun _ W h => h.2.2.1) (by omega) ⟨hbw, hbx1, hl1, Nat.le_refl _⟩)
  have hmf : ∀ (fn : Fn) (first cap : Array Value) (w : World), (Instr.makeFunc fn first cap).run Try.prog w = .ok (.func fn first cap) w := fun _ _ _ _ => rfl
  clear hB hbx hb1 hl1 hbx1 hbw hz
  go_enter Try.func83, Try.ntmps83
  go_wp2_with fail
  refine HVI.out.mono ?_
  rintro e w2 ⟨k, hk, rfl, hz, h3⟩
  have HR : Hid (cpK a b = k ∧ Below w.heap.size w w2) := by
    rcases h3 with ⟨rfl, h⟩ | ⟨hlt, hg, h⟩
    · exact ⟨alike_cp hk hz (fun h => by omega), h.1⟩
    · exact ⟨alike_cp hk hz (fun _ => hg), h⟩
  clear hz h3 hrun
  go_wp2
  go_ret
  exact ⟨by rw [HR.out.1]; rfl, HR.out.2⟩
end Go.Proofs.Ytghfhojpnbpjoaa

namespace Go.Proofs.Ytghfhojpnbpjoaa
open Go.RowKit
set_option linter.unusedVariables false
set_option maxRecDepth 100000

/-- an entry with a value; gone, if it has none -/
def mkE (k : ByteArray) (s : Nat) (v : ByteArray) : En := ⟨⟨k, s, v.toList.isEmpty⟩, v⟩
/-- a literal list of entries -/
theorem lits_lieE {w : World} {g : Nat} (hg : g = w.heap.size) (l : List En) : Lies (w.alloc (.cells (ecs l).toArray 40)) (g + 1) 4 (some ⟨g, 0, none⟩) l.length (ecs l) := by
  subst hg
  refine ⟨by rw [ecs_len], fun j hj => ⟨_, (ecs l)[j], rfl, by simp, List.getElem?_eq_getElem hj, ?_⟩⟩
  rw [add_lit]
  have h : (w.alloc (.cells (ecs l).toArray 40)).heap[w.heap.size]? = some (.cells (ecs l).toArray 40 (0, 0)) := heap_alloc_new w _
  rw [Nat.zero_add, cell_of_row _ w.heap.size j (ecs l).toArray 40 (0, 0) h, List.getElem?_toArray]
  exact List.getElem?_eq_getElem hj
theorem lit_EL (w : World) (l : List En) (n : Nat) (hn : l.length = n) (h2 : n ≤ 1000) (hs : ∀ e ∈ l, e.m.k.size ≤ 140737488351232 ∧ e.x.size ≤ 140737488351232) :
    EL (w.alloc (.cells (ecs l).toArray 40)) (w.heap.size + 1) (some ⟨w.heap.size, 0, none⟩) n n l := by
  subst hn
  exact ⟨lits_lieE rfl l, by simp, Nat.le_refl _, by unfold maxLen; omega, hs⟩

end Go.Proofs.Ytghfhojpnbpjoaa

