/-
  Plain mathematics: an edit as bytes, and back.
-/
import Derived.Test.YtnnocjnmfabnaaaEdM
import Derived.Test.YtnnocjnmfabnaaaEnX
namespace Go.Proofs.Ytnnocjnmfabnaaa
set_option linter.unusedVariables false

/-- an edit -/
structure Edt where
  add : List Fi
  rem : List Nat
  jn : Nat
  nx : Nat
  sq : Nat
def txtB (s : ByteArray) : List UInt8 := Vi.enc s.size ++ s.data.toList
def encFi (f : Fi) : List UInt8 := Vi.enc f.num ++ (Vi.enc f.lv.toNat ++ (txtB f.a ++ txtB f.z))
def encEd (x : Edt) : List UInt8 := Vi.enc x.add.length ++ (x.add.flatMap encFi ++ (Vi.enc x.rem.length ++ (x.rem.flatMap Vi.enc ++ (Vi.enc x.jn ++ (Vi.enc x.nx ++ Vi.enc x.sq)))))
/-- may an edit be? -/
def okEd (x : Edt) : Bool := x.add.all okFi
/-- how great an edit's numbers may be -/
structure SzEd (x : Edt) : Prop where
  add : ∀ f ∈ x.add, f.num < 4294967296
  rem : ∀ k ∈ x.rem, k < 4294967296
  jn : x.jn < 4294967296
  nx : x.nx < 4294967296
  sq : x.sq < 18446744073709551616
  la : x.add.length < 18446744073709551616
  lr : x.rem.length < 18446744073709551616

/-- the bytes that are not read yet, and whether it is bad -/
abbrev RS := List UInt8 × Bool
def rdN (s : RS) : Nat × RS := ((Vi.get s.1).1, (s.1.drop (Vi.get s.1).2.1, s.2 || decide ((Vi.get s.1).2.2 ≠ 0)))
def rdT (s : RS) : ByteArray × RS := (⟨(getText s.1).1.toArray⟩, (s.1.drop (getText s.1).2.1, s.2 || decide ((getText s.1).2.2 ≠ 0)))
def rdU (m : Nat) (s : RS) : Nat × RS := ((rdN s).1, ((rdN s).2.1, (rdN s).2.2 || decide (m < (rdN s).1)))
def rdS (s : RS) : Nat × RS := ((rdU 4294967295 s).1 % 4294967296, (rdU 4294967295 s).2)
/-- a file's parts -/
def rdF1 (s : RS) : RS := (rdS s).2
def rdF2 (s : RS) : RS := (rdU 3 (rdF1 s)).2
def rdF3 (s : RS) : RS := (rdT (rdF2 s)).2
def rdF4 (s : RS) : RS := (rdT (rdF3 s)).2
def rdFi (s : RS) : Fi := ⟨(rdS s).1, IntKind.i64.wrap ((rdU 3 (rdF1 s)).1 : Int), (rdT (rdF2 s)).1, (rdT (rdF3 s)).1⟩
def rdF (s : RS) : Fi × RS := (rdFi s, ((rdF4 s).1, (rdF4 s).2 || !okFi (rdFi s)))
def rdL {α : Type} (rd : RS → α × RS) : Nat → RS → Option (List α) × RS
  | 0, s => (some [], s)
  | k + 1, s => if (rd s).2.2 = true then (none, (rd s).2) else ((rdL rd k (rd s).2).1.map ((rd s).1 :: ·), (rdL rd k (rd s).2).2)
def rdAll {α : Type} (rd : RS → α × RS) (s : RS) : Option (List α) × RS := rdL rd (rdN s).1 (rdN s).2
/-- an edit's parts -/
def rdE1 (s : RS) : RS := (rdAll rdF s).2
def rdE2 (s : RS) : RS := (rdAll rdS (rdE1 s)).2
def rdE3 (s : RS) : RS := (rdS (rdE2 s)).2
def rdE4 (s : RS) : RS := (rdS (rdE3 s)).2
def rdE5 (s : RS) : RS := (rdN (rdE4 s)).2
def rdEd (s : RS) : Edt := ⟨(rdAll rdF s).1.getD [], (rdAll rdS (rdE1 s)).1.getD [], (rdS (rdE2 s)).1, (rdS (rdE3 s)).1, (rdN (rdE4 s)).1⟩
/-- what is got of any bytes -/
def gotEd (b : List UInt8) : Option Edt := if (rdE5 (b, false)).2 = true ∨ (rdE5 (b, false)).1 ≠ [] then none else some (rdEd (b, false))

/-! what was put is read -/
theorem rdN_enc (n : Nat) (r : List UInt8) (hn : n < 18446744073709551616) : rdN (Vi.enc n ++ r, false) = (n, (r, false)) := by
  unfold rdN
  rw [Vi.get_enc n r hn]
  simp
theorem rdT_enc (s : ByteArray) (r : List UInt8) (hs : s.size < 18446744073709551616) : rdT (txtB s ++ r, false) = (s, (r, false)) := by
  unfold rdT txtB
  rw [List.append_assoc, getText_enc s r hs, ← List.append_assoc]
  dsimp only
  rw [List.drop_left' (by rw [List.length_append, slen])]
  simp
theorem rdU_enc {m n : Nat} (r : List UInt8) (hn : n < 18446744073709551616) (hm : n ≤ m) : rdU m (Vi.enc n ++ r, false) = (n, (r, false)) := by
  unfold rdU
  rw [rdN_enc n r hn]
  simp; omega
theorem rdS_enc {n : Nat} (r : List UInt8) (hn : n < 4294967296) : rdS (Vi.enc n ++ r, false) = (n, (r, false)) := by
  unfold rdS
  rw [rdU_enc r (by omega) (by omega)]
  rw [Nat.mod_eq_of_lt hn]
theorem okFi_iff (f : Fi) : okFi f = true ↔ 0 ≤ f.lv ∧ f.lv < 4 ∧ chk f.a = true ∧ chk f.z = true ∧ lessB f.z f.a = false := by
  unfold okFi
  simp only [Bool.and_eq_true, decide_eq_true_eq, Bool.not_eq_true']
theorem chk_size {s : ByteArray} (h : chk s = true) : 1 ≤ s.size ∧ s.size ≤ 32 := of_decide_eq_true h
theorem rdF_enc {f : Fi} (r : List UInt8) (h : okFi f = true) (hn : f.num < 4294967296) : rdF (encFi f ++ r, false) = (f, (r, false)) := by
  obtain ⟨h1, h2, h3, h4, _⟩ := (okFi_iff f).1 h
  have z3 := chk_size h3; have z4 := chk_size h4
  have e1 : rdS (encFi f ++ r, false) = (f.num, (Vi.enc f.lv.toNat ++ (txtB f.a ++ (txtB f.z ++ r)), false)) := by
    unfold encFi; simp only [List.append_assoc]; exact rdS_enc _ hn
  have q1 : rdF1 (encFi f ++ r, false) = (Vi.enc f.lv.toNat ++ (txtB f.a ++ (txtB f.z ++ r)), false) := by unfold rdF1; rw [e1]
  have e2 : rdU 3 (rdF1 (encFi f ++ r, false)) = (f.lv.toNat, (txtB f.a ++ (txtB f.z ++ r), false)) := by rw [q1]; exact rdU_enc _ (by omega) (by omega)
  have q2 : rdF2 (encFi f ++ r, false) = (txtB f.a ++ (txtB f.z ++ r), false) := by unfold rdF2; rw [e2]
  have e3 : rdT (rdF2 (encFi f ++ r, false)) = (f.a, (txtB f.z ++ r, false)) := by rw [q2]; exact rdT_enc _ _ (by omega)
  have q3 : rdF3 (encFi f ++ r, false) = (txtB f.z ++ r, false) := by unfold rdF3; rw [e3]
  have e4 : rdT (rdF3 (encFi f ++ r, false)) = (f.z, (r, false)) := by rw [q3]; exact rdT_enc _ _ (by omega)
  have q4 : rdF4 (encFi f ++ r, false) = (r, false) := by unfold rdF4; rw [e4]
  have q5 : rdFi (encFi f ++ r, false) = f := by
    unfold rdFi
    rw [e1, e2, e3, e4]
    refine Fi.ext' rfl ?_ rfl rfl
    show IntKind.i64.wrap ((f.lv.toNat : Nat) : Int) = f.lv
    rw [IntWalk.i64_in] <;> omega
  unfold rdF
  rw [q4, q5, h]; rfl
theorem rdL_enc {α : Type} {rd : RS → α × RS} {en : α → List UInt8} : ∀ (xs : List α) (r : List UInt8), (∀ x ∈ xs, ∀ r, rd (en x ++ r, false) = (x, (r, false))) → rdL rd xs.length (xs.flatMap en ++ r, false) = (some xs, (r, false))
  | [], r, _ => rfl
  | x :: xs, r, h => by
    have h1 := h x (by simp) (xs.flatMap en ++ r)
    have ih := rdL_enc xs r (fun y hy => h y (by simp [hy]))
    rw [List.length_cons, List.flatMap_cons, List.append_assoc]
    unfold rdL
    rw [h1]
    dsimp only
    rw [ih]
    simp
theorem rdAll_enc {α : Type} {rd : RS → α × RS} {en : α → List UInt8} (xs : List α) (r : List UInt8) (hl : xs.length < 18446744073709551616) (h : ∀ x ∈ xs, ∀ r, rd (en x ++ r, false) = (x, (r, false))) : rdAll rd (Vi.enc xs.length ++ (xs.flatMap en ++ r), false) = (some xs, (r, false)) := by
  unfold rdAll
  rw [rdN_enc _ _ hl]
  exact rdL_enc xs r h
theorem rdEd_enc {x : Edt} (h : okEd x = true) (hs : SzEd x) (r : List UInt8) : rdEd (encEd x ++ r, false) = x ∧ rdE5 (encEd x ++ r, false) = (r, false) := by
  have hok : ∀ f ∈ x.add, okFi f = true := List.all_eq_true.1 h
  have e1 : rdAll rdF (encEd x ++ r, false) = (some x.add, (Vi.enc x.rem.length ++ (x.rem.flatMap Vi.enc ++ (Vi.enc x.jn ++ (Vi.enc x.nx ++ (Vi.enc x.sq ++ r)))), false)) := by
    unfold encEd; simp only [List.append_assoc]
    exact rdAll_enc (en := encFi) x.add _ hs.la fun f hf r => rdF_enc r (hok f hf) (hs.add f hf)
  have q1 : rdE1 (encEd x ++ r, false) = (Vi.enc x.rem.length ++ (x.rem.flatMap Vi.enc ++ (Vi.enc x.jn ++ (Vi.enc x.nx ++ (Vi.enc x.sq ++ r)))), false) := by unfold rdE1; rw [e1]
  have e2 : rdAll rdS (rdE1 (encEd x ++ r, false)) = (some x.rem, (Vi.enc x.jn ++ (Vi.enc x.nx ++ (Vi.enc x.sq ++ r)), false)) := by
    rw [q1]; exact rdAll_enc (en := Vi.enc) x.rem _ hs.lr fun k hk r => rdS_enc r (hs.rem k hk)
  have q2 : rdE2 (encEd x ++ r, false) = (Vi.enc x.jn ++ (Vi.enc x.nx ++ (Vi.enc x.sq ++ r)), false) := by unfold rdE2; rw [e2]
  have e3 : rdS (rdE2 (encEd x ++ r, false)) = (x.jn, (Vi.enc x.nx ++ (Vi.enc x.sq ++ r), false)) := by rw [q2]; exact rdS_enc _ hs.jn
  have q3 : rdE3 (encEd x ++ r, false) = (Vi.enc x.nx ++ (Vi.enc x.sq ++ r), false) := by unfold rdE3; rw [e3]
  have e4 : rdS (rdE3 (encEd x ++ r, false)) = (x.nx, (Vi.enc x.sq ++ r, false)) := by rw [q3]; exact rdS_enc _ hs.nx
  have q4 : rdE4 (encEd x ++ r, false) = (Vi.enc x.sq ++ r, false) := by unfold rdE4; rw [e4]
  have e5 : rdN (rdE4 (encEd x ++ r, false)) = (x.sq, (r, false)) := by rw [q4]; exact rdN_enc _ _ hs.sq
  refine ⟨?_, by unfold rdE5; rw [e5]⟩
  unfold rdEd
  rw [e1, e2, e3, e4, e5]
  rfl
theorem gotEd_enc {x : Edt} (h : okEd x = true) (hs : SzEd x) : gotEd (encEd x) = some x := by
  obtain ⟨h1, h2⟩ := rdEd_enc h hs []
  rw [List.append_nil] at h1 h2
  unfold gotEd
  rw [h1, h2]; simp
theorem gotEd_more {x : Edt} (h : okEd x = true) (hs : SzEd x) (c : UInt8) (r : List UInt8) : gotEd (encEd x ++ c :: r) = none := by
  obtain ⟨h1, h2⟩ := rdEd_enc h hs (c :: r)
  unfold gotEd
  rw [h2]; simp

/-! what is read stood there -/
theorem rdN_ok {s : RS} (h : (rdN s).2.2 = false) : s.2 = false ∧ s.1 = Vi.enc (rdN s).1 ++ (rdN s).2.1 ∧ (rdN s).1 < 18446744073709551616 := by
  unfold rdN at h ⊢
  dsimp only at h ⊢
  rw [Bool.or_eq_false_iff, decide_eq_false_iff_not, Decidable.not_not] at h
  obtain ⟨h0, h⟩ := h
  rcases hg : Vi.get s.1 with ⟨n, t, e⟩
  rw [hg] at h
  dsimp only at h ⊢
  subst h
  obtain ⟨b1, _, _, _, b5⟩ := Vi.get_back s.1 n t hg
  exact ⟨h0, by rw [← b5, List.take_append_drop], b1⟩
theorem rdT_ok {s : RS} (h : (rdT s).2.2 = false) : s.2 = false ∧ s.1 = txtB (rdT s).1 ++ (rdT s).2.1 := by
  unfold rdT at h ⊢
  dsimp only at h ⊢
  rw [Bool.or_eq_false_iff, decide_eq_false_iff_not, Decidable.not_not] at h
  obtain ⟨h0, h⟩ := h
  rcases hg : getText s.1 with ⟨a, t, e⟩
  rw [hg] at h
  dsimp only at h ⊢
  subst h
  obtain ⟨_, _, _, _, b5⟩ := getText_back s.1 a t hg
  refine ⟨h0, ?_⟩
  unfold txtB
  have e1 : (⟨a.toArray⟩ : ByteArray).size = a.length := by rw [← slen]
  rw [e1]
  show _ = Vi.enc a.length ++ a ++ _
  rw [← b5, List.take_append_drop]
theorem rdU_ok {m : Nat} {s : RS} (h : (rdU m s).2.2 = false) : s.2 = false ∧ s.1 = Vi.enc (rdU m s).1 ++ (rdU m s).2.1 ∧ (rdU m s).1 ≤ m := by
  unfold rdU at h ⊢
  dsimp only at h ⊢
  rw [Bool.or_eq_false_iff, decide_eq_false_iff_not] at h
  obtain ⟨h1, h2, _⟩ := rdN_ok h.1
  exact ⟨h1, h2, by omega⟩
theorem rdS_ok {s : RS} (h : (rdS s).2.2 = false) : s.2 = false ∧ s.1 = Vi.enc (rdS s).1 ++ (rdS s).2.1 ∧ (rdS s).1 < 4294967296 := by
  unfold rdS at h ⊢
  dsimp only at h ⊢
  obtain ⟨h1, h2, h3⟩ := rdU_ok h
  rw [Nat.mod_eq_of_lt (by omega)]
  exact ⟨h1, h2, by omega⟩
theorem rdF_ok {s : RS} (h : (rdF s).2.2 = false) : s.2 = false ∧ s.1 = encFi (rdF s).1 ++ (rdF s).2.1 ∧ okFi (rdF s).1 = true ∧ (rdF s).1.num < 4294967296 := by
  unfold rdF at h ⊢
  dsimp only at h ⊢
  rw [Bool.or_eq_false_iff, Bool.not_eq_false'] at h
  obtain ⟨h4, ho⟩ := h
  obtain ⟨a4, b4⟩ := rdT_ok (s := rdF3 s) h4
  obtain ⟨a3, b3⟩ := rdT_ok (s := rdF2 s) a4
  obtain ⟨a2, b2, c2⟩ := rdU_ok (s := rdF1 s) a3
  obtain ⟨a1, b1, c1⟩ := rdS_ok (s := s) a2
  refine ⟨a1, ?_, ho, c1⟩
  rw [b1]
  show _ ++ (rdF1 s).1 = _
  rw [b2]
  show _ ++ (_ ++ (rdF2 s).1) = _
  rw [b3]
  show _ ++ (_ ++ (_ ++ (rdF3 s).1)) = _
  rw [b4]
  have e : (IntKind.i64.wrap ((rdU 3 (rdF1 s)).1 : Int)).toNat = (rdU 3 (rdF1 s)).1 := by
    rw [IntWalk.i64_in] <;> omega
  unfold encFi rdFi
  dsimp only
  rw [e]
  simp only [List.append_assoc]
  rfl
theorem rdL_ok {α : Type} {rd : RS → α × RS} {en : α → List UInt8} {P : α → Prop} (hrd : ∀ s : RS, (rd s).2.2 = false → s.2 = false ∧ s.1 = en (rd s).1 ++ (rd s).2.1 ∧ P (rd s).1) :
    ∀ (k : Nat) (s : RS), (rdL rd k s).2.2 = false → s.2 = false ∧ ∃ xs, (rdL rd k s).1 = some xs ∧ xs.length = k ∧ s.1 = xs.flatMap en ++ (rdL rd k s).2.1 ∧ ∀ x ∈ xs, P x
  | 0, s, h => ⟨h, [], rfl, rfl, rfl, fun x hx => by cases hx⟩
  | k + 1, s, h => by
    unfold rdL at h ⊢
    by_cases hb : (rd s).2.2 = true
    · rw [if_pos hb] at h; rw [hb] at h; cases h
    · rw [if_neg hb] at h ⊢
      have hb0 : (rd s).2.2 = false := by simpa using hb
      obtain ⟨h1, h2, h3⟩ := hrd s hb0
      obtain ⟨_, xs, x1, x2, x3, x4⟩ := rdL_ok hrd k (rd s).2 h
      refine ⟨h1, (rd s).1 :: xs, by dsimp only; rw [x1]; rfl, by rw [List.length_cons, x2], ?_, ?_⟩
      · rw [h2, List.flatMap_cons, List.append_assoc]
        dsimp only
        rw [← x3]
      · intro x hx
        rcases List.mem_cons.1 hx with rfl | hx
        · exact h3
        · exact x4 x hx
theorem rdAll_ok {α : Type} {rd : RS → α × RS} {en : α → List UInt8} {P : α → Prop} (hrd : ∀ s : RS, (rd s).2.2 = false → s.2 = false ∧ s.1 = en (rd s).1 ++ (rd s).2.1 ∧ P (rd s).1) {s : RS} (h : (rdAll rd s).2.2 = false) :
    s.2 = false ∧ ∃ xs, (rdAll rd s).1 = some xs ∧ xs.length < 18446744073709551616 ∧ s.1 = Vi.enc xs.length ++ (xs.flatMap en ++ (rdAll rd s).2.1) ∧ ∀ x ∈ xs, P x := by
  obtain ⟨h1, xs, x1, x2, x3, x4⟩ := rdL_ok hrd (rdN s).1 (rdN s).2 h
  obtain ⟨n1, n2, n3⟩ := rdN_ok h1
  exact ⟨n1, xs, x1, by omega, by rw [n2, x3, x2]; rfl, x4⟩
theorem gotEd_back {b : List UInt8} {x : Edt} (h : gotEd b = some x) : okEd x = true ∧ SzEd x ∧ encEd x = b := by
  unfold gotEd at h
  split at h
  · cases h
  · rename_i hn
    injection h with h
    rw [not_or, Bool.not_eq_true, Decidable.not_not] at hn
    obtain ⟨hn, hr⟩ := hn
    obtain ⟨a5, b5, c5⟩ := rdN_ok (s := rdE4 (b, false)) hn
    obtain ⟨a4, b4, c4⟩ := rdS_ok (s := rdE3 (b, false)) a5
    obtain ⟨a3, b3, c3⟩ := rdS_ok (s := rdE2 (b, false)) a4
    obtain ⟨a2, rs, r1, r2, r3, r4⟩ := rdAll_ok (en := Vi.enc) (P := fun k => k < 4294967296) (fun s => rdS_ok) (s := rdE1 (b, false)) a3
    obtain ⟨a1, fs, f1, f2, f3, f4⟩ := rdAll_ok (en := encFi) (P := fun f => okFi f = true ∧ f.num < 4294967296) (fun s => rdF_ok) (s := (b, false)) a2
    have ex : x = ⟨fs, rs, (rdS (rdE2 (b, false))).1, (rdS (rdE3 (b, false))).1, (rdN (rdE4 (b, false))).1⟩ := by
      rw [← h]; unfold rdEd; rw [f1, r1]; rfl
    subst ex
    refine ⟨List.all_eq_true.2 fun f hf => (f4 f hf).1, ⟨fun f hf => (f4 f hf).2, r4, c3, c4, c5, f2, r2⟩, ?_⟩
    have e5 : (rdN (rdE4 (b, false))).2.1 = [] := hr
    rw [e5, List.append_nil] at b5
    have g1 : b = Vi.enc fs.length ++ (fs.flatMap encFi ++ (rdE1 (b, false)).1) := f3
    have g2 : (rdE1 (b, false)).1 = Vi.enc rs.length ++ (rs.flatMap Vi.enc ++ (rdE2 (b, false)).1) := r3
    have g3 : (rdE2 (b, false)).1 = Vi.enc (rdS (rdE2 (b, false))).1 ++ (rdE3 (b, false)).1 := b3
    have g4 : (rdE3 (b, false)).1 = Vi.enc (rdS (rdE3 (b, false))).1 ++ (rdE4 (b, false)).1 := b4
    unfold encEd
    dsimp only
    conv => rhs; rw [g1, g2, g3, g4, b5]
end Go.Proofs.Ytnnocjnmfabnaaa
