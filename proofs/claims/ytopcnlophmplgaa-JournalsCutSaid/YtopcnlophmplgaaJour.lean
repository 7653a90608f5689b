/-
  Plain facts about journals: parts of records as bytes, what is written, what is read; what is read of what was written, of its first bytes, and of bytes of which some are others.
-/
import Derived.Test.YtopcnlophmplgaaFourP
import Derived.Test.YtopcnlophmplgaaCrc
namespace Go.Proofs.Ytopcnlophmplgaa.Jr
set_option linter.unusedVariables false

/-- how many bytes a block has from a place on -/
def room (pos : Nat) : Nat := 128 - pos % 128
/-- where the part begins that follows so many bytes -/
def nextP (n : Nat) : Nat := if room n < 8 then n + room n else n
theorem room_pos (n : Nat) : 1 ≤ room n ∧ room n ≤ 128 := by unfold room; omega
theorem room_next (n : Nat) : 8 ≤ room (nextP n) := by
  unfold nextP
  split
  · rename_i h; unfold room at *; omega
  · omega
theorem next_room {n : Nat} (h : 8 ≤ room n) : nextP n = n := by unfold nextP; rw [if_neg (by omega)]
theorem next_next (n : Nat) : nextP (nextP n) = nextP n := next_room (room_next n)
theorem next_ge (n : Nat) : n ≤ nextP n ∧ nextP n ≤ n + 7 := by unfold nextP; split <;> omega
/-- the sum of a part -/
def csum (k : UInt8) (d : List UInt8) : Nat := Crc.on Crc.tab 0 (k :: d)
theorem csum_lt (k : UInt8) (d : List UInt8) : csum k d < 4294967296 := Crc.on_lt _ _ _
/-- a length, in two bytes -/
def two (n : Nat) : List UInt8 := [UInt8.ofNat (n / 256 % 256), UInt8.ofNat (n % 256)]
/-- a part, as bytes -/
def partB (k : UInt8) (d : List UInt8) : List UInt8 := four (csum k d) ++ (two d.length ++ (k :: d))
theorem partB_len (k : UInt8) (d : List UInt8) : (partB k d).length = 7 + d.length := by simp [partB, four, two]; omega

theorem two_eta (a b : UInt8) : two (a.toNat * 256 + b.toNat) = [a, b] := by
  have ha := a.toNat_lt; have hb := b.toNat_lt
  have h1 : (a.toNat * 256 + b.toNat) / 256 % 256 = a.toNat := by omega
  have h2 : (a.toNat * 256 + b.toNat) % 256 = b.toNat := by omega
  unfold two
  rw [h1, h2]
  simp
theorem two_inj {m n : Nat} (hm : m < 65536) (hn : n < 65536) (h : two m = two n) : m = n := by
  unfold two at h
  injection h with h1 h2
  injection h2 with h2 _
  have e1 := congrArg UInt8.toNat h1
  have e2 := congrArg UInt8.toNat h2
  simp only [UInt8.toNat_ofNat'] at e1 e2
  omega
theorem four_eta (a b c d : UInt8) : four (a.toNat * 16777216 + b.toNat * 65536 + c.toNat * 256 + d.toNat) = [a, b, c, d] := by
  have ha := a.toNat_lt; have hb := b.toNat_lt; have hc := c.toNat_lt; have hd := d.toNat_lt
  unfold four
  have h1 : (a.toNat * 16777216 + b.toNat * 65536 + c.toNat * 256 + d.toNat) / 16777216 = a.toNat := by omega
  have h2 : (a.toNat * 16777216 + b.toNat * 65536 + c.toNat * 256 + d.toNat) / 65536 % 256 = b.toNat := by omega
  have h3 : (a.toNat * 16777216 + b.toNat * 65536 + c.toNat * 256 + d.toNat) / 256 % 256 = c.toNat := by omega
  have h4 : (a.toNat * 16777216 + b.toNat * 65536 + c.toNat * 256 + d.toNat) % 256 = d.toNat := by omega
  rw [h1, h2, h3, h4]
  simp
theorem four_inj {m n : Nat} (hm : m < 4294967296) (hn : n < 4294967296) (h : four m = four n) : m = n := by
  unfold four at h
  injection h with h1 h
  injection h with h2 h
  injection h with h3 h
  injection h with h4 _
  have e1 := congrArg UInt8.toNat h1
  have e2 := congrArg UInt8.toNat h2
  have e3 := congrArg UInt8.toNat h3
  have e4 := congrArg UInt8.toNat h4
  simp only [UInt8.toNat_ofNat'] at e1 e2 e3 e4
  omega

/-- the part that stands at a place, if one can be read there -/
def getP (f : List UInt8) (pos : Nat) : Option (UInt8 × List UInt8) :=
  match f.drop pos with
  | s0 :: s1 :: s2 :: s3 :: l1 :: l2 :: k :: t =>
    if 7 + (l1.toNat * 256 + l2.toNat) ≤ room pos ∧ l1.toNat * 256 + l2.toNat ≤ t.length ∧ s0.toNat * 16777216 + s1.toNat * 65536 + s2.toNat * 256 + s3.toNat = csum k (t.take (l1.toNat * 256 + l2.toNat)) then
      some (k, t.take (l1.toNat * 256 + l2.toNat)) else none
  | _ => none

theorem getP_of {f : List UInt8} {pos : Nat} {k : UInt8} {d : List UInt8} (h : getP f pos = some (k, d)) : 7 + d.length ≤ room pos ∧ partB k d <+: f.drop pos := by
  unfold getP at h
  split at h
  · rename_i s0 s1 s2 s3 l1 l2 k' t he
    split at h
    · rename_i hc
      obtain ⟨h1, h2, h3⟩ := hc
      injection h with h
      injection h with hk hd
      subst hk
      have hl : d.length = l1.toNat * 256 + l2.toNat := by rw [← hd, List.length_take]; omega
      refine ⟨by omega, ?_⟩
      rw [he]
      unfold partB
      rw [hl, two_eta, ← hd, ← h3, four_eta]
      exact ⟨t.drop (l1.toNat * 256 + l2.toNat), by simp [List.take_append_drop]⟩
    · cases h
  · cases h
set_option maxRecDepth 20000 in
theorem of_getP {f : List UInt8} {pos : Nat} {k : UInt8} {d : List UInt8} (h1 : 7 + d.length ≤ room pos) (h : partB k d <+: f.drop pos) : getP f pos = some (k, d) := by
  have hr := (room_pos pos).2
  obtain ⟨t, ht⟩ := h
  unfold getP
  rw [← ht]
  have hc := csum_lt k d
  unfold partB four two
  simp only [List.cons_append, List.nil_append]
  have hn : (UInt8.ofNat (d.length / 256 % 256)).toNat * 256 + (UInt8.ofNat (d.length % 256)).toNat = d.length := by simp only [UInt8.toNat_ofNat']; omega
  have hs : (UInt8.ofNat (csum k d / 16777216)).toNat * 16777216 + (UInt8.ofNat (csum k d / 65536 % 256)).toNat * 65536 + (UInt8.ofNat (csum k d / 256 % 256)).toNat * 256 + (UInt8.ofNat (csum k d % 256)).toNat = csum k d := by simp only [UInt8.toNat_ofNat']; omega
  rw [hn, hs]
  have ht2 : (d ++ t).take d.length = d := by simp
  rw [ht2, if_pos ⟨h1, by simp, rfl⟩]
theorem getP_none {f : List UInt8} {pos : Nat} (h : f.length < pos + 7) : getP f pos = none := by
  cases hg : getP f pos with
  | none => rfl
  | some p =>
    obtain ⟨k, d⟩ := p
    have := (getP_of hg).2.length_le
    rw [partB_len, List.length_drop] at this
    omega
theorem getP_more {f g : List UInt8} {pos : Nat} {k : UInt8} {d : List UInt8} (h : getP f pos = some (k, d)) (hp : f <+: g) : getP g pos = some (k, d) := by
  obtain ⟨h1, h2⟩ := getP_of h
  obtain ⟨x, rfl⟩ := hp
  refine of_getP h1 ?_
  have hl := h2.length_le
  rw [partB_len, List.length_drop] at hl
  rw [List.drop_append_of_le_length (by omega)]
  exact h2.trans (List.prefix_append _ _)
theorem getP_end {f : List UInt8} {pos : Nat} {k : UInt8} {d : List UInt8} (h : getP f pos = some (k, d)) : pos + 7 + d.length ≤ f.length := by
  have := (getP_of h).2.length_le
  rw [partB_len, List.length_drop] at this
  omega

/-- the part that the rest of a block begins with -/
def restP (R : List UInt8) : Option (UInt8 × List UInt8) :=
  match R with
  | s0 :: s1 :: s2 :: s3 :: l1 :: l2 :: k :: t =>
    if l1.toNat * 256 + l2.toNat ≤ t.length ∧ s0.toNat * 16777216 + s1.toNat * 65536 + s2.toNat * 256 + s3.toNat = csum k (t.take (l1.toNat * 256 + l2.toNat)) then
      some (k, t.take (l1.toNat * 256 + l2.toNat)) else none
  | _ => none
theorem restP_short (R : List UInt8) (h : R.length < 7) : restP R = none := by
  match R, h with
  | [], _ => rfl
  | [_], _ => rfl
  | [_, _], _ => rfl
  | [_, _, _], _ => rfl
  | [_, _, _, _], _ => rfl
  | [_, _, _, _, _], _ => rfl
  | [_, _, _, _, _, _], _ => rfl
  | _ :: _ :: _ :: _ :: _ :: _ :: _ :: _, h => simp at h; omega
/-- what stands in the rest of the block is all that counts -/
theorem getP_rest (f : List UInt8) (pos : Nat) : getP f pos = restP ((f.drop pos).take (room pos)) := by
  have hr := room_pos pos
  unfold getP restP
  generalize f.drop pos = R
  generalize room pos = m at *
  match R with
  | [] => simp
  | [a] => cases m with | zero => omega | succ m => cases m <;> simp
  | [a, b] => match m with | 0 => omega | 1 => simp | m + 2 => simp
  | [a, b, c] => match m with | 0 => omega | 1 => simp | 2 => simp | m + 3 => simp
  | [a, b, c, d] => match m with | 0 => omega | 1 => simp | 2 => simp | 3 => simp | m + 4 => simp
  | [a, b, c, d, e] => match m with | 0 => omega | 1 => simp | 2 => simp | 3 => simp | 4 => simp | m + 5 => simp
  | [a, b, c, d, e, g] => match m with | 0 => omega | 1 => simp | 2 => simp | 3 => simp | 4 => simp | 5 => simp | m + 6 => simp
  | s0 :: s1 :: s2 :: s3 :: l1 :: l2 :: k :: t =>
    by_cases h7 : m < 7
    · have h : (s0 :: s1 :: s2 :: s3 :: l1 :: l2 :: k :: t).take m = [s0, s1, s2, s3, l1, l2, k].take m := by
        match m, h7 with
        | 0, _ => rfl | 1, _ => rfl | 2, _ => rfl | 3, _ => rfl | 4, _ => rfl | 5, _ => rfl | 6, _ => rfl
      rw [h]
      dsimp only
      rw [if_neg (by omega)]
      match m, h7 with
      | 0, _ => rfl | 1, _ => rfl | 2, _ => rfl | 3, _ => rfl | 4, _ => rfl | 5, _ => rfl | 6, _ => rfl
    · obtain ⟨j, rfl⟩ : ∃ j, m = j + 7 := ⟨m - 7, by omega⟩
      simp only [List.take_succ_cons]
      by_cases hl : l1.toNat * 256 + l2.toNat ≤ j
      · rw [List.take_take, Nat.min_eq_left hl, List.length_take]
        by_cases hs : s0.toNat * 16777216 + s1.toNat * 65536 + s2.toNat * 256 + s3.toNat = csum k (t.take (l1.toNat * 256 + l2.toNat))
        · by_cases hh : l1.toNat * 256 + l2.toNat ≤ t.length
          · rw [if_pos ⟨by omega, hh, hs⟩, if_pos ⟨by omega, hs⟩]
          · rw [if_neg (by omega), if_neg (by omega)]
        · rw [if_neg (fun h => hs h.2.2), if_neg (fun h => hs h.2)]
      · rw [if_neg (by omega), if_neg (by rw [List.length_take]; omega)]

/-- a part, with its place -/
structure Part where
  pos : Nat
  k : UInt8
  d : List UInt8
def Part.fin (p : Part) : Nat := p.pos + 7 + p.d.length
/-- parts that are read one behind the other, from a place on up to another one -/
inductive Path (f : List UInt8) : Nat → List Part → Nat → Prop
  | nil (a : Nat) : Path f a [] a
  | cons {a : Nat} {k : UInt8} {d : List UInt8} {ps : List Part} {b : Nat} (h : getP f (nextP a) = some (k, d)) (t : Path f (nextP a + 7 + d.length) ps b) : Path f a (⟨nextP a, k, d⟩ :: ps) b
theorem Path.append {f : List UInt8} {a b c : Nat} {ps qs : List Part} (h : Path f a ps b) (k : Path f b qs c) : Path f a (ps ++ qs) c := by
  induction h with
  | nil a => exact k
  | cons h t ih => exact .cons h (ih k)
theorem Path.more {f g : List UInt8} {a b : Nat} {ps : List Part} (h : Path f a ps b) (hp : f <+: g) : Path g a ps b := by
  induction h with
  | nil a => exact .nil a
  | cons h t ih => exact .cons (getP_more h hp) ih
theorem Path.snoc {f : List UInt8} {a b : Nat} {ps : List Part} (h : Path f a ps b) {k : UInt8} {d : List UInt8} (hk : getP f (nextP b) = some (k, d)) : Path f a (ps ++ [⟨nextP b, k, d⟩]) (nextP b + 7 + d.length) := h.append (.cons hk (.nil _))
theorem Path.unsnoc {f : List UInt8} {a b : Nat} {ps : List Part} {p : Part} (h : Path f a (ps ++ [p]) b) : ∃ c, Path f a ps c ∧ p.pos = nextP c ∧ getP f (nextP c) = some (p.k, p.d) := by
  induction ps generalizing a with
  | nil =>
    cases h with
    | cons h t => exact ⟨a, .nil a, rfl, h⟩
  | cons q ps ih =>
    cases h with
    | cons h t =>
      obtain ⟨c, h1, h2⟩ := ih t
      exact ⟨c, .cons h h1, h2⟩
theorem Path.len {f : List UInt8} {a b : Nat} {ps : List Part} (h : Path f a ps b) : a + 7 * ps.length ≤ b ∧ (ps ≠ [] → b ≤ f.length) := by
  induction h with
  | nil a => exact ⟨by simp, fun h => absurd rfl h⟩
  | @cons a k d ps b h t ih =>
    have h1 := next_ge a
    have h2 := getP_end h
    refine ⟨by simp; omega, fun _ => ?_⟩
    cases t with
    | nil => exact h2
    | cons h' t' => exact ih.2 (by simp)
theorem Path.end_le {f : List UInt8} {b : Nat} {ps : List Part} (h : Path f 0 ps b) : b ≤ f.length := by
  cases h with
  | nil => exact Nat.zero_le _
  | cons h t => exact (Path.cons h t).len.2 (by simp)
/-- two readings go on alike -/
theorem Path.alike {f : List UInt8} {a b c : Nat} {ps qs : List Part} (h : Path f a ps b) (k : Path f a qs c) : (∃ r, qs = ps ++ r ∧ Path f b r c) ∨ (∃ r, ps = qs ++ r ∧ Path f c r b) := by
  induction h generalizing qs with
  | nil a => exact .inl ⟨qs, rfl, k⟩
  | @cons a k1 d ps b h t ih =>
    cases k with
    | nil => exact .inr ⟨_, rfl, .cons h t⟩
    | cons h' t' =>
      rw [h] at h'
      injection h' with h'
      injection h' with e1 e2
      subst e1 e2
      rcases ih t' with ⟨r, rfl, hr⟩ | ⟨r, rfl, hr⟩
      · exact .inl ⟨r, rfl, hr⟩
      · exact .inr ⟨r, rfl, hr⟩

/-- the records that were read so far, that of which parts were read, and where the records end -/
structure JS where
  out : List (List UInt8)
  begun : Option (List UInt8)
  fin : Nat
def JS.init : JS := ⟨[], none, 0⟩
def step (s : JS) (p : Part) : Option JS :=
  match s.begun with
  | none => if p.k = 1 then some ⟨s.out ++ [p.d], none, p.fin⟩ else if p.k = 2 then some ⟨s.out, some p.d, s.fin⟩ else none
  | some b => if p.k = 4 then some ⟨s.out ++ [b ++ p.d], none, p.fin⟩ else if p.k = 3 then some ⟨s.out, some (b ++ p.d), s.fin⟩ else none
def steps : JS → List Part → Option JS
  | s, [] => some s
  | s, p :: ps => (step s p).bind fun s' => steps s' ps
theorem steps_append (s : JS) (ps qs : List Part) : steps s (ps ++ qs) = (steps s ps).bind fun s' => steps s' qs := by
  induction ps generalizing s with
  | nil => rfl
  | cons p ps ih =>
    simp only [List.cons_append, steps]
    cases step s p with
    | none => rfl
    | some s' => exact ih s'
theorem steps_snoc {s s' : JS} {ps : List Part} (h : steps s ps = some s') (p : Part) : steps s (ps ++ [p]) = step s' p := by
  rw [steps_append, h]
  simp only [Option.bind_some, steps]
  cases step s' p <;> rfl
theorem step_bound {s s' : JS} {p : Part} (h : step s p = some s') (M : Nat) (hd : p.d.length ≤ M) : (s'.begun.getD []).length ≤ (s.begun.getD []).length + M ∧ s'.out.length ≤ s.out.length + 1 := by
  unfold step at h
  cases hb : s.begun with
  | none =>
    rw [hb] at h
    by_cases k1 : p.k = 1
    · simp only [k1, if_true] at h
      injection h with h; subst h; simp
    · by_cases k2 : p.k = 2
      · simp only [k2] at h
        injection h with h; subst h; simp; omega
      · simp [k1, k2] at h
  | some b =>
    rw [hb] at h
    by_cases k1 : p.k = 4
    · simp only [k1, if_true] at h
      injection h with h; subst h; simp
    · by_cases k2 : p.k = 3
      · simp only [k2] at h
        injection h with h; subst h; simp; omega
      · simp [k1, k2] at h
theorem steps_bound (M : Nat) (ps : List Part) (hd : ∀ p ∈ ps, p.d.length ≤ M) : ∀ {s s' : JS}, steps s ps = some s' → (s'.begun.getD []).length ≤ (s.begun.getD []).length + ps.length * M ∧ s'.out.length ≤ s.out.length + ps.length := by
  induction ps with
  | nil => intro s s' h; injection h with h; subst h; simp
  | cons p ps ih =>
    intro s s' h
    simp only [steps] at h
    cases hs : step s p with
    | none => rw [hs] at h; cases h
    | some s1 =>
      rw [hs] at h
      have h1 := step_bound hs M (hd p (List.mem_cons_self ..))
      have h2 := ih (fun q hq => hd q (List.mem_cons_of_mem _ hq)) h
      simp only [List.length_cons, Nat.succ_mul]
      omega
/-- the records of a file, and where they end -/
def Reads (f : List UInt8) (rs : List (List UInt8)) (e : Nat) : Prop :=
  ∃ ps b s, Path f 0 ps b ∧ steps JS.init ps = some s ∧ s.out = rs ∧ s.fin = e ∧ (getP f (nextP b) = none ∨ ∃ k d, getP f (nextP b) = some (k, d) ∧ step s ⟨nextP b, k, d⟩ = none)
theorem Reads.no_more {f : List UInt8} {ps qs r : List Part} {b c : Nat} {s s' : JS} (hp : Path f 0 ps b) (hs : steps JS.init ps = some s) (hq : qs = ps ++ r) (hr : Path f b r c) (hs' : steps JS.init qs = some s')
    (hn : getP f (nextP b) = none ∨ ∃ k d, getP f (nextP b) = some (k, d) ∧ step s ⟨nextP b, k, d⟩ = none) : s = s' := by
  subst hq
  rw [steps_append, hs] at hs'
  cases hr with
  | nil => injection hs'
  | cons h t =>
    rcases hn with hn | ⟨k, d, hn, hn2⟩
    · rw [hn] at h; cases h
    · rw [hn] at h
      injection h with h
      injection h with e1 e2
      subst e1 e2
      simp only [Option.bind_some, steps, hn2] at hs'
      cases hs'
theorem Reads.one {f : List UInt8} {rs rs' : List (List UInt8)} {e e' : Nat} (h : Reads f rs e) (h' : Reads f rs' e') : rs = rs' ∧ e = e' := by
  obtain ⟨ps, b, s, hp, hs, rfl, rfl, hn⟩ := h
  obtain ⟨qs, c, s', hq, hs', rfl, rfl, hn'⟩ := h'
  rcases hp.alike hq with ⟨r, e, hr⟩ | ⟨r, e, hr⟩
  · rw [Reads.no_more hp hs e hr hs' hn]; exact ⟨rfl, rfl⟩
  · rw [Reads.no_more hq hs' e hr hs hn']; exact ⟨rfl, rfl⟩

/-- parts of a record, from a place on -/
def kd (first last : Bool) : UInt8 := if first then (if last then 1 else 2) else (if last then 4 else 3)
def enc (first : Bool) (pos : Nat) (r : List UInt8) : List Part :=
  if h : r.length ≤ room pos - 7 ∨ room pos ≤ 7 then [⟨pos, kd first true, r⟩]
  else ⟨pos, kd first false, r.take (room pos - 7)⟩ :: enc false (pos + room pos) (r.drop (room pos - 7))
termination_by r.length
decreasing_by simp only [List.length_drop]; omega
theorem enc_last (first : Bool) {pos : Nat} {r : List UInt8} (h : r.length ≤ room pos - 7) : enc first pos r = [⟨pos, kd first true, r⟩] := by
  rw [enc, dif_pos (.inl h)]
theorem enc_more (first : Bool) {pos : Nat} {r : List UInt8} (h : room pos - 7 < r.length) (h8 : 8 ≤ room pos) : enc first pos r = ⟨pos, kd first false, r.take (room pos - 7)⟩ :: enc false (pos + room pos) (r.drop (room pos - 7)) := by
  rw [enc, dif_neg (by omega)]
def bytesOf (ps : List Part) : List UInt8 := ps.flatMap fun p => partB p.k p.d
theorem bytesOf_cons (pos : Nat) (k : UInt8) (d : List UInt8) (ps : List Part) : bytesOf (⟨pos, k, d⟩ :: ps) = partB k d ++ bytesOf ps := rfl
/-- what a record adds to a file of so many bytes -/
def wr (n : Nat) (r : List UInt8) : List UInt8 := List.replicate (nextP n - n) 0 ++ bytesOf (enc true (nextP n) r)
theorem room_add (pos : Nat) : room (pos + room pos) = 128 := by unfold room; omega

/-- induction over the parts of a record -/
theorem enc_ind {C : Bool → Nat → List UInt8 → Prop} (h1 : ∀ first pos r, 8 ≤ room pos → r.length ≤ room pos - 7 → C first pos r)
    (h2 : ∀ first pos r, 8 ≤ room pos → room pos - 7 < r.length → C false (pos + room pos) (r.drop (room pos - 7)) → C first pos r) (first : Bool) (pos : Nat) (r : List UInt8) (h8 : 8 ≤ room pos) : C first pos r := by
  by_cases h : r.length ≤ room pos - 7
  · exact h1 first pos r h8 h
  · exact h2 first pos r h8 (by omega) (enc_ind h1 h2 false (pos + room pos) (r.drop (room pos - 7)) (by rw [room_add]; decide))
termination_by r.length
decreasing_by simp only [List.length_drop]; omega

theorem enc_pos (first : Bool) (pos : Nat) (r : List UInt8) (h8 : 8 ≤ room pos) : ∀ (qs rest : List Part) (p : Part), enc first pos r = qs ++ p :: rest → p.pos = pos + (bytesOf qs).length := by
  refine enc_ind (C := fun first pos r => ∀ (qs rest : List Part) (p : Part), enc first pos r = qs ++ p :: rest → p.pos = pos + (bytesOf qs).length) ?_ ?_ first pos r h8
  · intro first pos r h8 h qs rest p he
    rw [enc_last first h] at he
    cases qs with
    | nil => injection he with he _; rw [← he]; rfl
    | cons q qs => injection he with _ he; cases qs <;> cases he
  · intro first pos r h8 h ih qs rest p he
    rw [enc_more first h h8] at he
    cases qs with
    | nil => injection he with he _; rw [← he]; rfl
    | cons q qs =>
      injection he with h1 h2
      have := ih qs rest p h2
      subst h1
      rw [bytesOf_cons, List.length_append, partB_len, List.length_take, this]
      omega
theorem enc_len (first : Bool) (pos : Nat) (r : List UInt8) (h8 : 8 ≤ room pos) : (bytesOf (enc first pos r)).length ≤ 8 * r.length + 7 := by
  refine enc_ind (C := fun first pos r => (bytesOf (enc first pos r)).length ≤ 8 * r.length + 7) ?_ ?_ first pos r h8
  · intro first pos r h8 h
    rw [enc_last first h, bytesOf_cons, List.length_append, partB_len]
    show 7 + r.length + 0 ≤ _
    omega
  · intro first pos r h8 h ih
    rw [enc_more first h h8, bytesOf_cons, List.length_append, partB_len, List.length_take]
    rw [List.length_drop] at ih
    omega
theorem bytesOf_append (ps qs : List Part) : bytesOf (ps ++ qs) = bytesOf ps ++ bytesOf qs := by unfold bytesOf; rw [List.flatMap_append]
/-- what was written of a record, so far -/
def wrTo (n : Nat) (ps : List Part) : List UInt8 := if ps = [] then [] else List.replicate (nextP n - n) 0 ++ bytesOf ps
theorem wrTo_all (n : Nat) (r : List UInt8) : wrTo n (enc true (nextP n) r) = wr n r := by
  unfold wrTo wr
  rw [if_neg (by rw [enc]; split <;> simp)]
theorem wrTo_next (n : Nat) (r : List UInt8) (qs rest : List Part) (p : Part) (h : enc true (nextP n) r = qs ++ p :: rest) :
    n + (wrTo n qs).length ≤ p.pos ∧ wrTo n (qs ++ [p]) = wrTo n qs ++ List.replicate (p.pos - n - (wrTo n qs).length) 0 ++ partB p.k p.d ∧ p.pos - n - (wrTo n qs).length ≤ 7 ∧ (wrTo n qs).length ≤ 8 * r.length + 14 := by
  have hp := enc_pos true (nextP n) r (room_next n) qs rest p h
  have hge := next_ge n
  have hl := enc_len true (nextP n) r (room_next n)
  rw [h, bytesOf_append, List.length_append] at hl
  have hb : bytesOf [p] = partB p.k p.d := by simp [bytesOf]
  have e1 : wrTo n (qs ++ [p]) = List.replicate (nextP n - n) 0 ++ (bytesOf qs ++ partB p.k p.d) := by
    unfold wrTo; rw [if_neg (by simp), bytesOf_append, hb]
  by_cases hq : qs = []
  · subst hq
    have h0 : bytesOf [] = [] := rfl
    have h1 : wrTo n [] = [] := rfl
    rw [e1, h1, h0]
    rw [h0] at hp
    simp only [List.length_nil, Nat.add_zero, List.nil_append, Nat.sub_zero] at hp ⊢
    rw [hp]
    exact ⟨hge.1, rfl, by omega, by omega⟩
  · have h1 : wrTo n qs = List.replicate (nextP n - n) 0 ++ bytesOf qs := by unfold wrTo; rw [if_neg hq]
    rw [e1, h1, List.length_append, List.length_replicate]
    have e : p.pos - n - (nextP n - n + (bytesOf qs).length) = 0 := by omega
    rw [e]
    exact ⟨by omega, by simp, by omega, by omega⟩

/-- a record's parts are read -/
theorem enc_path (first : Bool) (pos : Nat) (r : List UInt8) (h8 : 8 ≤ room pos) : ∀ f g : List UInt8, f.length = pos → Path (f ++ (bytesOf (enc first pos r) ++ g)) pos (enc first pos r) (pos + (bytesOf (enc first pos r)).length) := by
  refine enc_ind (C := fun first pos r => ∀ f g : List UInt8, f.length = pos → Path (f ++ (bytesOf (enc first pos r) ++ g)) pos (enc first pos r) (pos + (bytesOf (enc first pos r)).length)) ?_ ?_ first pos r h8
  · intro first pos r h8 h f g hf
    rw [enc_last first h]
    have hb : bytesOf [⟨pos, kd first true, r⟩] = partB (kd first true) r := by simp [bytesOf]
    rw [hb, partB_len]
    have hg : getP (f ++ (partB (kd first true) r ++ g)) (nextP pos) = some (kd first true, r) := by
      rw [next_room h8]
      refine of_getP (by omega) ?_
      rw [← hf, List.drop_left]
      exact List.prefix_append _ _
    have := Path.cons hg (.nil _)
    rw [next_room h8, Nat.add_assoc] at this
    exact this
  · intro first pos r h8 h ih f g hf
    have hlen : (r.take (room pos - 7)).length = room pos - 7 := by rw [List.length_take]; omega
    have hpl := partB_len (kd first false) (r.take (room pos - 7))
    rw [enc_more first h h8, bytesOf_cons]
    have hg : getP (f ++ (partB (kd first false) (r.take (room pos - 7)) ++ bytesOf (enc false (pos + room pos) (r.drop (room pos - 7))) ++ g)) (nextP pos) = some (kd first false, r.take (room pos - 7)) := by
      rw [next_room h8]
      refine of_getP (by omega) ?_
      rw [← hf, List.drop_left, List.append_assoc]
      exact List.prefix_append _ _
    have ht := ih (f ++ partB (kd first false) (r.take (room pos - 7))) g (by rw [List.length_append, hpl, hlen]; omega)
    have h1 := Path.cons hg (ps := enc false (pos + room pos) (r.drop (room pos - 7))) (b := pos + room pos + (bytesOf (enc false (pos + room pos) (r.drop (room pos - 7)))).length) (by
      rw [next_room h8, show pos + 7 + (r.take (room pos - 7)).length = pos + room pos from by rw [hlen]; omega]
      simpa only [List.append_assoc] using ht)
    rw [next_room h8] at h1
    have e : pos + (partB (kd first false) (r.take (room pos - 7)) ++ bytesOf (enc false (pos + room pos) (r.drop (room pos - 7)))).length = pos + room pos + (bytesOf (enc false (pos + room pos) (r.drop (room pos - 7)))).length := by
      rw [List.length_append, hpl, hlen]; omega
    rw [e]
    exact h1
/-- a record's parts are its bytes -/
theorem enc_steps (first : Bool) (pos : Nat) (r : List UInt8) (h8 : 8 ≤ room pos) : ∀ (out : List (List UInt8)) (b : Option (List UInt8)) (e : Nat), (first = true ∧ b = none ∨ first = false ∧ b ≠ none) →
    steps ⟨out, b, e⟩ (enc first pos r) = some ⟨out ++ [b.getD [] ++ r], none, pos + (bytesOf (enc first pos r)).length⟩ := by
  refine enc_ind (C := fun first pos r => ∀ (out : List (List UInt8)) (b : Option (List UInt8)) (e : Nat), (first = true ∧ b = none ∨ first = false ∧ b ≠ none) →
    steps ⟨out, b, e⟩ (enc first pos r) = some ⟨out ++ [b.getD [] ++ r], none, pos + (bytesOf (enc first pos r)).length⟩) ?_ ?_ first pos r h8
  · intro first pos r h8 h out b e hb
    rw [enc_last first h]
    have hb2 : bytesOf [⟨pos, kd first true, r⟩] = partB (kd first true) r := by simp [bytesOf]
    rw [hb2, partB_len]
    rcases hb with ⟨rfl, rfl⟩ | ⟨rfl, hb⟩
    · simp [steps, step, kd, Part.fin, Nat.add_assoc]
    · cases b with
      | none => exact absurd rfl hb
      | some b => simp [steps, step, kd, Part.fin, Nat.add_assoc]
  · intro first pos r h8 h ih out b e hb
    have hlen : (r.take (room pos - 7)).length = room pos - 7 := by rw [List.length_take]; omega
    have hpl := partB_len (kd first false) (r.take (room pos - 7))
    rw [enc_more first h h8, bytesOf_cons]
    have e2 : pos + (partB (kd first false) (r.take (room pos - 7)) ++ bytesOf (enc false (pos + room pos) (r.drop (room pos - 7)))).length = pos + room pos + (bytesOf (enc false (pos + room pos) (r.drop (room pos - 7)))).length := by
      rw [List.length_append, hpl, hlen]; omega
    have hs : step ⟨out, b, e⟩ ⟨pos, kd first false, r.take (room pos - 7)⟩ = some ⟨out, some (b.getD [] ++ r.take (room pos - 7)), e⟩ := by
      rcases hb with ⟨rfl, rfl⟩ | ⟨rfl, hb⟩
      · simp [step, kd]
      · cases b with
        | none => exact absurd rfl hb
        | some b => simp [step, kd]
    simp only [steps, hs, Option.bind_some]
    rw [ih out _ e (.inr ⟨rfl, by simp⟩), e2]
    simp [List.take_append_drop, List.append_assoc]
/-- of a record of which the last bytes are missing the first parts are read, and the record isn't -/
theorem enc_cut (first : Bool) (pos : Nat) (r : List UInt8) (h8 : 8 ≤ room pos) : ∀ (f : List UInt8) (m : Nat) (out : List (List UInt8)) (b : Option (List UInt8)) (e : Nat), f.length = pos → m < (bytesOf (enc first pos r)).length → (first = true ∧ b = none ∨ first = false ∧ b ≠ none) →
    ∃ ps c s, Path (f ++ (bytesOf (enc first pos r)).take m) pos ps c ∧ steps ⟨out, b, e⟩ ps = some s ∧ s.out = out ∧ s.fin = e ∧ getP (f ++ (bytesOf (enc first pos r)).take m) (nextP c) = none := by
  refine enc_ind (C := fun first pos r => ∀ (f : List UInt8) (m : Nat) (out : List (List UInt8)) (b : Option (List UInt8)) (e : Nat), f.length = pos → m < (bytesOf (enc first pos r)).length → (first = true ∧ b = none ∨ first = false ∧ b ≠ none) →
    ∃ ps c s, Path (f ++ (bytesOf (enc first pos r)).take m) pos ps c ∧ steps ⟨out, b, e⟩ ps = some s ∧ s.out = out ∧ s.fin = e ∧ getP (f ++ (bytesOf (enc first pos r)).take m) (nextP c) = none) ?_ ?_ first pos r h8
  · intro first pos r h8 h f m out b e hf hm hb
    rw [enc_last first h] at hm ⊢
    have hb2 : bytesOf [⟨pos, kd first true, r⟩] = partB (kd first true) r := by simp [bytesOf]
    rw [hb2] at hm ⊢
    refine ⟨[], pos, _, .nil _, rfl, rfl, rfl, ?_⟩
    cases hg : getP (f ++ (partB (kd first true) r).take m) (nextP pos) with
    | none => rfl
    | some p =>
      obtain ⟨k, d⟩ := p
      have hmore := getP_more hg (g := f ++ partB (kd first true) r) (by
        rw [List.prefix_append_right_inj]; exact List.take_prefix _ _)
      have hwhole : getP (f ++ partB (kd first true) r) (nextP pos) = some (kd first true, r) := by
        rw [next_room h8]
        refine of_getP (by omega) ?_
        rw [← hf, List.drop_left]
        exact List.prefix_refl _
      rw [hwhole] at hmore
      injection hmore with hmore
      injection hmore with e1 e2
      subst e1 e2
      have := getP_end hg
      rw [next_room h8, List.length_append, List.length_take] at this
      rw [partB_len] at hm this
      omega
  · intro first pos r h8 h ih f m out b e hf hm hb
    have hlen : (r.take (room pos - 7)).length = room pos - 7 := by rw [List.length_take]; omega
    have hpl := partB_len (kd first false) (r.take (room pos - 7))
    rw [enc_more first h h8, bytesOf_cons] at hm ⊢
    by_cases hlt : m < (partB (kd first false) (r.take (room pos - 7))).length
    · refine ⟨[], pos, _, .nil _, rfl, rfl, rfl, ?_⟩
      rw [List.take_append_of_le_length (by omega)]
      cases hg : getP (f ++ (partB (kd first false) (r.take (room pos - 7))).take m) (nextP pos) with
      | none => rfl
      | some p =>
        obtain ⟨k, d⟩ := p
        have hmore := getP_more hg (g := f ++ partB (kd first false) (r.take (room pos - 7))) (by
          rw [List.prefix_append_right_inj]; exact List.take_prefix _ _)
        have hwhole : getP (f ++ partB (kd first false) (r.take (room pos - 7))) (nextP pos) = some (kd first false, r.take (room pos - 7)) := by
          rw [next_room h8]
          refine of_getP (by omega) ?_
          rw [← hf, List.drop_left]
          exact List.prefix_refl _
        rw [hwhole] at hmore
        injection hmore with hmore
        injection hmore with e1 e2
        subst e1 e2
        have := getP_end hg
        have h5 := List.length_take_le m (partB (kd first false) (r.take (room pos - 7)))
        rw [next_room h8, List.length_append] at this
        omega
    · rw [List.length_append] at hm
      have hs : step ⟨out, b, e⟩ ⟨pos, kd first false, r.take (room pos - 7)⟩ = some ⟨out, some (b.getD [] ++ r.take (room pos - 7)), e⟩ := by
        rcases hb with ⟨rfl, rfl⟩ | ⟨rfl, hb⟩
        · simp [step, kd]
        · cases b with
          | none => exact absurd rfl hb
          | some b => simp [step, kd]
      obtain ⟨ps, c, s, hp, hst, ho, he, hn⟩ := ih (f ++ partB (kd first false) (r.take (room pos - 7))) (m - (partB (kd first false) (r.take (room pos - 7))).length) out (some (b.getD [] ++ r.take (room pos - 7))) e
        (by rw [List.length_append, hpl, hlen]; omega) (by omega) (.inr ⟨rfl, by simp⟩)
      have et : (partB (kd first false) (r.take (room pos - 7)) ++ bytesOf (enc false (pos + room pos) (r.drop (room pos - 7)))).take m = partB (kd first false) (r.take (room pos - 7)) ++ (bytesOf (enc false (pos + room pos) (r.drop (room pos - 7)))).take (m - (partB (kd first false) (r.take (room pos - 7))).length) := by
        rw [List.take_append, List.take_of_length_le (by omega)]
      rw [List.append_assoc] at hp hn
      rw [et]
      have hg : getP (f ++ (partB (kd first false) (r.take (room pos - 7)) ++ (bytesOf (enc false (pos + room pos) (r.drop (room pos - 7)))).take (m - (partB (kd first false) (r.take (room pos - 7))).length))) (nextP pos) = some (kd first false, r.take (room pos - 7)) := by
        rw [next_room h8]
        refine of_getP (by omega) ?_
        rw [← hf, List.drop_left]
        exact List.prefix_append _ _
      have h1 := Path.cons hg (ps := ps) (b := c) (by
        rw [next_room h8, show pos + 7 + (r.take (room pos - 7)).length = pos + room pos from by rw [hlen]; omega]
        exact hp)
      rw [next_room h8] at h1
      exact ⟨_, c, s, h1, by simp only [steps, hs, Option.bind_some]; exact hst, ho, he, hn⟩

/-- a file that has records, and nothing behind -/
def WF (f : List UInt8) (rs : List (List UInt8)) : Prop := ∃ ps, Path f 0 ps f.length ∧ steps JS.init ps = some ⟨rs, none, f.length⟩
theorem WF.nil : WF [] [] := ⟨[], .nil _, rfl⟩
theorem WF.reads {f : List UInt8} {rs : List (List UInt8)} (h : WF f rs) : Reads f rs f.length := by
  obtain ⟨ps, hp, hs⟩ := h
  exact ⟨ps, _, _, hp, hs, rfl, rfl, .inl (getP_none (by have := next_ge f.length; omega))⟩
theorem wr_split (f : List UInt8) (r g : List UInt8) : f ++ (wr f.length r ++ g) = (f ++ List.replicate (nextP f.length - f.length) 0) ++ (bytesOf (enc true (nextP f.length) r) ++ g) := by
  unfold wr; simp only [List.append_assoc]
theorem pad_len (f : List UInt8) : (f ++ List.replicate (nextP f.length - f.length) (0 : UInt8)).length = nextP f.length := by
  have := next_ge f.length
  rw [List.length_append, List.length_replicate]; omega
theorem Path.from_next {f : List UInt8} {a b : Nat} {ps : List Part} (hne : ps ≠ []) (h : Path f (nextP a) ps b) : Path f a ps b := by
  cases h with
  | nil => exact absurd rfl hne
  | cons h t => rw [next_next] at h t ⊢; exact .cons h t
theorem enc_ne (first : Bool) (pos : Nat) (r : List UInt8) : enc first pos r ≠ [] := by
  rw [enc]; split <;> simp
theorem WF.add {f : List UInt8} {rs : List (List UInt8)} (h : WF f rs) (r : List UInt8) : WF (f ++ wr f.length r) (rs ++ [r]) := by
  obtain ⟨ps, hp, hs⟩ := h
  have h1 := enc_path true (nextP f.length) r (room_next _) (f ++ List.replicate (nextP f.length - f.length) 0) [] (pad_len f)
  have h2 : f ++ wr f.length r = (f ++ List.replicate (nextP f.length - f.length) 0) ++ (bytesOf (enc true (nextP f.length) r) ++ []) := by
    have := wr_split f r []; simpa using this
  have hl : (f ++ wr f.length r).length = nextP f.length + (bytesOf (enc true (nextP f.length) r)).length := by
    rw [h2, List.length_append, pad_len]; simp
  refine ⟨ps ++ enc true (nextP f.length) r, ?_, ?_⟩
  · refine (hp.more (List.prefix_append _ _)).append ?_
    rw [hl, h2]
    exact h1.from_next (enc_ne _ _ _)
  · rw [steps_append, hs]
    simp only [Option.bind_some]
    rw [enc_steps true _ r (room_next _) rs none f.length (.inl ⟨rfl, rfl⟩), hl]
    rfl
/-- the last record's first bytes -/
theorem WF.cut {f : List UInt8} {rs : List (List UInt8)} (h : WF f rs) (r : List UInt8) (m : Nat) (hm : m < (wr f.length r).length) : Reads (f ++ (wr f.length r).take m) rs f.length := by
  obtain ⟨ps, hp, hs⟩ := h
  have hpad := pad_len f
  have hge := next_ge f.length
  by_cases hlt : m < nextP f.length - f.length
  · refine ⟨ps, f.length, _, hp.more (List.prefix_append _ _), hs, rfl, rfl, .inl (getP_none ?_)⟩
    rw [List.length_append, List.length_take]; omega
  · have e : (wr f.length r).take m = List.replicate (nextP f.length - f.length) 0 ++ (bytesOf (enc true (nextP f.length) r)).take (m - (nextP f.length - f.length)) := by
      unfold wr
      rw [List.take_append, List.take_of_length_le (by rw [List.length_replicate]; omega), List.length_replicate]
    rw [e, ← List.append_assoc]
    have hm2 : m - (nextP f.length - f.length) < (bytesOf (enc true (nextP f.length) r)).length := by
      unfold wr at hm; rw [List.length_append, List.length_replicate] at hm; omega
    obtain ⟨qs, c, s, hq, hst, ho, he, hn⟩ := enc_cut true (nextP f.length) r (room_next _) (f ++ List.replicate (nextP f.length - f.length) 0) _ rs none f.length hpad hm2 (.inl ⟨rfl, rfl⟩)
    by_cases hq0 : qs = []
    · subst hq0
      injection hst with hst
      cases hq
      rw [next_next] at hn
      rw [List.append_assoc] at hn ⊢
      exact ⟨ps, f.length, s, hp.more (List.prefix_append _ _), by rw [← hst]; exact hs, ho, he, .inl hn⟩
    · refine ⟨ps ++ qs, c, s, ?_, by rw [steps_append, hs]; exact hst, ho, he, .inl hn⟩
      rw [List.append_assoc] at hq ⊢
      exact (hp.more (List.prefix_append _ _)).append (hq.from_next hq0)
end Go.Proofs.Ytopcnlophmplgaa.Jr
