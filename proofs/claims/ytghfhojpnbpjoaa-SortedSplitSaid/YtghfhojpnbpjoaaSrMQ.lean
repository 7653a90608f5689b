/-
  Plain mathematics: entries in a file: its blocks, its index, the keys; what is read of any bytes.
  Plain mathematics: a file that is cut off is none.
-/
import Derived.Test.YtghfhojpnbpjoaaBkNR
import Derived.Test.YtghfhojpnbpjoaaFrX
import Derived.Test.YtghfhojpnbpjoaaBmX
namespace Go.Proofs.Ytghfhojpnbpjoaa
open Go.RowKit
set_option linter.unusedVariables false

/-! the blocks -/
/-- the entries of a block -/
def blkAt (S : List En) (k : Nat) : List En := (S.drop (16 * k)).take 16
def nB (S : List En) : Nat := (S.length + 15) / 16
theorem blkAt_len (S : List En) (k : Nat) : (blkAt S k).length = min 16 (S.length - 16 * k) := by simp [blkAt]
theorem take_blk (S : List En) (k : Nat) : S.take (16 * (k + 1)) = S.take (16 * k) ++ blkAt S k := by
  unfold blkAt; rw [show 16 * (k + 1) = 16 * k + 16 from by omega, List.take_add]
theorem blkAt_mem {S : List En} {k : Nat} {e : En} (h : e ∈ blkAt S k) : e ∈ S := List.mem_of_mem_drop (List.mem_of_mem_take h)
theorem blkAt_sub (S : List En) (k : Nat) : (blkAt S k).Sublist S := (List.take_sublist _ _).trans (List.drop_sublist _ _)
theorem blkAt_get (S : List En) (k j : Nat) (hj : j < 16) : (blkAt S k)[j]? = S[16 * k + j]? := by
  unfold blkAt; rw [List.getElem?_take, if_pos hj, List.getElem?_drop]
/-- what the blocks' frames hold -/
def recsTo (S : List En) (k : Nat) : List (List UInt8) := (List.range k).map fun j => encB (blkAt S j)
def recs (S : List En) : List (List UInt8) := recsTo S (nB S)
def blkTo (S : List En) (k : Nat) : List UInt8 := (recsTo S k).flatMap fr
def blkB (S : List En) : List UInt8 := blkTo S (nB S)
theorem recsTo_len (S : List En) (k : Nat) : (recsTo S k).length = k := by simp [recsTo]
theorem recsTo_succ (S : List En) (k : Nat) : recsTo S (k + 1) = recsTo S k ++ [encB (blkAt S k)] := by
  unfold recsTo; rw [List.range_succ, List.map_append]; rfl
theorem blkTo_zero (S : List En) : blkTo S 0 = [] := rfl
theorem blkTo_succ (S : List En) (k : Nat) : blkTo S (k + 1) = blkTo S k ++ fr (encB (blkAt S k)) := by
  unfold blkTo; rw [recsTo_succ, List.flatMap_append]; simp

/-! what may be a file -/
def okA (S : List En) : Bool := decide (1 ≤ S.length) && (S.all fineE && decide (S.Pairwise fun a b => cmpM a.m b.m < 0))
theorem okA_iff (S : List En) : okA S = true ↔ 1 ≤ S.length ∧ (∀ e ∈ S, fineE e = true) ∧ Rise S := by
  unfold okA Rise
  simp only [Bool.and_eq_true, decide_eq_true_eq, List.all_eq_true]
theorem okA_good (S : List En) (h1 : 1 ≤ S.length) : okA S = true ↔ ∀ j, j < S.length → goodAt S j = true := by
  rw [okA_iff, good_all]
  exact ⟨fun h => h.2, fun h => ⟨h1, h⟩⟩
theorem okA_sub {S T : List En} (h : okA S = true) (hs : T.Sublist S) (h1 : 1 ≤ T.length) : okA T = true := by
  obtain ⟨_, h2, h3⟩ := (okA_iff S).1 h
  exact (okA_iff T).2 ⟨h1, fun e he => h2 e (hs.subset he), List.Pairwise.sublist hs h3⟩
def okF (S : List En) : Bool := okA S && decide (S.length ≤ 4096)
theorem okF_iff (S : List En) : okF S = true ↔ okA S = true ∧ S.length ≤ 4096 := by unfold okF; rw [Bool.and_eq_true, decide_eq_true_eq]
theorem okB_blk {S : List En} (h : okA S = true) {k : Nat} (hk : k < nB S) : okB (blkAt S k) = true := by
  unfold nB at hk
  have hl := blkAt_len S k
  obtain ⟨_, h2, h3⟩ := (okA_iff _).1 (okA_sub h (blkAt_sub S k) (by omega))
  exact (okB_iff _).2 ⟨by omega, by omega, h2, h3⟩
theorem nB_le {S : List En} (h : S.length ≤ 4096) : nB S ≤ 256 := by unfold nB; omega
theorem enc_blk_len {T : List En} (h : ∀ e ∈ T, fineE e = true) (hl : T.length ≤ 16) : (encB T).length ≤ 5280 := by
  have q := bodyG_len T 0 ByteArray.empty h
  have t := tailB_len T
  unfold encB body
  rw [List.length_append]; omega
theorem blk_len {S : List En} (h : okA S = true) (k : Nat) : (encB (blkAt S k)).length ≤ 5280 :=
  enc_blk_len (fun e he => ((okA_iff S).1 h).2.1 e (blkAt_mem he)) (by rw [blkAt_len]; omega)
theorem blkTo_len {S : List En} (h : okA S = true) : ∀ k, (blkTo S k).length ≤ 5288 * k
  | 0 => by rw [blkTo_zero]; exact Nat.le_refl _
  | k + 1 => by
    have h1 := blkTo_len h k
    have h2 := blk_len h k
    rw [blkTo_succ, List.length_append, fr_len]; omega
theorem blkTo_len2 (S : List En) (k : Nat) : (blkTo S (k + 1)).length = (blkTo S k).length + ((encB (blkAt S k)).length + 8) := by
  rw [blkTo_succ, List.length_append, fr_len]
/-- the blocks' entries are all -/
theorem flat_take (S : List En) : ∀ k, ((List.range k).map (blkAt S)).flatten = S.take (16 * k)
  | 0 => by simp
  | k + 1 => by rw [List.range_succ, List.map_append, List.flatten_append, flat_take S k, take_blk]; simp
theorem take_all (S : List En) : S.take (16 * nB S) = S := List.take_of_length_le (by unfold nB; omega)

/-! the index -/
def encM (m : Mk) : List UInt8 := Vi.enc m.k.size ++ (m.k.data.toList ++ (Vi.enc m.s ++ [if m.g then 1 else 0]))
/-- the mark of the last entry -/
def lastM (S : List En) : Mk := match S.getLast? with | some e => e.m | none => ⟨ByteArray.empty, 0, false⟩
theorem lastM_get {S : List En} {e : En} (h : S[S.length - 1]? = some e) : lastM S = e.m := by
  unfold lastM; rw [List.getLast?_eq_getElem?, h]
def rowX (r : Nat × Mk) : List UInt8 := Vi.enc r.1 ++ encM r.2
def rowsTo (S : List En) (k : Nat) : List (Nat × Mk) := (List.range k).map fun j => ((blkTo S j).length, lastM (blkAt S j))
theorem rowsTo_len (S : List En) (k : Nat) : (rowsTo S k).length = k := by simp [rowsTo]
theorem rowsTo_succ (S : List En) (k : Nat) : rowsTo S (k + 1) = rowsTo S k ++ [((blkTo S k).length, lastM (blkAt S k))] := by
  unfold rowsTo; rw [List.range_succ, List.map_append]; rfl
def idxOf (rs : List (Nat × Mk)) : List UInt8 := Vi.enc rs.length ++ rs.flatMap rowX
def idxB (S : List En) : List UInt8 := idxOf (rowsTo S (nB S))
def szR (r : Nat × Mk) : Prop := r.1 ≤ 1073741824 ∧ r.2.k.size ≤ 32
theorem rowX_len {r : Nat × Mk} (h : szR r) : (rowX r).length ≤ 63 := by
  have h1 := Vi.enc_len r.1
  have h2 := Vi.enc_len r.2.k.size
  have h3 := Vi.enc_len r.2.s
  unfold rowX encM
  simp only [List.length_append, slen, List.length_singleton]
  have := h.2; omega
theorem lastM_size {T : List En} (h : ∀ e ∈ T, fineE e = true) : (lastM T).k.size ≤ 32 := by
  unfold lastM
  cases e : T.getLast? with
  | none => exact Nat.zero_le _
  | some x => exact (fine_size (h x (List.mem_of_getLast? e))).2.1
theorem rowsTo_sz {S : List En} (h : okF S = true) {k : Nat} (hk : k ≤ nB S) : ∀ r ∈ rowsTo S k, szR r := by
  intro r hr
  obtain ⟨ha, hn⟩ := (okF_iff S).1 h
  have hb := nB_le hn
  obtain ⟨j, hj, rfl⟩ := List.mem_map.1 hr
  rw [List.mem_range] at hj
  have := blkTo_len ha j
  exact ⟨by show (blkTo S j).length ≤ _; omega, lastM_size fun e he => ((okA_iff S).1 ha).2.1 e (blkAt_mem he)⟩
theorem flat_rows {rs : List (Nat × Mk)} (h : ∀ r ∈ rs, szR r) : (rs.flatMap rowX).length ≤ 63 * rs.length := by
  induction rs with
  | nil => simp
  | cons r rs ih =>
    have h1 := rowX_len (h r (by simp))
    have h2 := ih (fun x hx => h x (by simp [hx]))
    rw [List.flatMap_cons, List.length_append, List.length_cons]; omega
theorem idxOf_len {rs : List (Nat × Mk)} (h : ∀ r ∈ rs, szR r) : (idxOf rs).length ≤ 63 * rs.length + 10 := by
  have h1 := flat_rows h
  have h2 := Vi.enc_len rs.length
  unfold idxOf
  rw [List.length_append]; omega
theorem idxB_len {S : List En} (h : okF S = true) : (idxB S).length ≤ 16138 := by
  obtain ⟨ha, hn⟩ := (okF_iff S).1 h
  have hb := nB_le hn
  have h1 := idxOf_len (rowsTo_sz h (Nat.le_refl _))
  rw [rowsTo_len] at h1
  unfold idxB; omega

/-! the keys -/
def addK (K : List ByteArray) (x : En) : List ByteArray := if K.getLast? = some x.m.k then K else K ++ [x.m.k]
def keysG (K : List ByteArray) (S : List En) : List ByteArray := S.foldl addK K
def keysF (S : List En) : List ByteArray := keysG [] S
def keyB (S : List En) : List (List UInt8) := (keysF S).map fun s => s.data.toList
theorem keysG_snoc (K : List ByteArray) (S : List En) (x : En) : keysG K (S ++ [x]) = addK (keysG K S) x := by unfold keysG; rw [List.foldl_append]; rfl
theorem keysG_app (K : List ByteArray) (S T : List En) : keysG K (S ++ T) = keysG (keysG K S) T := by unfold keysG; rw [List.foldl_append]
theorem addK_last (K : List ByteArray) (x : En) : (addK K x).getLast? = some x.m.k := by
  unfold addK
  split
  · assumption
  · simp
theorem keysG_len (S : List En) : ∀ K, (keysG K S).length ≤ K.length + S.length := by
  induction S with
  | nil => intro K; simp [keysG]
  | cons x S ih =>
    intro K
    have := ih (addK K x)
    have h2 : (addK K x).length ≤ K.length + 1 := by unfold addK; split <;> simp
    show (keysG (addK K x) S).length ≤ _
    rw [List.length_cons]; omega
theorem keysF_len (S : List En) : (keysF S).length ≤ S.length := by have := keysG_len S []; simpa [keysF] using this
theorem keysG_mem (S : List En) : ∀ K, ∀ s ∈ keysG K S, s ∈ K ∨ ∃ e ∈ S, e.m.k = s := by
  induction S with
  | nil => intro K s hs; exact .inl hs
  | cons x S ih =>
    intro K s hs
    rcases ih (addK K x) s hs with h | ⟨e, he, h⟩
    · unfold addK at h
      split at h
      · exact .inl h
      · rw [List.mem_append, List.mem_singleton] at h
        rcases h with h | h
        · exact .inl h
        · exact .inr ⟨x, by simp, h.symm⟩
    · exact .inr ⟨e, by simp [he], h⟩
theorem keysF_mem {S : List En} {s : ByteArray} (h : s ∈ keysF S) : ∃ e ∈ S, e.m.k = s := by
  rcases keysG_mem S [] s h with h | h
  · cases h
  · exact h
theorem keysF_size {S : List En} (h : okA S = true) {s : ByteArray} (hs : s ∈ keysF S) : s.size ≤ 32 := by
  obtain ⟨e, he, rfl⟩ := keysF_mem hs
  exact (fine_size (((okA_iff S).1 h).2.1 e he)).2.1
theorem filt_le {S : List En} (h : S.length ≤ 4096) : (Blm.filt (keyB S)).length ≤ 5200 := by
  have h1 := keysF_len S
  rw [Blm.filt_len]
  unfold keyB Blm.size
  rw [List.length_map]; omega

/-! the file -/
def tailF (a b n : Nat) : List UInt8 := four a ++ (four b ++ four n)
theorem tailF_len (a b n : Nat) : (tailF a b n).length = 12 := by unfold tailF; simp [four_len]
def filB (S : List En) : List UInt8 :=
  blkB S ++ (fr (idxB S) ++ (fr (Blm.filt (keyB S)) ++ tailF (blkB S).length ((blkB S).length + (fr (idxB S)).length) S.length))
theorem filB_len (S : List En) : (filB S).length = (blkB S).length + ((idxB S).length + 8 + ((Blm.filt (keyB S)).length + 8 + 12)) := by
  unfold filB; simp only [List.length_append, fr_len, tailF_len]
theorem filB_le {S : List En} (h : okF S = true) : (filB S).length ≤ 1400000 := by
  obtain ⟨ha, hn⟩ := (okF_iff S).1 h
  have h1 := idxB_len h
  have h2 := filt_le hn
  have h3 := blkTo_len ha (nB S)
  have h4 := nB_le hn
  rw [filB_len]
  unfold blkB; omega
/-- what stands ahead of the index, as the bytes tell -/
def ahead (b : List UInt8) : List UInt8 :=
  if b.length < 12 then [] else if b.length - 12 < flen (b.drop (b.length - 12)) then [] else b.take (flen (b.drop (b.length - 12)))
theorem ahead_file {S : List En} (h : okF S = true) : ahead (filB S) = blkB S := by
  have hl := filB_len S
  have h1 := filB_le h
  have hd : (filB S).drop ((filB S).length - 12) = tailF (blkB S).length ((blkB S).length + (fr (idxB S)).length) S.length := by
    have e : filB S = (blkB S ++ (fr (idxB S) ++ fr (Blm.filt (keyB S)))) ++ tailF (blkB S).length ((blkB S).length + (fr (idxB S)).length) S.length := by unfold filB; simp only [List.append_assoc]
    have hm : (filB S).length - 12 = (blkB S ++ (fr (idxB S) ++ fr (Blm.filt (keyB S)))).length := by simp only [List.length_append, fr_len]; omega
    rw [hm, e, List.drop_left' rfl]
  have hf : flen (tailF (blkB S).length ((blkB S).length + (fr (idxB S)).length) S.length) = (blkB S).length := by
    unfold tailF; exact flen_four _ _ (by omega)
  unfold ahead
  rw [hd, hf, if_neg (by omega), if_neg (by omega)]
  unfold filB
  exact List.take_left' rfl
/-- what a file is: of an answer -/
def SQ (S : List En) : Prop := ∀ e ∈ S, e.m.s < 18446744073709551616
def IsF (b : List UInt8) : Option (List En) → Prop
  | some S => okF S = true ∧ SQ S ∧ filB S = b
  | none => ∀ S, okF S = true → SQ S → filB S ≠ b
theorem isF_ex (b : List UInt8) : ∃ o, IsF b o := by
  by_cases h : ∃ S, okF S = true ∧ SQ S ∧ filB S = b
  · obtain ⟨S, h⟩ := h; exact ⟨some S, h⟩
  · exact ⟨none, fun S h1 h2 h3 => h ⟨S, h1, h2, h3⟩⟩
/-- what of the blocks' frames has been read, and what is left -/
def Rest (b r : List UInt8) (xs : List (List UInt8)) : Prop := ∀ S, okF S = true → SQ S → filB S = b → ∃ T, recs S = xs ++ T ∧ r = T.flatMap fr
theorem Rest.start (b : List UInt8) : Rest b (ahead b) [] := fun S h _ e => ⟨recs S, rfl, by rw [← e, ahead_file h]; rfl⟩
theorem recs_le {S : List En} (h : okA S = true) {t : List UInt8} (ht : t ∈ recs S) : t.length ≤ 65536 := by
  obtain ⟨j, _, rfl⟩ := List.mem_map.1 ht
  have := blk_len h j; omega
theorem Rest.next {b r : List UInt8} {xs : List (List UInt8)} (h : Rest b r xs) (h0 : (gotF r).2.2 = 0) : Rest b (r.drop (gotF r).2.1) (xs ++ [(gotF r).1]) := by
  intro S hS hq e
  obtain ⟨T, h1, h2⟩ := h S hS hq e
  cases T with
  | nil => rw [h2] at h0; exact absurd h0 (by decide)
  | cons t T =>
    have ht : t.length ≤ 65536 := recs_le ((okF_iff S).1 hS).1 (by rw [h1]; simp)
    rw [List.flatMap_cons] at h2
    rw [h2, got_fr t _ ht]
    exact ⟨T, by rw [h1]; simp, by show List.drop (8 + t.length) _ = _; rw [List.drop_left' (by rw [fr_len]; omega)]⟩
theorem Rest.done {b r : List UInt8} {xs : List (List UInt8)} (h : Rest b r xs) (h0 : (gotF r).2.2 ≠ 0) : ∀ S, okF S = true → SQ S → filB S = b → recs S = xs := by
  intro S hS hq e
  obtain ⟨T, h1, h2⟩ := h S hS hq e
  cases T with
  | nil => rw [h1, List.append_nil]
  | cons t T =>
    have ht : t.length ≤ 65536 := recs_le ((okF_iff S).1 hS).1 (by rw [h1]; simp)
    rw [List.flatMap_cons] at h2
    rw [h2, got_fr t _ ht] at h0
    exact absurd rfl h0
theorem recs_get {S : List En} {j : Nat} (hj : j < nB S) : (recs S)[j]? = some (encB (blkAt S j)) := by
  unfold recs recsTo
  rw [List.getElem?_map, List.getElem?_range hj]; rfl
theorem recs_len (S : List En) : (recs S).length = nB S := recsTo_len S _
/-- the entries that were read, block by block -/
def readL : List (List UInt8) → Option (List En)
  | [] => some []
  | x :: xs => match getB x, readL xs with
    | some T, some L => some (T ++ L)
    | _, _ => none
theorem readL_snoc (x : List UInt8) : ∀ (xs : List (List UInt8)) (L T : List En), readL xs = some L → getB x = some T → readL (xs ++ [x]) = some (L ++ T)
  | [], L, T, h, hx => by
    injection h with h; subst h
    show (match getB x, some ([] : List En) with | some T, some L => some (T ++ L) | _, _ => none) = _
    rw [hx]; simp
  | y :: xs, L, T, h, hx => by
    unfold readL at h
    rw [List.cons_append]
    unfold readL
    cases hy : getB y with
    | none => rw [hy] at h; cases h
    | some U =>
      cases hr : readL xs with
      | none => rw [hy, hr] at h; cases h
      | some V =>
        rw [hy, hr] at h
        injection h with h; subst h
        rw [readL_snoc x xs V T hr hx]; simp
theorem getB_blk {S : List En} (h : okA S = true) (hq : SQ S) {j : Nat} (hj : j < nB S) : getB (encB (blkAt S j)) = some (blkAt S j) :=
  getB_enc _ (okB_blk h hj) fun e he => hq e (blkAt_mem he)
theorem readL_recs {S : List En} (h : okA S = true) (hq : SQ S) : ∀ k, k ≤ nB S → readL (recsTo S k) = some (S.take (16 * k))
  | 0, _ => by simp [recsTo, readL]
  | k + 1, hk => by rw [recsTo_succ, readL_snoc _ _ _ _ (readL_recs h hq k (by omega)) (getB_blk h hq (by omega)), take_blk]
theorem recs_pre {S : List En} {xs T : List (List UInt8)} (h : recs S = xs ++ T) : xs = recsTo S xs.length ∧ xs.length ≤ nB S := by
  have hl := congrArg List.length h
  rw [recs_len, List.length_append] at hl
  refine ⟨?_, by omega⟩
  have e : (recs S).take xs.length = xs := by rw [h]; exact List.take_left' rfl
  have e2 : (recs S).take xs.length = recsTo S xs.length := by
    unfold recs recsTo
    rw [← List.map_take, List.take_range, Nat.min_eq_left (by omega)]
  exact e.symm.trans e2
/-- all was read: it is the file's entries -/
theorem read_done {b : List UInt8} {xs : List (List UInt8)} {L : List En} (h : ∀ S, okF S = true → SQ S → filB S = b → recs S = xs) (hL : readL xs = some L) : ∀ S, okF S = true → SQ S → filB S = b → S = L := by
  intro S hS hq e
  have h1 := h S hS hq e
  have h2 := readL_recs ((okF_iff S).1 hS).1 hq (nB S) (Nat.le_refl _)
  rw [take_all] at h2
  have h3 : recsTo S (nB S) = xs := h1
  rw [h3, hL] at h2
  injection h2 with h2; exact h2.symm
/-- a block that is none, or too many entries: no file -/
theorem read_stop {b r : List UInt8} {xs : List (List UInt8)} {x : List UInt8} {L : List En} (h : Rest b r (xs ++ [x])) (hL : readL xs = some L) (hx : getB x = none ∨ 4096 < L.length) : ∀ S, okF S = true → SQ S → filB S ≠ b := by
  intro S hS hq e
  obtain ⟨T, h1, _⟩ := h S hS hq e
  obtain ⟨ha, hn⟩ := (okF_iff S).1 hS
  have hlt : xs.length < nB S := by have := (recs_pre h1).2; rw [List.length_append, List.length_singleton] at this; omega
  have hx2 : x = encB (blkAt S xs.length) := by
    have e1 := recs_get hlt
    rw [h1, List.append_assoc, List.getElem?_append_right (Nat.le_refl _), Nat.sub_self] at e1
    injection e1
  rw [List.append_assoc] at h1
  obtain ⟨e2, hle⟩ := recs_pre h1
  rcases hx with hx | hx
  · rw [hx2, getB_blk ha hq hlt] at hx; cases hx
  · have h2 := readL_recs ha hq xs.length hle
    rw [← e2, hL] at h2
    injection h2 with h2
    rw [h2, List.length_take] at hx; omega
end Go.Proofs.Ytghfhojpnbpjoaa

namespace Go.Proofs.Ytghfhojpnbpjoaa
open Go.RowKit
set_option linter.unusedVariables false

/-- frames that begin alike hold alike -/
theorem frs_common : ∀ (R R' : List (List UInt8)) (x y : List UInt8), (∀ r ∈ R, r.length ≤ 65536) → (∀ r ∈ R', r.length ≤ 65536) → R.flatMap fr ++ x = R'.flatMap fr ++ y → ∀ i, i < R.length → i < R'.length → R[i]? = R'[i]?
  | [], R', x, y, _, _, _ => fun i h _ => by cases h
  | r :: R, [], x, y, _, _, _ => fun i _ h => by cases h
  | r :: R, s :: R', x, y, h1, h2, h => by
    rw [List.flatMap_cons, List.flatMap_cons, List.append_assoc, List.append_assoc] at h
    have e := fr_begin r s _ _ (h1 r (by simp)) (h2 s (by simp)) h
    subst e
    have h3 := List.append_cancel_left h
    intro i hi hj
    cases i with
    | zero => rfl
    | succ i =>
      rw [List.getElem?_cons_succ, List.getElem?_cons_succ]
      exact frs_common R R' x y (fun q hq => h1 q (by simp [hq])) (fun q hq => h2 q (by simp [hq])) h3 i (by simpa using hi) (by simpa using hj)
/-- all that the frames hold -/
def recs3 (S : List En) : List (List UInt8) := recs S ++ [idxB S, Blm.filt (keyB S)]
theorem recs3_len (S : List En) : (recs3 S).length = nB S + 2 := by unfold recs3; rw [List.length_append, recs_len]; rfl
theorem filB_recs (S : List En) : filB S = (recs3 S).flatMap fr ++ tailF (blkB S).length ((blkB S).length + (fr (idxB S)).length) S.length := by
  unfold filB recs3
  rw [List.flatMap_append]
  simp only [List.flatMap_cons, List.flatMap_nil, List.append_nil, List.append_assoc]
  rfl
theorem recs3_le {S : List En} (h : okF S = true) : ∀ r ∈ recs3 S, r.length ≤ 65536 := by
  obtain ⟨ha, hn⟩ := (okF_iff S).1 h
  intro r hr
  unfold recs3 at hr
  rw [List.mem_append] at hr
  rcases hr with hr | hr
  · exact recs_le ha hr
  · have h1 := idxB_len h
    have h2 := filt_le hn
    simp only [List.mem_cons, List.not_mem_nil, or_false] at hr
    rcases hr with rfl | rfl <;> omega
theorem head_block {S : List En} (h : 1 ≤ S.length) : ∃ t, encB S = 0 :: t := by
  cases S with
  | nil => simp at h
  | cons x S =>
    unfold encB body
    rw [bodyG]
    unfold rowE preK
    rw [if_pos rfl, cpK_empty]
    exact ⟨_, rfl⟩
theorem head_index {S : List En} (h : 1 ≤ S.length) (h2 : S.length ≤ 4096) (t : List UInt8) : idxB S ≠ 0 :: t := by
  intro e
  unfold idxB idxOf at e
  have hg := Vi.get_enc (rowsTo S (nB S)).length ((rowsTo S (nB S)).flatMap rowX) (by rw [rowsTo_len]; have := nB_le h2; omega)
  rw [e] at hg
  have h0 : Vi.get (0 :: t) = (0, 1, 0) := by simp [Vi.get, Vi.getGo]
  rw [h0] at hg
  injection hg with hg _
  rw [rowsTo_len] at hg
  unfold nB at hg; omega
theorem recs3_block {S : List En} {i : Nat} (hi : i < nB S) : (recs3 S)[i]? = some (encB (blkAt S i)) := by
  unfold recs3
  rw [List.getElem?_append_left (by rw [recs_len]; exact hi)]
  exact recs_get hi
theorem recs3_index (S : List En) : (recs3 S)[nB S]? = some (idxB S) := by
  unfold recs3
  rw [List.getElem?_append_right (by rw [recs_len]; exact Nat.le_refl _), recs_len, Nat.sub_self]; rfl
/-- of a file's first bytes there is none -/
theorem isF_cut {S : List En} (h : okF S = true) {m : Nat} (hm : m < (filB S).length) : IsF ((filB S).take m) none := by
  intro T hT _ e
  obtain ⟨ha, hn⟩ := (okF_iff S).1 h
  obtain ⟨hb, hk⟩ := (okF_iff T).1 hT
  have h1 : 1 ≤ S.length := ((okA_iff S).1 ha).1
  have h2 : 1 ≤ T.length := ((okA_iff T).1 hb).1
  have e2 : filB T ++ (filB S).drop m = filB S := by rw [e, List.take_append_drop]
  rw [filB_recs T, filB_recs S, List.append_assoc] at e2
  have hc := frs_common _ _ _ _ (recs3_le hT) (recs3_le h) e2
  have lS := recs3_len S
  have lT := recs3_len T
  have hbl : ∀ {U : List En} {i : Nat}, okA U = true → i < nB U → ∃ t, encB (blkAt U i) = 0 :: t := fun {U i} hU hi => head_block (by rw [blkAt_len]; unfold nB at hi; omega)
  rcases Nat.lt_trichotomy (nB T) (nB S) with hlt | heq | hgt
  · have q := hc (nB T) (by omega) (by omega)
    rw [recs3_index, recs3_block hlt] at q
    injection q with q
    obtain ⟨t, ht⟩ := hbl ha hlt
    exact head_index h2 hk t (q.trans ht)
  · have q : recs3 T = recs3 S := by
      apply List.ext_getElem?
      intro i
      by_cases hi : i < nB S + 2
      · exact hc i (by omega) (by omega)
      · rw [List.getElem?_eq_none (by omega), List.getElem?_eq_none (by omega)]
    rw [q] at e2
    have e3 := congrArg List.length (List.append_cancel_left e2)
    rw [List.length_append, tailF_len, tailF_len, List.length_drop, ← filB_recs] at e3
    omega
  · have q := hc (nB S) (by omega) (by omega)
    rw [recs3_index, recs3_block hgt] at q
    injection q with q
    obtain ⟨t, ht⟩ := hbl hb hgt
    exact head_index h1 hn t (q.symm.trans ht)
end Go.Proofs.Ytghfhojpnbpjoaa

