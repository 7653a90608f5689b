/-
  A table of package tables in memory: its struct, its head, its nodes; where a mark's place is; exists, New, Len, Bytes, isValid.
-/
import Derived.Test.YtopcnlophmplgaaGreatDoorSkip
import Derived.Test.YtopcnlophmplgaaGreatDoorTabM
import Derived.Test.YtopcnlophmplgaaGreatDoorCmpB
import Derived.Test.YtopcnlophmplgaaGreatDoorWrote
import Derived.Test.YtopcnlophmplgaaGreatDoorKept
import Derived.Deep.Cut
namespace Go.Proofs.YtopcnlophmplgaaGreatDoor
open Go.RowKit
set_option linter.unusedVariables false
set_option maxRecDepth 100000

abbrev tp (t : Nat) : Value := .pointer (some ⟨t, 0, none⟩)
def zeroE : En := ⟨⟨ByteArray.empty, 0, false⟩, ByteArray.empty⟩
def head (hd : Nat) : Nd := ⟨hd, zeroE, 8⟩
structure TabN (w : World) (t hd : Nat) (ns : List Nd) : Prop where
  box : w.heap[t]? = some (.cells #[tp hd, .int .i64 (ns.length : Int), .int .i64 (esum (ns.map Nd.e) : Int)] 142 (0, 0))
  skip : Skip w (head hd :: ns)
  nodup : (hd :: ns.map Nd.b).Nodup
  tall : ∀ n ∈ ns, 1 ≤ n.h
  rise : Rise (ns.map Nd.e)
  fine : ∀ n ∈ ns, fineE n.e = true
  max : ns.length ≤ 4096

section
variable {w w' : World} {t hd : Nat} {ns : List Nd}
theorem TabN.c0 (h : TabN w t hd ns) : w.cell? ⟨t, 0, none⟩ = some (tp hd) := cell_of_row w t 0 _ _ (0, 0) h.box
theorem TabN.c1 (h : TabN w t hd ns) : w.cell? ⟨t, 1, none⟩ = some (.int .i64 (ns.length : Int)) := cell_of_row w t 1 _ _ (0, 0) h.box
theorem TabN.c2 (h : TabN w t hd ns) : w.cell? ⟨t, 2, none⟩ = some (.int .i64 (esum (ns.map Nd.e) : Int)) := cell_of_row w t 2 _ _ (0, 0) h.box
theorem TabN.keep (h : TabN w t hd ns) (ht : w'.heap[t]? = w.heap[t]?) (hh : w'.heap[hd]? = w.heap[hd]?) (hn : ∀ n ∈ ns, w'.heap[n.b]? = w.heap[n.b]?) : TabN w' t hd ns :=
  ⟨ht.trans h.box, h.skip.keep fun x hx => by rcases List.mem_cons.1 hx with rfl | hx; exact hh; exact hn x hx, h.nodup, h.tall, h.rise, h.fine, h.max⟩
theorem TabN.lt (h : TabN w t hd ns) : t < w.heap.size ∧ hd < w.heap.size ∧ ∀ n ∈ ns, n.b < w.heap.size :=
  ⟨(Array.getElem?_eq_some_iff.1 h.box).1, h.skip.lt (n := head hd) (by simp), fun n hn => h.skip.lt (by simp [hn])⟩
theorem TabN.below (h : TabN w t hd ns) (hb : Below w.heap.size w w') : TabN w' t hd ns :=
  h.keep (hb.block _ h.lt.1) (hb.block _ h.lt.2.1) fun n hn => hb.block _ (h.lt.2.2 n hn)
/-- the struct is no node -/
theorem TabN.ne (h : TabN w t hd ns) : t ≠ hd ∧ ∀ n ∈ ns, t ≠ n.b := by
  have hx : ∀ {A : List Nd} {n : Nd} {r : List Nd}, head hd :: ns = A ++ n :: r → t ≠ n.b := by
    intro A n r e q
    have h1 := h.skip
    rw [e] at h1
    have h2 := h1.at_
    rw [← q, h.box] at h2
    injection h2 with h2
    injection h2 with _ h2
    exact absurd h2 (by decide)
  refine ⟨hx (A := []) (n := head hd) (r := ns) rfl, fun n hn => ?_⟩
  obtain ⟨A, r, rfl⟩ := List.append_of_mem hn
  exact hx (A := head hd :: A) (r := r) rfl
end

/-- a table's memory lies in blocks of F; its entries are S -/
def TabAt (w : World) (F : Nat → Prop) (t : Nat) (S : List En) : Prop := ∃ hd ns, TabN w t hd ns ∧ ns.map Nd.e = S ∧ F t ∧ F hd ∧ (∀ n ∈ ns, F n.b) ∧ ∀ i, F i → i < w.heap.size
theorem TabAt.keep {w w' : World} {F : Nat → Prop} {t : Nat} {S : List En} (h : TabAt w F t S) (hs : ∀ i, F i → w'.heap[i]? = w.heap[i]?) (hz : w.heap.size ≤ w'.heap.size) : TabAt w' F t S := by
  obtain ⟨hd, ns, h1, h2, h3, h4, h5, h6⟩ := h
  exact ⟨hd, ns, h1.keep (hs _ h3) (hs _ h4) fun n hn => hs _ (h5 n hn), h2, h3, h4, h5, fun i hi => Nat.lt_of_lt_of_le (h6 i hi) hz⟩
theorem TabAt.below {w w' : World} {F : Nat → Prop} {t : Nat} {S : List En} (h : TabAt w F t S) (hb : Below w.heap.size w w') : TabAt w' F t S :=
  h.keep (fun i hi => by obtain ⟨_, _, _, _, _, _, _, h6⟩ := h; exact hb.block i (h6 i hi)) hb.size
theorem TabAt.rise {w : World} {F : Nat → Prop} {t : Nat} {S : List En} (h : TabAt w F t S) : Rise S := by
  obtain ⟨hd, ns, h1, rfl, _⟩ := h; exact h1.rise
theorem TabAt.fine {w : World} {F : Nat → Prop} {t : Nat} {S : List En} (h : TabAt w F t S) : ∀ e ∈ S, fineE e = true := by
  obtain ⟨hd, ns, h1, rfl, _⟩ := h
  intro e he
  obtain ⟨n, hn, rfl⟩ := List.mem_map.1 he
  exact h1.fine n hn
theorem TabAt.max {w : World} {F : Nat → Prop} {t : Nat} {S : List En} (h : TabAt w F t S) : S.length ≤ 4096 := by
  obtain ⟨hd, ns, h1, rfl, _⟩ := h
  rw [List.length_map]; exact h1.max
theorem fine_size {e : En} (h : fineE e = true) : 1 ≤ e.m.k.size ∧ e.m.k.size ≤ 32 ∧ e.x.size ≤ 256 := by
  unfold fineE chk at h
  simp only [Bool.and_eq_true, decide_eq_true_eq] at h
  exact ⟨h.1.1, h.1.2, h.2.1⟩
theorem esum_le {S : List En} (h : ∀ e ∈ S, fineE e = true) : esum S ≤ 288 * S.length := by
  induction S with
  | nil => simp [esum]
  | cons e S ih =>
    have h1 := fine_size (h e (by simp))
    have h2 := ih fun x hx => h x (by simp [hx])
    unfold esum at h2 ⊢
    rw [List.map_cons, List.sum_cons, List.length_cons]; omega

/-! where the place of a mark is -/
/-- who is last of those taller than j -/
def LastAt (j : Nat) (pre : List Nd) (q : Nat) : Prop := ∃ A n B, pre = A ++ n :: B ∧ n.b = q ∧ j < n.h ∧ ∀ x ∈ B, x.h ≤ j
def PathOK (pre : List Nd) (lv : Nat) (cs : Array Value) : Prop := cs.size = 8 ∧ ∀ j, lv ≤ j → j < 8 → ∃ q, cs[j]? = some (tp q) ∧ LastAt j pre q
theorem tall_or (j : Nat) : ∀ B : List Nd, (∃ B1 x B2, B = B1 ++ x :: B2 ∧ (∀ y ∈ B1, y.h ≤ j) ∧ j < x.h) ∨ ∀ y ∈ B, y.h ≤ j
  | [] => .inr fun y hy => by cases hy
  | x :: B => by
    by_cases hx : j < x.h
    · exact .inl ⟨[], x, B, rfl, (fun y hy => by cases hy), hx⟩
    · rcases tall_or j B with ⟨B1, y, B2, rfl, h1, h2⟩ | h
      · exact .inl ⟨x :: B1, y, B2, rfl, fun z hz => by rcases List.mem_cons.1 hz with rfl | hz; omega; exact h1 z hz, h2⟩
      · exact .inr fun z hz => by rcases List.mem_cons.1 hz with rfl | hz; omega; exact h z hz
theorem nxt_at {j : Nat} {B1 : List Nd} {x : Nd} {r : List Nd} (h : ∀ y ∈ B1, y.h ≤ j) (hx : j < x.h) : nxt j (B1 ++ x :: r) = some x.b := by
  rw [nxt_pass h, nxt, if_pos hx]
theorem PathOK.set {pre : List Nd} {lv : Nat} {cs : Array Value} (h : PathOK pre (lv + 1) cs) {q : Nat} (hl : LastAt lv pre q) : PathOK pre lv (cs.setIfInBounds lv (tp q)) := by
  refine ⟨by rw [Array.size_setIfInBounds]; exact h.1, fun j hj hj8 => ?_⟩
  by_cases e : lv = j
  · subst e
    exact ⟨q, by rw [Array.getElem?_setIfInBounds_self_of_lt (by rw [h.1]; exact hj8)], hl⟩
  · rw [Array.getElem?_setIfInBounds_ne e]; exact h.2 j (by omega) hj8
theorem PathOK.touch {pre : List Nd} {lv : Nat} {cs : Array Value} (h : PathOK pre (lv + 1) cs) (v : Value) : PathOK pre (lv + 1) (cs.setIfInBounds lv v) := by
  refine ⟨by rw [Array.size_setIfInBounds]; exact h.1, fun j hj hj8 => ?_⟩
  rw [Array.getElem?_setIfInBounds_ne (by omega)]; exact h.2 j hj hj8

/-- the nodes, head and all, parted at a mark -/
structure Parted (hd : Nat) (ns : List Nd) (m : Mk) (A Q : List Nd) : Prop where
  eq : ns = A ++ Q
  lt : ∀ x ∈ A, cmpM x.e.m m < 0
  ge : ∀ x ∈ Q, ¬ cmpM x.e.m m < 0
theorem parted (hd : Nat) (ns : List Nd) (m : Mk) (h : Rise (ns.map Nd.e)) : ∃ A Q, Parted hd ns m A Q := by
  refine ⟨ns.takeWhile (fun n => bef m n.e), ns.dropWhile (fun n => bef m n.e), (List.takeWhile_append_dropWhile).symm, fun x hx => ?_, fun x hx => ?_⟩
  · have := take_while_mem _ _ _ hx
    simpa [bef] using this
  · refine h.rest m x.e ?_
    rw [List.dropWhile_map]
    exact List.mem_map.2 ⟨x, hx, rfl⟩
theorem Parted.take {hd : Nat} {ns : List Nd} {m : Mk} {A Q : List Nd} (h : Parted hd ns m A Q) : (ns.map Nd.e).takeWhile (bef m) = A.map Nd.e ∧ (ns.map Nd.e).dropWhile (bef m) = Q.map Nd.e := by
  rw [h.eq, List.map_append]
  have h1 : ∀ e ∈ A.map Nd.e, bef m e = true := fun e he => by
    obtain ⟨n, hn, rfl⟩ := List.mem_map.1 he
    exact decide_eq_true (h.lt n hn)
  have hQ : (Q.map Nd.e).takeWhile (bef m) = [] ∧ (Q.map Nd.e).dropWhile (bef m) = Q.map Nd.e := by
    cases hq : Q with
    | nil => exact ⟨rfl, rfl⟩
    | cons x Q' =>
      have hb : ¬ bef m x.e = true := by
        have := h.ge x (by rw [hq]; simp)
        unfold bef; simpa using this
      rw [List.map_cons, List.takeWhile_cons, List.dropWhile_cons, if_neg hb, if_neg hb]
      exact ⟨rfl, rfl⟩
  rw [List.takeWhile_append_of_pos h1, List.dropWhile_append_of_pos h1, hQ.1, hQ.2, List.append_nil]
  exact ⟨rfl, rfl⟩
theorem Parted.ins {hd : Nat} {ns : List Nd} {m : Mk} {A Q : List Nd} (h : Parted hd ns m A Q) (x : En) (hx : x.m = m) : insE x (ns.map Nd.e) = A.map Nd.e ++ x :: Q.map Nd.e := by
  subst hx
  unfold insE
  rw [h.take.1, h.take.2]
/-- the first one behind, if any, has that mark, if one has -/
theorem Parted.there {hd : Nat} {ns : List Nd} {m : Mk} {A Q : List Nd} (h : Parted hd ns m A Q) (hr : Rise (ns.map Nd.e)) : (∃ e ∈ ns.map Nd.e, e.m = m) ↔ ∃ x Q', Q = x :: Q' ∧ x.e.m = m := by
  constructor
  · rintro ⟨e, he, hm⟩
    have : e ∈ (ns.map Nd.e).dropWhile (bef m) := (hr.split m e).2 ⟨he, by rw [hm, cmp_self]; omega⟩
    rw [h.take.2] at this
    cases hq : Q with
    | nil => rw [hq] at this; cases this
    | cons x Q' =>
      refine ⟨x, Q', rfl, ?_⟩
      rw [hq, List.map_cons] at this
      rcases List.mem_cons.1 this with q | q
      · rw [← q]; exact hm
      · have hs : Rise (x.e :: Q'.map Nd.e) := by
          have := h.eq
          rw [hq] at this
          rw [this, List.map_append, List.map_cons] at hr
          exact (List.pairwise_append.1 hr).2.1
        have h1 := (List.pairwise_cons.1 hs).1 e q
        have h2 := h.ge x (by rw [hq]; simp)
        rw [hm] at h1
        exact absurd h1 h2
  · rintro ⟨x, Q', rfl, hm⟩
    exact ⟨x.e, List.mem_map.2 ⟨x, by rw [h.eq]; simp, rfl⟩, hm⟩

theorem exists_yes (t hd : Nat) (w : World) (c0 : w.cell? ⟨t, 0, none⟩ = some (tp hd)) :
    Calls Tryz.prog 114 #[tp t] w fun e w' => e = .returned (.bool true) ∧ w = w' := by
  go_enter Tryz.func114, Tryz.ntmps114
  go_wp2
  go_ret
  exact ⟨rfl, rfl⟩
theorem exists_nil (w : World) : Calls Tryz.prog 114 #[.pointer none] w fun e w' => e = .returned (.bool false) ∧ w = w' := by
  go_enter Tryz.func114, Tryz.ntmps114
  go_wp2
  go_ret
  exact ⟨rfl, rfl⟩
theorem exists_no (t : Nat) (w : World) (c0 : w.cell? ⟨t, 0, none⟩ = some (.pointer none)) :
    Calls Tryz.prog 114 #[tp t] w fun e w' => e = .returned (.bool false) ∧ w = w' := by
  go_enter Tryz.func114, Tryz.ntmps114
  go_wp2
  go_ret
  exact ⟨rfl, rfl⟩
section
variable {w : World} {t hd : Nat} {ns : List Nd} (h : TabN w t hd ns)
include h
theorem len_ok : Calls Tryz.prog 39 #[tp t] w fun e w' => e = .returned (.int .i64 (ns.length : Int)) ∧ w = w' := by
  have c0 := h.c0; have c1 := h.c1
  clear h
  go_enter Tryz.func39, Tryz.ntmps39
  go_wp2_with (go_at_call 114; refine (exists_yes t hd _ c0).mono ?_; rintro e w' ⟨rfl, rfl⟩)
  go_ret
  exact ⟨rfl, rfl⟩
theorem bytes_ok : Calls Tryz.prog 41 #[tp t] w fun e w' => e = .returned (.int .i64 (esum (ns.map Nd.e) : Int)) ∧ w = w' := by
  have c0 := h.c0; have c2 := h.c2
  clear h
  go_enter Tryz.func41, Tryz.ntmps41
  go_wp2_with (go_at_call 114; refine (exists_yes t hd _ c0).mono ?_; rintro e w' ⟨rfl, rfl⟩)
  go_ret
  exact ⟨rfl, rfl⟩
end

/-- the world behind an entry's box -/
abbrev enW (w : World) (x : En) : World := w.alloc (.cells #[.string x.m.k, .int .u64 (x.m.s : Int), .bool x.m.g, .string x.x] 83)
theorem enW_facts (w : World) (x : En) : (enW w x).cell? ⟨w.heap.size, 0, none⟩ = some (.string x.m.k) ∧ (enW w x).cell? ⟨w.heap.size, 1, none⟩ = some (.int .u64 (x.m.s : Int)) ∧ (enW w x).cell? ⟨w.heap.size, 2, none⟩ = some (.bool x.m.g) ∧ (enW w x).cell? ⟨w.heap.size, 3, none⟩ = some (.string x.x) ∧ Below w.heap.size w (enW w x) ∧ (enW w x).heap.size = w.heap.size + 1 := by
  have h : (enW w x).heap[w.heap.size]? = some (.cells #[.string x.m.k, .int .u64 (x.m.s : Int), .bool x.m.g, .string x.x] 83 (0, 0)) := heap_alloc_new w _
  exact ⟨cell_of_row _ _ 0 _ _ (0, 0) h, cell_of_row _ _ 1 _ _ (0, 0) h, cell_of_row _ _ 2 _ _ (0, 0) h, cell_of_row _ _ 3 _ _ (0, 0) h, (Below.refl _ _).alloc (Nat.le_refl _) _, by simp⟩

theorem valid_any (x : En) (w : World) (hk : x.m.k.size ≤ 140737488351232) (hx : x.x.size ≤ 140737488351232) :
    Calls Tryz.prog 115 #[x.v] w fun e w' => e = .returned (.bool (fineE x)) ∧ Below w.heap.size w w' := by
  unfold fineE En.v
  obtain ⟨b0, b1, b2, b3, hB, _⟩ := enW_facts w x
  have HB := Lib.hid hB
  have HC : Hid (∀ W, Calls Tryz.prog 169 #[.string x.m.k] W fun e w' => e = .returned (.bool (chk x.m.k)) ∧ W = w') := fun W => chk_any x.m.k W (by omega)
  clear hB b0 b1 b2 b3
  obtain ⟨c, hc⟩ : ∃ c, chk x.m.k = c := ⟨_, rfl⟩
  rw [hc] at HC ⊢
  clear hc
  cases c
  · go_enter Tryz.func115, Tryz.ntmps115
    go_wp2_with (go_at_call 169; refine (HC.out _).mono ?_; rintro e w' ⟨rfl, rfl⟩)
    go_ret
    exact ⟨rfl, HB.out⟩
  · by_cases h2 : x.x.size ≤ 256
    · have i2 : (x.x.size : Int) ≤ 256 := by omega
      have d2 : decide (x.x.size ≤ 256) = true := decide_eq_true h2
      rw [d2]
      cases h3 : x.x.toList.isEmpty <;> cases h4 : x.m.g <;>
      · go_enter Tryz.func115, Tryz.ntmps115
        go_wp2_with (go_at_call 169; refine (HC.out _).mono ?_; rintro e w' ⟨rfl, rfl⟩)
        go_ret
        exact ⟨rfl, by rw [← h4]; exact HB.out⟩
    · have i2 : ¬ (x.x.size : Int) ≤ 256 := by omega
      have d2 : decide (x.x.size ≤ 256) = false := decide_eq_false h2
      rw [d2]
      go_enter Tryz.func115, Tryz.ntmps115
      go_wp2_with (go_at_call 169; refine (HC.out _).mono ?_; rintro e w' ⟨rfl, rfl⟩)
      go_ret
      exact ⟨rfl, HB.out⟩
end Go.Proofs.YtopcnlophmplgaaGreatDoor
