/-
  Package merges: visibleAtAny.
  Plain mathematics: what is left of entries that are looked at.
  Package merges: Thin.
  Package merges: Thin.
-/
import Derived.Test.YtoljldokehfokaaMgUX
import Derived.Test.YtoljldokehfokaaMgST
namespace Go.Proofs.Ytoljldokehfokaa
open Go.RowKit
set_option linter.unusedVariables false
set_option maxRecDepth 100000

/-- is the entry at a place of a key's visible at one of the looks? -/
def keepAt (L : List Nat) (S : List En) (k : Nat) : Bool := match S[k]? with
  | none => false
  | some x => match k with
    | 0 => true
    | j + 1 => match S[j]? with
      | none => false
      | some y => decide (L.getD (lowN L x.m.s) 0 < y.m.s)
def keepN (L : List Nat) (S : List En) : Nat → List En
  | 0 => []
  | k + 1 => keepN L S k ++ (if keepAt L S k then (S[k]?).toList else [])
theorem keepN_len (L : List Nat) (S : List En) : ∀ k, (keepN L S k).length ≤ k
  | 0 => Nat.le_refl _
  | k + 1 => by
    have := keepN_len L S k
    rw [keepN, List.length_append]
    split
    · cases S[k]? <;> simp <;> omega
    · simp; omega
theorem keepN_mem {L : List Nat} {S : List En} : ∀ {k : Nat} {x : En}, x ∈ keepN L S k → x ∈ S
  | 0, x, h => by cases h
  | k + 1, x, h => by
    rw [keepN] at h
    rcases List.mem_append.1 h with h | h
    · exact keepN_mem h
    · split at h
      · cases hk : S[k]? with
        | none => rw [hk] at h; cases h
        | some y => rw [hk] at h; obtain rfl := List.mem_singleton.1 h; exact List.mem_of_getElem? hk
      · cases h
/-- what visibleAtAny answers -/
def VaA (w : World) (L : List Nat) (S : List En) (e : Ending) (w' : World) : Prop := ∃ v, e = .returned v ∧ w'.ownsRow w.heap.size 31 4 v (keepN L S S.length).length (ecs (keepN L S S.length)) ∧ Below w.heap.size w w'
def VaR (w : World) (n : Nat) (L : List Nat) (S : List En) (v i : Value) (wr : World) : Prop := ∃ k : Nat, k ≤ n ∧ i = .int .i64 (k : Int) ∧ wr.ownsRow w.heap.size 31 4 v (keepN L S k).length (ecs (keepN L S k)) ∧ Below w.heap.size w wr

set_option maxHeartbeats 8000000 in
theorem visAny_any {w : World} {B n c B2 m c2 : Nat} {A A2 : Option Addr} {S : List En} {L : List Nat} (hE : EL w B A n c S) (hn : n ≤ 500000) (hL : Lies w B2 1 A2 m (L.map uv)) (hB2 : B2 ≤ w.heap.size) (hp : L.Pairwise (· ≤ ·)) (hm : m ≤ 1000000) (hst : ∀ x ∈ S, lowN L x.m.s < m) :
    Calls Try.prog 38 #[.slice A n c, .slice A2 m c2] w fun e w' => VaA w L S e w' := by
  have hln := hE.lies.elen
  have hlm := hL.ulen
  have HE := Lib.hid hE; have HLn := Lib.hid hln; have HL := Lib.hid hL; have HP := Lib.hid hp; have HSt := Lib.hid hst; have HLm := Lib.hid hlm
  obtain ⟨i0, hi, hz0, hz1, hz2⟩ := info_parts entry_info
  have HS : Hid (VaR w n L S (.slice none 0 0) (.int .i64 0) w) := ⟨0, Nat.zero_le _, rfl, ⟨rfl, .inl ⟨rfl, rfl⟩⟩, Below.refl _ _⟩
  clear hE hln hL hp hst hlm
  go_enter Try.func38, Try.ntmps38
  go_wp2
  go_loopw [5, 12] (fun v i wr => VaR w n L S v i wr) (fun _ i _ => n - (intOf i).toNat)
  case atStart => exact HS.out
  case round =>
    clear HS
    obtain ⟨k, hk, rfl, ho, hb⟩ := hrel
    obtain ⟨Av, cv, rfl, _⟩ := own_shape ho
    by_cases hlt : k < n
    · have hEr : EL wr B A n c S := HE.out.below (hb.mono (Nat.le_refl _))
      obtain ⟨b, o, x, rfl, hbB, hx, x0, x1, x2, x3⟩ := hEr.lies.entry hlt
      have hbw := Nat.lt_of_lt_of_le hbB hEr.B
      obtain ⟨b0, b1, b2, b3, hBx, hzx⟩ := enW_facts wr x
      obtain ⟨W1, hW1⟩ : ∃ W1, enW wr x = W1 := ⟨_, rfl⟩
      have HW1 : Hid (wr.alloc (.cells #[.string x.m.k, .int .u64 (x.m.s : Int), .bool x.m.g, .string x.x] 31) = W1) := hW1
      rw [hW1] at b0 b1 b2 b3 hBx hzx
      have hL1 : Lies W1 B2 1 A2 m (L.map uv) := HL.out.keep fun p hp => (hBx.cell (by have := hb.size; omega)).trans (hb.cell (by omega))
      have hxS := List.mem_of_getElem? hx
      have hs1 := HSt.out x hxS
      obtain ⟨st, hste⟩ : ∃ st, lowN L x.m.s = st := ⟨_, rfl⟩
      rw [hste] at hs1
      have HSte := Lib.hid hste
      have HBs := Lib.hid (bsU_any B2 m c2 A2 L x.m.s W1 hL1 HP.out hm)
      rw [hste] at HBs
      obtain ⟨lb, lo, y, rfl, hlB, hy, yc⟩ := hL1.num hs1
      have HY := Lib.hid hy
      have HB1 := Lib.hid (hb.trans (hBx.mono hb.size))
      have ho1 := own_below ho hBx
      have hkn := keepN_len L S k
      obtain ⟨q, hq⟩ : ∃ q, (keepN L S k).length = q := ⟨_, rfl⟩
      rw [hq] at ho1 hkn ⊢
      have HO1 := Lib.hid ho1; have HX := Lib.hid hx; have HQ := Lib.hid hq
      have i0' : (0 : Int) ≤ (k : Int) := by omega
      have i1 : (k : Int) < (n : Int) := by omega
      have i2 : (0 : Int) ≤ (st : Int) := by omega
      have i3 : (st : Int) < (m : Int) := by omega
      have HM : Hid (n - (k + 1) < n - k) := by unfold Hid; omega
      have HNo : Hid (keepAt L S k = false → ∀ W, Below w.heap.size w W → W.ownsRow w.heap.size 31 4 (.slice Av q cv) q (ecs (keepN L S k)) → VaR w n L S (.slice Av q cv) (.int .i64 ((k : Int) + 1)) W) := fun h W h1 h2 => by
        refine ⟨k + 1, hlt, by simp, ?_, h1⟩
        rw [keepN, h, if_neg (by simp), List.append_nil, HQ.out]; exact h2
      have HYes : Hid (keepAt L S k = true → ∀ W v, Below w.heap.size w W → W.ownsRow w.heap.size 31 4 v (q + 1) (ecs (keepN L S k) ++ ecs [x]) → VaR w n L S v (.int .i64 ((k : Int) + 1)) W) := fun h W v h1 h2 => by
        refine ⟨k + 1, hlt, by simp, ?_, h1⟩
        have e : ecs (keepN L S k) ++ ecs [x] = ecs (keepN L S k ++ [x]) := by unfold ecs; rw [List.flatMap_append]
        rw [keepN, h, if_pos rfl, HX.out, Option.toList_some, List.length_append, HQ.out, ← e]; exact h2
      have b1' : (wr.alloc (.cells #[.string x.m.k, .int .u64 (x.m.s : Int), .bool x.m.g, .string x.x] 31)).cell? ⟨wr.heap.size, 1, none⟩ = some (.int .u64 (x.m.s : Int)) := (enW_facts wr x).2.1
      clear hW1 hEr hb ho hL1 hxS hx hq hste hy
      by_cases hk0 : k = 0
      · have HKp : Hid (keepAt L S k = true) := by subst hk0; unfold Hid keepAt; rw [HX.out]
        have HK0 := Lib.hid hk0
        clear hk0
        go_wp2_with fail
        rw [HW1.out]
        refine HBs.out.mono ?_
        rintro e w2 ⟨⟨d, rfl⟩, rfl⟩
        clear HBs HW1 b1'
        have hd : ((k : Int) == 0) = true := by rw [HK0.out]; rfl
        go_wp2
        go_quiet (fail)
        clear hd
        have hbq : Below w.heap.size w (W1.drewN nq) := below_drewN HB1.out nq
        have ho3 : (W1.drewN nq).ownsRow w.heap.size 31 4 (.slice Av q cv) q (ecs (keepN L S k)) := HO1.out
        have d0 : (W1.drewN nq).cell? ⟨wr.heap.size, 0, none⟩ = some (.string x.m.k) := b0
        have d1 : (W1.drewN nq).cell? ⟨wr.heap.size, 1, none⟩ = some (.int .u64 (x.m.s : Int)) := b1
        have d2 : (W1.drewN nq).cell? ⟨wr.heap.size, 2, none⟩ = some (.bool x.m.g) := b2
        have d3 : (W1.drewN nq).cell? ⟨wr.heap.size, 3, none⟩ = some (.string x.x) := b3
        generalize W1.drewN nq = W3 at *
        have HB3 := Lib.hid hbq; have HO3 := Lib.hid ho3
        clear hbq ho3 b0 b1 b2 b3 hBx HB1 HO1 HNo
        go_wp2_with (at_builtin; refine wpList_app _ rfl (.tmp 41) (.tmp 43) 22 rfl w.heap.size 31 i0 _ 4 48 Try.underlying22 hi hz0 hz1 hz2 rfl (by decide) (.slice Av q cv) q (ecs (keepN L S k)) rfl (HO3.out.alloc _) (W3.heap.size + 1) (some ⟨W3.heap.size, 0, none⟩) 1 1 (ecs [x]) rfl (en_lies W3 x) (ecs_one _) (by unfold maxLen; omega) (by omega) (by have := HB3.out.size; simp; omega) ?_; intro v9 w9 ho9 hg9 _; have hb9 := (HB3.out.trans ((al_belowM W3 _).mono HB3.out.size)).grown hg9 (by have := HB3.out.size; simp; omega) (fun z hz => (ho1.lt z hz).1); obtain ⟨A9, c9, rfl, _⟩ := own_shape ho9)
        have HR := Lib.hid (HYes.out HKp.out _ _ hb9 ho9)
        clear hb9 ho9 hg9 HYes ho1
        go_wp2
        go_roundw
        case rel => exact HR.out
        case measure => simp [intOf]; have := HM.out; omega
      · obtain ⟨j, hj⟩ : ∃ j, k = j + 1 := ⟨k - 1, by omega⟩
        have hE1 : EL W1 B (some ⟨b, o, none⟩) n c S := (HE.out.below HB1.out)
        obtain ⟨b', o', z, e', _, hz, z0, z1, z2, z3⟩ := hE1.lies.entry (i := j) (by omega)
        injection e' with e'
        injection e' with e1 e2
        subst e1 e2
        have HKp : Hid (keepAt L S k = decide (y < z.m.s)) := by
          unfold Hid keepAt
          rw [HX.out]
          subst hj
          show (match S[j]? with | none => false | some y => decide (L.getD (lowN L x.m.s) 0 < y.m.s)) = _
          rw [hz, HSte.out, List.getD_eq_getElem?_getD, HY.out]; rfl
        have i4 : (k : Int) - 1 = (j : Int) := by omega
        have i5 : (0 : Int) ≤ (j : Int) := by omega
        have i6 : (j : Int) < (n : Int) := by omega
        have i7 : j < n := by omega
        have i8 : st < m := by omega
        have iw : IntKind.i64.wrap ((k : Int) - 1) = (j : Int) := by rw [IntWalk.i64_in] <;> omega
        have iw2 : IntKind.i64.wrap (j : Int) = (j : Int) := by rw [IntWalk.i64_in]; omega
        have hd : ((k : Int) == 0) = false := by rw [beq_eq_false_iff_ne]; omega
        have hd0 : ¬ (k : Int) = 0 := by omega
        clear hj hE1 hz z0 z2 z3 hk0
        by_cases hyz : y < z.m.s
        · rw [decide_eq_true hyz] at HKp
          have hyi : (y : Int) < (z.m.s : Int) := by omega
          have hdy : decide ((y : Int) < (z.m.s : Int)) = true := decide_eq_true hyi
          go_wp2_with fail
          rw [HW1.out]
          refine HBs.out.mono ?_
          rintro e w2 ⟨⟨d, rfl⟩, rfl⟩
          clear HBs HW1 b1'
          go_wp2
          go_quiet (fail)
          clear z1 yc
          have hbq : Below w.heap.size w (W1.drewN nq) := below_drewN HB1.out nq
          have ho3 : (W1.drewN nq).ownsRow w.heap.size 31 4 (.slice Av q cv) q (ecs (keepN L S k)) := HO1.out
          have d0 : (W1.drewN nq).cell? ⟨wr.heap.size, 0, none⟩ = some (.string x.m.k) := b0
          have d1 : (W1.drewN nq).cell? ⟨wr.heap.size, 1, none⟩ = some (.int .u64 (x.m.s : Int)) := b1
          have d2 : (W1.drewN nq).cell? ⟨wr.heap.size, 2, none⟩ = some (.bool x.m.g) := b2
          have d3 : (W1.drewN nq).cell? ⟨wr.heap.size, 3, none⟩ = some (.string x.x) := b3
          generalize W1.drewN nq = W3 at *
          have HB3 := Lib.hid hbq; have HO3 := Lib.hid ho3
          clear hbq ho3 b0 b1 b2 b3 hBx HB1 HO1 HNo
          go_wp2_with (at_builtin; refine wpList_app _ rfl (.tmp 41) (.tmp 43) 22 rfl w.heap.size 31 i0 _ 4 48 Try.underlying22 hi hz0 hz1 hz2 rfl (by decide) (.slice Av q cv) q (ecs (keepN L S k)) rfl (HO3.out.alloc _) (W3.heap.size + 1) (some ⟨W3.heap.size, 0, none⟩) 1 1 (ecs [x]) rfl (en_lies W3 x) (ecs_one _) (by unfold maxLen; omega) (by omega) (by have := HB3.out.size; simp; omega) ?_; intro v9 w9 ho9 hg9 _; have hb9 := (HB3.out.trans ((al_belowM W3 _).mono HB3.out.size)).grown hg9 (by have := HB3.out.size; simp; omega) (fun z hz => (ho1.lt z hz).1); obtain ⟨A9, c9, rfl, _⟩ := own_shape ho9)
          have HR := Lib.hid (HYes.out HKp.out _ _ hb9 ho9)
          clear hb9 ho9 hg9 HYes ho1
          go_wp2
          go_roundw
          case rel => exact HR.out
          case measure => simp [intOf]; have := HM.out; omega
        · rw [decide_eq_false hyz] at HKp
          have hyi : ¬ (y : Int) < (z.m.s : Int) := by omega
          have hdy : decide ((y : Int) < (z.m.s : Int)) = false := decide_eq_false hyi
          go_wp2_with fail
          rw [HW1.out]
          refine HBs.out.mono ?_
          rintro e w2 ⟨⟨d, rfl⟩, rfl⟩
          clear HBs HW1 b1'
          go_wp2
          go_quiet (fail)
          have HR := Lib.hid (HNo.out HKp.out (W1.drewN nq) (below_drewN HB1.out nq) HO1.out)
          clear HNo HYes ho1 z1 yc
          go_wp2
          go_roundw
          case rel => exact HR.out
          case measure => simp [intOf]; have := HM.out; omega
    · obtain rfl : k = n := by omega
      have HF : Hid (VaA w L S (.returned (.slice Av (keepN L S k).length cv)) wr) := ⟨_, rfl, by rw [HLn.out]; exact ho, hb⟩
      clear ho hb
      go_wp2
      go_ret
      exact HF.out
end Go.Proofs.Ytoljldokehfokaa

namespace Go.Proofs.Ytoljldokehfokaa
open Go.RowKit
set_option linter.unusedVariables false
set_option maxRecDepth 100000

/-- is an entry seen by one of the looks? -/
def keptB (L : List Nat) (P : List En) (x : En) : Bool := L.any fun s => seenB s P x
def keptGo (L : List Nat) : List En → List En → List En
  | _, [] => []
  | P, x :: t => (if keptB L P x then [x] else []) ++ keptGo L (P ++ [x]) t
def kept (L : List Nat) (S : List En) : List En := keptGo L [] S
/-- without those that are gone behind which none of their key is left that isn't -/
def stayGo : List En → List En
  | [] => []
  | x :: t => (if !x.m.g || t.any (fun y => decide (y.m.k = x.m.k) && !y.m.g) then [x] else []) ++ stayGo t
def thinF (L : List Nat) (last : Bool) (S : List En) : List En := if last then stayGo (kept L S) else kept L S
theorem keptGo_app (L : List Nat) : ∀ (a P b : List En), keptGo L P (a ++ b) = keptGo L P a ++ keptGo L (P ++ a) b
  | [], P, b => by simp [keptGo]
  | x :: t, P, b => by
    rw [List.cons_append, keptGo, keptGo, keptGo_app L t, List.append_assoc, List.append_assoc]; rfl
theorem keptGo_mem {L : List Nat} : ∀ {S P : List En} {x : En}, x ∈ keptGo L P S → x ∈ S
  | [], P, x, h => by cases h
  | y :: t, P, x, h => by
    rw [keptGo] at h
    rcases List.mem_append.1 h with h | h
    · split at h
      · obtain rfl := List.mem_singleton.1 h; exact List.mem_cons_self ..
      · cases h
    · exact List.mem_cons_of_mem _ (keptGo_mem h)
theorem stayGo_app : ∀ (a b : List En), (∀ x ∈ a, ∀ y ∈ b, x.m.k ≠ y.m.k) → stayGo (a ++ b) = stayGo a ++ stayGo b
  | [], b, _ => rfl
  | x :: t, b, h => by
    have hb : (b.any fun y => decide (y.m.k = x.m.k) && !y.m.g) = false := by
      rw [List.any_eq_false]
      intro y hy
      have h3 : ¬ y.m.k = x.m.k := fun e => h x (List.mem_cons_self ..) y hy e.symm
      simp [h3]
    rw [List.cons_append, stayGo, stayGo, stayGo_app t b (fun z hz => h z (List.mem_cons_of_mem _ hz)), List.any_append, hb, Bool.or_false, List.append_assoc]
theorem dropW_all {α : Type} {p : α → Bool} : ∀ (S : List α), (∀ x ∈ S, p x = true) → S.dropWhile p = []
  | [], _ => rfl
  | x :: t, h => by rw [List.dropWhile_cons, if_pos (h x (List.mem_cons_self ..))]; exact dropW_all t fun y hy => h y (List.mem_cons_of_mem _ hy)
theorem cutG_cons (x : En) (t : List En) : cutG (x :: t) = if !x.m.g || t.any (fun y => !y.m.g) then x :: cutG t else [] := by
  unfold cutG
  rw [List.reverse_cons, List.dropWhile_append]
  by_cases h : (t.any fun y => !y.m.g) = true
  · have hne : (t.reverse.dropWhile fun y => y.m.g).isEmpty = false := by
      cases e : t.reverse.dropWhile fun y => y.m.g with
      | cons _ _ => rfl
      | nil =>
        exfalso
        obtain ⟨y, hy, hg⟩ := List.any_eq_true.1 h
        have h2 := List.takeWhile_append_dropWhile (p := fun y : En => y.m.g) (l := t.reverse)
        rw [e, List.append_nil] at h2
        have hy2 : y ∈ t.reverse.takeWhile fun y => y.m.g := by rw [h2]; exact List.mem_reverse.2 hy
        have := take_while_mem (fun y : En => y.m.g) _ _ hy2
        simp [this] at hg
    rw [hne, if_neg (by simp), h, Bool.or_true, if_pos rfl, List.reverse_append]; rfl
  · have h' := Bool.eq_false_iff.2 h
    have hall : ∀ y ∈ t, y.m.g = true := fun y hy => by
      have := (List.any_eq_false.1 h') y hy
      simpa using this
    have he : (t.reverse.dropWhile fun y => y.m.g) = [] := by
      exact dropW_all _ fun y hy => hall y (List.mem_reverse.1 hy)
    rw [he, h', Bool.or_false]
    cases hg : x.m.g <;> simp [hg]
theorem stayGo_one : ∀ (U : List En) (k : ByteArray), (∀ x ∈ U, x.m.k = k) → stayGo U = cutG U
  | [], k, _ => rfl
  | x :: t, k, h => by
    have ht := fun y hy => h y (List.mem_cons_of_mem x hy)
    have hx := h x (List.mem_cons_self ..)
    have e : (t.any fun y => decide (y.m.k = x.m.k) && !y.m.g) = t.any fun y => !y.m.g := by
      rw [Bool.eq_iff_iff, List.any_eq_true, List.any_eq_true]
      constructor
      · rintro ⟨y, hy, q⟩; exact ⟨y, hy, by simp at q; simp [q.2]⟩
      · rintro ⟨y, hy, q⟩; exact ⟨y, hy, by rw [ht y hy, hx]; simp at q; simp [q]⟩
    rw [stayGo, stayGo_one t k ht, cutG_cons, e]
    by_cases q : (!x.m.g || t.any fun y => !y.m.g) = true
    · rw [if_pos q, if_pos q]; rfl
    · rw [if_neg q, if_neg q, List.nil_append]
      have q' := Bool.eq_false_iff.2 q
      rw [Bool.or_eq_false_iff] at q'
      cases t with
      | nil => rfl
      | cons y u =>
        rw [cutG_cons]
        have h3 := q'.2
        rw [List.any_cons] at h3
        rw [h3, if_neg (by simp)]

/-- in a key's run the numbers fall -/
theorem run_falls {g : List En} (hr : Rise g) {k : ByteArray} (hk : ∀ x ∈ g, x.m.k = k) {i j : Nat} {x y : En} (hij : i < j) (hx : g[i]? = some x) (hy : g[j]? = some y) : y.m.s ≤ x.m.s := by
  have h := hr.ne hij hx hy
  have e1 := hk x (List.mem_of_getElem? hx)
  have e2 := hk y (List.mem_of_getElem? hy)
  rw [cmpM_eq, e1, e2] at h
  simp only [tri_S.self k, ne_eq, not_true_eq_false, if_false] at h
  rcases Nat.lt_or_ge x.m.s y.m.s with q | q
  · exfalso
    have h5 : cmpN y.m.s x.m.s = 1 := by unfold cmpN; rw [if_neg (by omega), if_pos q]
    rw [h5] at h
    simp at h
  · exact q
theorem run_kept {L asc : List Nat} (hp : asc.Pairwise (· ≤ ·)) (hm : ∀ s, s ∈ asc ↔ s ∈ L) {M : Nat} (hM : M ∈ L) {g P : List En} (hr : Rise g) {key : ByteArray} (hk : ∀ x ∈ g, x.m.k = key) (hP : ∀ a ∈ P, a.m.k ≠ key) (hs : ∀ x ∈ g, x.m.s ≤ M) {k : Nat} {x : En} (hx : g[k]? = some x) :
    keptB L (P ++ g.take k) x = keepAt asc g k := by
  have hxg := List.mem_of_getElem? hx
  have hPa : ∀ s, (P.any fun y => decide (y.m.k = x.m.k) && decide (y.m.s ≤ s)) = false := fun s => by
    rw [List.any_eq_false]
    intro a ha
    have := hP a ha
    rw [hk x hxg]; simp [this]
  have hse : ∀ s, seenB s (P ++ g.take k) x = (decide (x.m.s ≤ s) && !((g.take k).any fun y => decide (y.m.s ≤ s))) := fun s => by
    unfold seenB
    rw [List.any_append, hPa, Bool.false_or]
    congr 2
    rw [Bool.eq_iff_iff, List.any_eq_true, List.any_eq_true]
    constructor
    · rintro ⟨y, hy, q⟩; exact ⟨y, hy, by simp at q; simp [q.2]⟩
    · rintro ⟨y, hy, q⟩; exact ⟨y, hy, by rw [hk y (List.mem_of_mem_take hy), hk x hxg]; simp at q; simp [q]⟩
  unfold keptB keepAt
  rw [hx]
  cases k with
  | zero =>
    show (L.any fun s => seenB s (P ++ g.take 0) x) = true
    rw [List.any_eq_true]
    refine ⟨M, hM, ?_⟩
    rw [hse]
    simp [hs x hxg]
  | succ j =>
    have hjl : j < g.length := by have := (List.getElem?_eq_some_iff.1 hx).1; omega
    obtain ⟨y, hy⟩ : ∃ y, g[j]? = some y := ⟨_, List.getElem?_eq_getElem hjl⟩
    show (L.any fun s => seenB s (P ++ g.take (j + 1)) x) = (match g[j]? with | none => false | some y => decide (asc.getD (lowN asc x.m.s) 0 < y.m.s))
    rw [hy]
    show _ = decide (asc.getD (lowN asc x.m.s) 0 < y.m.s)
    have hany : ∀ s, ((g.take (j + 1)).any fun z => decide (z.m.s ≤ s)) = decide (y.m.s ≤ s) := fun s => by
      rw [Bool.eq_iff_iff, List.any_eq_true, decide_eq_true_eq]
      constructor
      · rintro ⟨z, hz, q⟩
        obtain ⟨i, hi, rfl⟩ := List.mem_take_iff_getElem.1 hz
        have hi2 : i < g.length := by omega
        have q := of_decide_eq_true q
        by_cases e : i = j
        · subst e
          rw [List.getElem?_eq_getElem hi2] at hy
          injection hy with hy
          rw [← hy]; exact q
        · have := run_falls hr hk (i := i) (j := j) (by omega) (List.getElem?_eq_getElem hi2) hy
          omega
      · intro q
        refine ⟨y, ?_, decide_eq_true q⟩
        obtain ⟨h1, rfl⟩ := List.getElem?_eq_some_iff.1 hy
        exact List.mem_take_iff_getElem.2 ⟨j, by omega, rfl⟩
    have hMa := (hm M).2 hM
    obtain ⟨iM, hiM⟩ := List.mem_iff_getElem?.1 hMa
    have hlo : lowN asc x.m.s < asc.length := by
      have h1 := (lowN_iff (x := x.m.s) asc hp iM M hiM)
      have h2 := hs x hxg
      have h3 := (List.getElem?_eq_some_iff.1 hiM).1
      have : ¬ iM < lowN asc x.m.s := fun q => by have := h1.2 q; omega
      omega
    have hat := List.getElem?_eq_getElem hlo
    have hgd : asc.getD (lowN asc x.m.s) 0 = asc[lowN asc x.m.s] := by rw [List.getD_eq_getElem?_getD, hat]; rfl
    have hge : x.m.s ≤ asc[lowN asc x.m.s] := by
      have h1 := lowN_iff (x := x.m.s) asc hp _ _ hat
      have : ¬ asc[lowN asc x.m.s] < x.m.s := fun q => by have := h1.1 q; omega
      omega
    rw [hgd, Bool.eq_iff_iff, List.any_eq_true, decide_eq_true_eq]
    constructor
    · rintro ⟨s, hsL, q⟩
      rw [hse, hany] at q
      simp at q
      obtain ⟨i, hi⟩ := List.mem_iff_getElem?.1 ((hm s).2 hsL)
      have h1 := lowN_iff (x := x.m.s) asc hp i s hi
      have hil := (List.getElem?_eq_some_iff.1 hi).1
      have hlei : lowN asc x.m.s ≤ i := by
        rcases Nat.lt_or_ge i (lowN asc x.m.s) with z | z
        · have := h1.2 z; omega
        · exact z
      have : asc[lowN asc x.m.s] ≤ s := by
        obtain ⟨_, rfl⟩ := List.getElem?_eq_some_iff.1 hi
        rcases Nat.lt_or_ge (lowN asc x.m.s) i with z | z
        · exact List.pairwise_iff_getElem.1 hp _ _ hlo hil z
        · have e : lowN asc x.m.s = i := by omega
          simp [e]
      omega
    · intro q
      refine ⟨asc[lowN asc x.m.s], (hm _).1 (List.getElem_mem hlo), ?_⟩
      rw [hse, hany]
      simp
      omega
theorem run_keptGo {L asc : List Nat} (hp : asc.Pairwise (· ≤ ·)) (hm : ∀ s, s ∈ asc ↔ s ∈ L) {M : Nat} (hM : M ∈ L) {g P : List En} (hr : Rise g) {key : ByteArray} (hk : ∀ x ∈ g, x.m.k = key) (hP : ∀ a ∈ P, a.m.k ≠ key) (hs : ∀ x ∈ g, x.m.s ≤ M) :
    ∀ k, k ≤ g.length → keptGo L P (g.take k) = keepN asc g k
  | 0, _ => rfl
  | k + 1, h => by
    obtain ⟨x, hx⟩ : ∃ x, g[k]? = some x := ⟨_, List.getElem?_eq_getElem (by omega)⟩
    rw [List.take_add_one, hx, keptGo_app, run_keptGo hp hm hM hr hk hP hs k (by omega), keepN, ← run_kept hp hm hM hr hk hP hs hx, hx, Option.toList_some, keptGo, keptGo, List.append_nil]
/-- what is left of one key's entries -/
def runT (asc : List Nat) (last : Bool) (g : List En) : List En := if last then cutG (keepN asc g g.length) else keepN asc g g.length
theorem thinF_run {L asc : List Nat} (hp : asc.Pairwise (· ≤ ·)) (hm : ∀ s, s ∈ asc ↔ s ∈ L) {M : Nat} (hM : M ∈ L) {g P : List En} (last : Bool) (hr : Rise g) {key : ByteArray} (hk : ∀ x ∈ g, x.m.k = key) (hP : ∀ a ∈ P, a.m.k ≠ key) (hs : ∀ x ∈ g, x.m.s ≤ M) :
    thinF L last (P ++ g) = thinF L last P ++ runT asc last g := by
  have e := run_keptGo hp hm hM hr hk hP hs g.length (Nat.le_refl _)
  rw [List.take_length] at e
  have ek : kept L (P ++ g) = kept L P ++ keepN asc g g.length := by unfold kept; rw [keptGo_app, List.nil_append, e]
  unfold thinF runT
  cases last with
  | false => exact ek
  | true =>
    rw [if_pos rfl, if_pos rfl, if_pos rfl, ek, stayGo_app, stayGo_one _ key (fun x hx => hk x (keepN_mem hx))]
    intro a ha b hb
    rw [hk b (keepN_mem hb)]
    exact hP a (keptGo_mem ha)
end Go.Proofs.Ytoljldokehfokaa

namespace Go.Proofs.Ytoljldokehfokaa
open Go.RowKit
set_option linter.unusedVariables false
set_option maxRecDepth 100000

abbrev MX : Nat := 18446744073709551615
theorem lowN_lt {asc : List Nat} (hp : asc.Pairwise (· ≤ ·)) {M x : Nat} (hM : M ∈ asc) (hx : x ≤ M) : lowN asc x < asc.length := by
  obtain ⟨iM, hiM⟩ := List.mem_iff_getElem?.1 hM
  have h1 := lowN_iff (x := x) asc hp iM M hiM
  have h3 := (List.getElem?_eq_some_iff.1 hiM).1
  have : ¬ iM < lowN asc x := fun q => by have := h1.2 q; omega
  omega
/-- what the variable of those that are left holds -/
structure LAt (w W : World) (g : Nat) (L : List En) (vl : Value) : Prop where
  box : W.heap[g]? = some (.cells #[vl] 22 (0, 0))
  row : W.ownsRow (g + 2) 31 4 vl L.length (ecs L)
  low : Below g w W
  hs : g + 2 ≤ W.heap.size
theorem LAt.below {w W W' : World} {g : Nat} {L : List En} {vl : Value} (h : LAt w W g L vl) (hb : Below W.heap.size W W') : LAt w W' g L vl := by
  have hs := h.hs
  exact ⟨(hb.block g (by omega)).trans h.box, own_below h.row hb, h.low.trans (hb.mono (by omega)), Nat.le_trans hs hb.size⟩
theorem LAt.other {w W W' : World} {g : Nat} {L : List En} {vl : Value} {row : Option Nat} (h : LAt w W g L vl) (hg : W.grownBy W' row) (hr : ∀ r, row = some r → g + 2 ≤ r ∧ ∃ o : Obj, W.heap[r]? = some o ∧ o.isCells = false) : LAt w W' g L vl := by
  have hs := h.hs
  refine ⟨(hg.block g (by omega) (fun e => by have := (hr g e.symm).1; omega)).trans h.box, ⟨h.row.1, ?_⟩, h.low.grown hg (by omega) (fun r e => by have := (hr r e).1; omega), Nat.le_trans hs hg.size⟩
  rcases h.row.2 with q | ⟨gg, cap, cur, hv, hgb, hh, r⟩
  · exact .inl q
  · refine .inr ⟨gg, cap, cur, hv, hgb, (hg.block gg (Array.getElem?_eq_some_iff.1 hh).1 (fun e => ?_)).trans hh, r⟩
    obtain ⟨o, ho, hc⟩ := (hr gg e.symm).2
    rw [hh] at ho
    injection ho with ho
    subst ho
    cases hc
theorem LAt.cells {w W : World} {g : Nat} {L : List En} {vl : Value} (h : LAt w W g L vl) : W.cell? ⟨g, 0, none⟩ = some vl ∧ W.frozen? ⟨g, 0, none⟩ = false := ⟨cell_of_row _ _ 0 _ _ (0, 0) h.box, by simp [World.frozen?, h.box]⟩
theorem LAt.app {w W : World} {g n c n1 c1 : Nat} {L T : List En} {A A1 : Option Addr} (h : LAt w W g L (.slice A n c)) (hn : L.length = n) (hT : Lies W W.heap.size 4 A1 n1 (ecs T)) (hl : n + n1 ≤ 1000000) :
    ∃ A2 c2 W2, (appM #[22, 22] 22 #[.slice A n c, .slice A1 n1 c1]).run Try.prog W = .ok (.slice A2 (n + n1) c2) W2 ∧
      (W2.cell? ⟨g, 0, none⟩ = some (.slice A n c) ∧ W2.frozen? ⟨g, 0, none⟩ = false) ∧ Hid (LAt w (W2.setCell ⟨g, 0, none⟩ (.slice A2 (n + n1) c2)) g (L ++ T) (.slice A2 (n + n1) c2) ∧ W.heap.size ≤ (W2.setCell ⟨g, 0, none⟩ (.slice A2 (n + n1) c2)).heap.size ∧
        ∀ (i : Nat) (o : Obj), W.heap[i]? = some o → (o.isCells = false ∨ i < g) → (W2.setCell ⟨g, 0, none⟩ (.slice A2 (n + n1) c2)).heap[i]? = some o) := by
  obtain ⟨i0, hi, hz0, hz1, hz2⟩ := info_parts entry_info
  subst hn
  have hs := h.hs
  have hTl := hT.elen
  obtain ⟨v1, W2, hrun, hown, hgr, _⟩ := run_app (P := Try.prog) W (g + 2) 22 22 31 i0 _ 4 48 Try.underlying22 hi hz0 hz1 hz2 rfl (by decide) (.slice A L.length c) L.length (ecs L) h.row W.heap.size A1 n1 c1 (ecs T) hT (ecs_one T) (by unfold maxLen; omega) (by omega) h.hs
  obtain ⟨A2, c2, rfl, _⟩ := own_shape hown
  have hgo : (Value.slice A L.length c).ownBlock ≠ some g := fun e => by have := (h.row.lt g e).1; omega
  have hbx : W2.heap[g]? = some (.cells #[.slice A L.length c] 22 (0, 0)) := (hgr.block g (by omega) (fun e => hgo e.symm)).trans h.box
  refine ⟨A2, c2, W2, hrun, ⟨cell_of_row _ _ 0 _ _ (0, 0) hbx, by simp [World.frozen?, hbx]⟩, ⟨⟨by simp [World.setCell, Array.getElem?_modify, hbx], ?_, ?_, ?_⟩, ?_, ?_⟩⟩
  · have e : ecs (L ++ T) = ecs L ++ ecs T := by unfold ecs; rw [List.flatMap_append]
    rw [List.length_append, hTl, e]
    exact ownsRow_setCell_below hown (by show g < g + 2; omega) _
  · exact (h.low.grown hgr (by omega) (fun r e => by have := (h.row.lt r e).1; omega)).setCell (Nat.le_refl _) _
  · have := hgr.size; simp; omega
  · have := hgr.size; simp; omega
  · intro i o ho hor
    have hil := (Array.getElem?_eq_some_iff.1 ho).1
    have hig : i ≠ g := by
      rintro rfl
      rcases hor with q | q
      · rw [h.box] at ho; injection ho with ho; subst ho; cases q
      · omega
    refine (Below.heap_setCell _ _ _ _ hig).trans ((hgr.block i hil (fun e => ?_)).trans ho)
    rcases hor with q | q
    · rcases h.row.2 with ⟨e2, _⟩ | ⟨gg, cap, cur, hv, hgb, hh, _⟩
      · rw [e2] at e; cases e
      · rw [hv] at e
        have e : i = gg := by simpa [Value.ownBlock] using e
        subst e
        rw [hh] at ho; injection ho with ho; subst ho; cases q
    · have := (h.row.lt i e.symm).1; omega

/-- what Thin answers -/
def ThinR (w : World) (S : List En) (looks : List Nat) (last : Bool) (e : Ending) (w' : World) : Prop :=
  Below w.heap.size w w' ∧ ((Rise S ∧ ∃ v, e = .returned (.tuple #[v, .int .i64 0]) ∧ w'.ownsRow w.heap.size 31 4 v (thinF (looks ++ [MX]) last S).length (ecs (thinF (looks ++ [MX]) last S))) ∨ (¬ Rise S ∧ e = .returned (.tuple #[.slice none 0 0, .int .i64 1])))
def ThinI (w5 : World) (g : Nat) (L : List Nat) (last : Bool) (pre : List Ls) (W : World) : Prop := ∃ vl, LAt w5 W g (thinF L last (flatL pre)) vl
theorem keptGo_len (L : List Nat) : ∀ (S P : List En), (keptGo L P S).length ≤ S.length
  | [], P => Nat.le_refl _
  | x :: t, P => by
    have := keptGo_len L t (P ++ [x])
    rw [keptGo, List.length_append, List.length_cons]
    split <;> simp <;> omega
theorem stayGo_len : ∀ (S : List En), (stayGo S).length ≤ S.length
  | [] => Nat.le_refl _
  | x :: t => by
    have := stayGo_len t
    rw [stayGo, List.length_append, List.length_cons]
    split <;> simp <;> omega
theorem thinF_len (L : List Nat) (last : Bool) (S : List En) : (thinF L last S).length ≤ S.length := by
  unfold thinF
  split
  · exact Nat.le_trans (stayGo_len _) (keptGo_len _ _ _)
  · exact keptGo_len _ _ _
theorem cutG_len (S : List En) : (cutG S).length ≤ S.length := by rw [← cutG_take, List.length_take]; omega
end Go.Proofs.Ytoljldokehfokaa

namespace Go.Proofs.Ytoljldokehfokaa
open Go.RowKit
set_option linter.unusedVariables false
set_option maxRecDepth 100000

section
attribute [local go_sem] Oper.semAt_some
attribute [local go_sem ↓ 100000] builtin_appM
set_option maxHeartbeats 8000000 in
theorem thin_any (B n c m c2 : Nat) (A A2 : Option Addr) (S : List En) (looks : List Nat) (last : Bool) (w : World) (hE : EL w B A n c S) (hn : n ≤ 300000) (hs : ∀ x ∈ S, x.m.s ≤ MX) (hL : Lies w w.heap.size 1 A2 m (looks.map uv)) (hm : m ≤ 12) (hlk : ∀ k ∈ looks, k ≤ MX) :
    Calls Try.prog 23 #[.slice A n c, .slice A2 m c2, .bool last] w (ThinR w S looks last) := by
  have hln := hE.lies.elen
  have hb0 := al_belowM w (.cells #[.bool last] 4)
  have hq0 : (w.alloc (.cells #[.bool last] 4)).heap[w.heap.size]? = some (.cells #[.bool last] 4 (0, 0)) := heap_alloc_new w _
  have hs0 : (w.alloc (.cells #[.bool last] 4)).heap.size = w.heap.size + 1 := by simp
  obtain ⟨w0, hw0⟩ : ∃ w0, w.alloc (.cells #[.bool last] 4) = w0 := ⟨_, rfl⟩
  have HW0 : Hid (w.alloc (.cells #[.bool last] 4) = w0) := hw0
  rw [hw0] at hb0 hq0 hs0
  have hE0 := hE.below hb0
  have HA := Lib.hid (asc_any hE0 (by omega))
  have HE0 := Lib.hid hE0; have HB0 := Lib.hid hb0; have HQ0 := Lib.hid hq0; have HLn := Lib.hid hln; have HL := Lib.hid hL; have HSm := Lib.hid hs
  have hBw := hE.B
  have HLk := Lib.hid hlk
  clear hlk
  refine (callsIn_wide (n := 6)).1 ?_
  refine callsIn_of_wp_marks Try.func23 rfl trivial ?_ rfl
  simp only [Try.ntmps23, List.size_toArray, List.length_cons, List.length_nil, Nat.reduceAdd, Nat.reduceSub, Array.replicate_succ, Array.replicate_zero, List.push_toArray, List.append_toArray, List.nil_append, List.cons_append]
  refine wpIn_wide.2 ?_
  clear hE hln hb0 hq0 hw0 hE0 hL hs
  by_cases hr : Rise S
  · have hd : decide (Rise S) = true := decide_eq_true hr
    rw [hd] at HA
    have HR := Lib.hid hr
    clear hd hr
    go_wp2_with fail
    rw [HW0.out]
    refine HA.out.mono ?_
    rintro e w1 ⟨rfl, hb1⟩
    have HB1 := Lib.hid hb1
    have hs1 := hb1.size
    clear hb1 HA
    go_wp2_with fail
    refine (values_any m c2 A2 _).mono ?_
    rintro e w' ⟨rfl, hw'⟩
    have hb2 : Below w1.heap.size w1 w' := by rw [hw']; exact al_belowM w1 _
    have hs2 : w'.heap.size = w1.heap.size + 1 := by rw [hw']; simp
    have hv2 : w'.cell? ⟨w1.heap.size, 0, none⟩ = some (.slice A2 m c2) := by rw [hw']; exact cell_of_row _ _ 0 _ _ (0, 0) (heap_alloc_new w1 _)
    clear hw'
    have hb02 : Below w.heap.size w w' := (HB0.out.trans (HB1.out.mono HB0.out.size)).trans (hb2.mono (by omega))
    have HS := Lib.hid (sorted_u64 w1.heap.size w.heap.size m c2 A2 looks w' (HL.out.below hb02) (by omega) hm hv2)
    have HB2 := Lib.hid hb2
    clear hb2 hv2 hb02
    go_wp2_with fail
    refine HS.out.mono ?_
    rintro e w3 ⟨A3, c3, l2, rfl, hp3, ho3p, ho3, hb3⟩
    have HB3 := Lib.hid hb3; have HO3 := Lib.hid ho3; have HP3 := Lib.hid (show _ ∧ _ from ⟨hp3, ho3p⟩)
    have hs3 := hb3.size
    obtain ⟨i0, hi, hz0, hz1, hz2⟩ := info_parts u64_info
    obtain ⟨v4, w4, hrun4, ho4, hg4, _⟩ := run_app (P := Try.prog) (w3.alloc (.cells #[.int .u64 18446744073709551615] 27)) w'.heap.size 58 58 27 i0 _ 1 8 Try.underlying58 hi hz0 hz1 hz2 rfl (by decide) (.slice A3 m c3) m (l2.map uv) (ho3.alloc _) (w3.heap.size + 1) (some ⟨w3.heap.size, 0, none⟩) 1 1 [.int .u64 18446744073709551615] (one_lies rfl _ _) (by intro u hu; simp at hu; subst hu; rfl) (by unfold maxLen; omega) (by omega) (by simp; omega)
    obtain ⟨A4, c4, rfl, _⟩ := own_shape ho4
    have hrun4' : (appM #[58, 58] 58 #[.slice A3 m c3, .slice (some ⟨w3.heap.size, 0, none⟩) 1 1]).run Try.prog (w3.alloc (.cells #[.int .u64 18446744073709551615] 27)) = .ok (.slice A4 (m + 1) c4) w4 := hrun4
    have hb4 : Below w'.heap.size w' w4 := (hb3.trans ((al_belowM w3 _).mono hs3)).grown hg4 (by simp; omega) (fun k hk => (ho3.lt k hk).1)
    have hl4 : Lies w4 w4.heap.size 1 A4 (m + 1) ((l2 ++ [MX]).map uv) := by
      have := Lies.of_own ho4
      rw [List.map_append]
      exact this
    have HL4 := Lib.hid hl4; have HB4 := Lib.hid hb4
    have hs4 := hb4.size
    clear hrun4 ho4 hg4 hp3 ho3p ho3 hb3 hb4 hl4 HS
    go_wp2_with fail
    refine (byKey_any n c A _).mono ?_
    rintro e wq ⟨rfl, rfl⟩
    obtain ⟨g0, hg0⟩ : ∃ g0, w4.heap.size = g0 := ⟨_, rfl⟩
    have x1 : (w4.alloc (.cells #[.slice A4 (m + 1) c4] 58)).heap[g0]? = some (.cells #[.slice A4 (m + 1) c4] 58 (0, 0)) := by rw [← hg0]; exact heap_alloc_new w4 _
    have s1 : (w4.alloc (.cells #[.slice A4 (m + 1) c4] 58)).heap.size = g0 + 1 := by simp [hg0]
    have b1 : Below g0 w4 (w4.alloc (.cells #[.slice A4 (m + 1) c4] 58)) := by rw [← hg0]; exact al_belowM w4 _
    rw [hg0]
    obtain ⟨W5, hW5⟩ : ∃ W5, w4.alloc (.cells #[.slice A4 (m + 1) c4] 58) = W5 := ⟨_, rfl⟩
    rw [hW5] at x1 s1 b1 ⊢
    have y1 : (W5.alloc (.cells #[.slice none 0 0] 22)).heap[g0 + 1]? = some (.cells #[.slice none 0 0] 22 (0, 0)) := by rw [← s1]; exact heap_alloc_new W5 _
    have s2 : (W5.alloc (.cells #[.slice none 0 0] 22)).heap.size = g0 + 2 := by simp [s1]
    have b2 : Below (g0 + 1) W5 (W5.alloc (.cells #[.slice none 0 0] 22)) := by rw [← s1]; exact al_belowM W5 _
    obtain ⟨W6, hW6⟩ : ∃ W6, W5.alloc (.cells #[.slice none 0 0] 22) = W6 := ⟨_, rfl⟩
    rw [hW6] at y1 s2 b2 ⊢
    have z1 : (W6.alloc (.cells #[.slice A n c] 22)).heap[g0 + 2]? = some (.cells #[.slice A n c] 22 (0, 0)) := by rw [← s2]; exact heap_alloc_new W6 _
    have s3 : (W6.alloc (.cells #[.slice A n c] 22)).heap.size = g0 + 3 := by simp [s2]
    have y2 : (W6.alloc (.cells #[.slice A n c] 22)).heap[g0 + 1]? = _ := (Below.heap_alloc _ _ _ (by omega)).trans y1
    have b3 := b2.alloc (by omega) (.cells #[.slice A n c] 22)
    rw [s2]
    obtain ⟨W0, hW0'⟩ : ∃ W0, W6.alloc (.cells #[.slice A n c] 22) = W0 := ⟨_, rfl⟩
    rw [hW0'] at z1 s3 y2 b3 ⊢
    clear hW5 hW6 hW0' y1 b2
    -- what stands
    have hbA : Below w.heap.size w w4 := ((HB0.out.trans (HB1.out.mono HB0.out.size)).trans (HB2.out.mono (by omega))).trans (HB4.out.mono (by omega))
    have hw4s := hbA.size
    have HBA := Lib.hid hbA
    have HB45 := Lib.hid b1
    have hBg : B ≤ g0 := by omega
    have HR0 : Hid (ThinI W5 (g0 + 1) (looks ++ [MX]) last [] W0) := ⟨.slice none 0 0, ⟨y2, by cases last <;> exact ⟨rfl, .inl ⟨rfl, rfl⟩⟩, b3, by omega⟩⟩
    have HZ1 := Lib.hid z1; have HB5 := Lib.hid b3
    have HE2 : Hid (EL W0 B A n c S) := el_keepM (HE0.out.below (HB1.out.trans ((HB2.out.mono (by omega)).trans (HB4.out.mono (by omega))))) (fun p hp => (b3.cell (by omega)).trans (b1.cell (by omega))) (by omega)
    have HAt : Hid (∀ W, Below (g0 + 1) W5 W → W.cell? ⟨g0, 0, none⟩ = some (.slice A4 (m + 1) c4) ∧ W.cell? ⟨w.heap.size, 0, none⟩ = some (.bool last) ∧ Lies W g0 1 A4 (m + 1) ((l2 ++ [MX]).map uv)) := fun W hb => by
      refine ⟨cell_of_row _ _ 0 _ _ (0, 0) ((hb.block g0 (by omega)).trans x1), cell_of_row W w.heap.size 0 #[.bool last] 4 (0, 0) ((hb.block w.heap.size (by omega)).trans ((b1.block w.heap.size (by omega)).trans ?_)), ?_⟩
      · have h1 := (HB1.out.block _ (Array.getElem?_eq_some_iff.1 HQ0.out).1).trans HQ0.out
        have h2 := (HB2.out.block _ (Array.getElem?_eq_some_iff.1 h1).1).trans h1
        exact (HB4.out.block _ (Array.getElem?_eq_some_iff.1 h2).1).trans h2
      · have h1 := HL4.out
        rw [hg0] at h1
        exact h1.keep fun p hp => (hb.cell (by omega)).trans (b1.cell hp)
    have hpa : (l2 ++ [MX]).Pairwise (· ≤ ·) := List.pairwise_append.2 ⟨HP3.out.2, List.pairwise_singleton _ _, fun a ha b hb => by
      obtain rfl := List.mem_singleton.1 hb
      exact HLk.out a (HP3.out.1.mem_iff.1 ha)⟩
    have hma : ∀ s, s ∈ l2 ++ [MX] ↔ s ∈ looks ++ [MX] := fun s => by rw [List.mem_append, List.mem_append, HP3.out.1.mem_iff]
    have HPa := Lib.hid hpa; have HMa := Lib.hid hma
    clear z1 y2 b3 b1 x1 hbA hpa hma
    go_wp2_with fail
    refine (wpIn_wide (n := 6)).1 ?_
    refine range_next (m := 5) (α := Ls) (gf := 32) (lb := #[.pointer (some ⟨g0 + 2, 0, none⟩)]) (encs := fun x => #[x.v]) (Kp := KpM (fun i => i < B))
      (G := fun pre x => GrpG S W0 B pre x) (S := fun xs => flatL xs = S)
      rfl (enters_of Try.func32 (by kernel_rfl) rfl) (fun _ => rfl) (fun h k => KpM.trans h k) (kpM_b (fun i hi => by omega))
      (fun l J W hW hJ hY h0 => bky1_any 5 l (g0 + 2) B n c A S HR.out (by omega) J W hJ (HE2.out.below hW) (fun pre x W1 hj hG => hY pre x W1 hj (hG.back (by omega) fun p hp => hW.cell (by omega))) ((hW.cell (p := ⟨g0 + 2, 0, none⟩) (by show g0 + 2 < _; omega)).trans (cell_of_row _ _ 0 _ _ (0, 0) HZ1.out)) h0)
      (ThinI W5 (g0 + 1) (looks ++ [MX]) last)
      (fun pre X Y row hI hg2 hr => by
        obtain ⟨vl, h1⟩ := hI
        exact ⟨vl, h1.other hg2 (fun r e => by obtain ⟨q1, q2⟩ := hr r e; exact ⟨by omega, q2⟩)⟩)
      HR0.out
      (fun x a' W => a' = { tmps := #[.slice A n c, .slice A2 m c2, .bool last, undef, undef, .pointer (some ⟨w.heap.size, 0, none⟩), .slice none 0 0, .int .i64 0, .pointer (some ⟨g0, 0, none⟩), .pointer (some ⟨g0 + 1, 0, none⟩), x.v, undef, .slice A n c, .bool true, .bool false, .slice A2 m c2, .func (.func 46) #[] #[.pointer (some ⟨w1.heap.size, 0, none⟩)], .slice A3 m c3, .slice (some ⟨w3.heap.size, 0, none⟩) 1 1, .slice A4 (m + 1) c4, .slice A n c, .func (.func 32) #[] #[.pointer (some ⟨g0 + 2, 0, none⟩)], x.v, undef, undef, undef, undef, undef, undef, undef, undef, undef, undef], defers := [] })
      (fun x a' _ X Y row hI hg2 hr => hI)
      ?assign ?body ?done
    case assign =>
      rintro l pre x W K hI hK
      gi_wp2
      exact hK _ _ (KeepsFrom.refl _ _) (KpM.below (Below.refl _ _)) hI rfl
    case body =>
      rintro l pre x a' W ⟨vl, hRA⟩ rfl hG
      have hlo := hRA.low
      have hhs := hRA.hs
      obtain ⟨hca, hcl, hla⟩ := HAt.out W hlo
      have hel : EL W B x.A x.n x.c x.l := el_keepM hG.el (fun p hp => (hlo.cell (by omega)).trans (HB5.out.cell (by omega)).symm) (by omega)
      have hxS : ∀ y ∈ x.l, y ∈ S := fun y hy => by
        obtain ⟨R, hR⟩ := hG.more
        rw [hR]; exact List.mem_append_left _ (List.mem_append_right _ hy)
      have hxr : Rise x.l := by
        obtain ⟨R, hR⟩ := hG.more
        have h9 := HR.out
        rw [hR] at h9
        exact (List.pairwise_append.1 (List.pairwise_append.1 h9).1).2.1
      have hrun : thinF (looks ++ [MX]) last (flatL (pre ++ [x])) = thinF (looks ++ [MX]) last (flatL pre) ++ runT (l2 ++ [MX]) last x.l := by
        obtain ⟨y, t, h1, h2⟩ := hG.one
        rw [flatL_snoc]
        exact thinF_run HPa.out HMa.out (M := MX) (List.mem_append_right _ (List.mem_singleton.2 rfl)) last hxr h2 (fun a ha => hG.ne a ha y (by rw [h1]; exact List.mem_cons_self ..)) (fun y hy => HSm.out y (hxS y hy))
      have hlen : (flatL pre).length + x.l.length ≤ n := by
        obtain ⟨R, hR⟩ := hG.more
        have := congrArg List.length hR
        rw [List.length_append, List.length_append, HLn.out] at this; omega
      have hxl := hel.lies.elen
      have hV := Lib.hid (visAny_any (c2 := c4) hel (by omega) hla (by omega) HPa.out (by omega) (fun y hy => by
        have := lowN_lt HPa.out (M := MX) (List.mem_append_right _ (List.mem_singleton.2 rfl)) (HSm.out y (hxS y hy))
        have h9 := hla.ulen
        omega))
      have hkl := keepN_len (l2 ++ [MX]) x.l x.l.length
      have htl := thinF_len (looks ++ [MX]) last (flatL pre)
      have HRA := Lib.hid hRA; have HRun := Lib.hid hrun
      obtain ⟨L, hL⟩ : ∃ L, thinF (looks ++ [MX]) last (flatL pre) = L := ⟨_, rfl⟩
      rw [hL] at HRA HRun htl
      obtain ⟨T, hT⟩ : ∃ T, keepN (l2 ++ [MX]) x.l x.l.length = T := ⟨_, rfl⟩
      unfold VaA at hV
      rw [hT] at hV hkl
      have HTd : Hid (runT (l2 ++ [MX]) last x.l = if last then cutG T else T) := by unfold Hid runT; rw [hT]
      have hTs : ∀ y ∈ T, y.m.k.size ≤ 140737488351232 ∧ y.x.size ≤ 140737488351232 := fun y hy => by rw [← hT] at hy; exact hel.sz y (keepN_mem hy)
      clear hRA hlo hG hel hxS hxr hrun hxl hla hL hT
      obtain ⟨xA, xn, xc, xl⟩ := x
      unfold Ls.v
      dsimp only at hV HRun hlen hkl HTd
      gi_wp2_with fail
      refine ⟨trivial, (CallsIn.inRound l (callsIn_wide.2 hV.out)).mono ?_⟩
      rintro e W2 ⟨v2, rfl, ho2, hb2⟩
      obtain ⟨Av, cv, hv2, h1c, h2c, _⟩ := own_shape ho2
      subst hv2
      have hR2 := HRA.out.below hb2
      obtain ⟨Al, cl, hvl, _⟩ := own_shape hR2.row
      subst hvl
      obtain ⟨nl, hnl⟩ : ∃ nl, L.length = nl := ⟨_, rfl⟩
      obtain ⟨nt, hnt⟩ : ∃ nt, T.length = nt := ⟨_, rfl⟩
      rw [hnl] at hR2 htl
      rw [hnt] at ho2 hkl h1c
      have hlT := Lies.of_own ho2
      have hcl2 : W2.cell? ⟨w.heap.size, 0, none⟩ = some (.bool last) := (hb2.cell (p := ⟨w.heap.size, 0, none⟩) (by show w.heap.size < _; omega)).trans hcl
      have HBW2 := Lib.hid hb2
      cases last with
      | false =>
        obtain ⟨A9, c9, W9, run9, ⟨e9, f9⟩, HP⟩ := hR2.app (c1 := cv) hnl hlT (by omega)
        have HBW := HBW2
        obtain ⟨z0, z1⟩ := hR2.cells
        have HF : Hid (KeepsFrom W0.heap.size W (W9.setCell ⟨g0 + 1, 0, none⟩ (.slice A9 (nl + nt) c9)) ∧ KpM (fun i => i < B) W (W9.setCell ⟨g0 + 1, 0, none⟩ (.slice A9 (nl + nt) c9)) ∧ ThinI W5 (g0 + 1) (looks ++ [MX]) false (pre ++ [⟨xA, xn, xc, xl⟩]) (W9.setCell ⟨g0 + 1, 0, none⟩ (.slice A9 (nl + nt) c9))) := by
          obtain ⟨h1, h2, h3⟩ := HP.out
          refine ⟨⟨Nat.le_trans HBW.out.size h2, fun i o hi ho hoc => h3 i o ((HBW.out.block i (Array.getElem?_eq_some_iff.1 ho).1).trans ho) (.inl hoc)⟩, ⟨Nat.le_trans HBW.out.size h2, fun i hi hl => ?_⟩, _, by rw [HRun.out, HTd.out]; exact h1⟩
          rw [h3 i _ ((HBW.out.block i hl).trans (Array.getElem?_eq_getElem hl)) (.inr (by omega)), Array.getElem?_eq_getElem hl]
        rw [hnt]
        clear hR2 hlT ho2 hb2 HP HRA HRun HTd hV HBW HBW2 hTs hnl hnt
        gi_wp2
        exact HF.out
      | true =>
        have hEv : EL W2 W2.heap.size Av nt cv T := ⟨hlT, Nat.le_refl _, h1c, h2c, hTs⟩
        have HWo := Lib.hid (without_any hEv (by omega))
        have hcg := cutG_len T
        have hlC : Lies W2 W2.heap.size 4 Av (cutG T).length (ecs (cutG T)) := by
          have h9 := hlT.takeE (m := (cutG T).length) (by omega)
          rw [ecs_take, cutG_take] at h9
          exact h9
        obtain ⟨ng, hng⟩ : ∃ ng, (cutG T).length = ng := ⟨_, rfl⟩
        rw [hng] at HWo hlC hcg
        have HR2 := Lib.hid hR2; have HLC := Lib.hid hlC
        rw [hnt]
        clear hR2 hlC hlT ho2 hb2 hEv HRA hV
        gi_wp2_with fail
        refine ⟨trivial, (CallsIn.inRound l (callsIn_wide.2 HWo.out)).mono ?_⟩
        rintro e W3 ⟨rfl, hb3⟩
        have hR3 := HR2.out.below hb3
        obtain ⟨A9, c9, W9, run9, ⟨e9, f9⟩, HP⟩ := hR3.app (c1 := cv) hnl ((HLC.out.below hb3).more hb3.size) (by omega)
        have HBW := Lib.hid (HBW2.out.trans (hb3.mono HBW2.out.size))
        obtain ⟨z0, z1⟩ := hR3.cells
        have HF : Hid (KeepsFrom W0.heap.size W (W9.setCell ⟨g0 + 1, 0, none⟩ (.slice A9 (nl + ng) c9)) ∧ KpM (fun i => i < B) W (W9.setCell ⟨g0 + 1, 0, none⟩ (.slice A9 (nl + ng) c9)) ∧ ThinI W5 (g0 + 1) (looks ++ [MX]) true (pre ++ [⟨xA, xn, xc, xl⟩]) (W9.setCell ⟨g0 + 1, 0, none⟩ (.slice A9 (nl + ng) c9))) := by
          obtain ⟨h1, h2, h3⟩ := HP.out
          refine ⟨⟨Nat.le_trans HBW.out.size h2, fun i o hi ho hoc => h3 i o ((HBW.out.block i (Array.getElem?_eq_some_iff.1 ho).1).trans ho) (.inl hoc)⟩, ⟨Nat.le_trans HBW.out.size h2, fun i hi hl => ?_⟩, _, by rw [HRun.out, HTd.out]; exact h1⟩
          rw [h3 i _ ((HBW.out.block i hl).trans (Array.getElem?_eq_getElem hl)) (.inr (by omega)), Array.getElem?_eq_getElem hl]
        clear hR3 hb3 HP HRun HTd HBW HBW2 hTs hnl hnt HR2 HLC HWo hng
        gi_wp2
        exact HF.out
    case done =>
      rintro D xs W hD hS ⟨vl, hRA⟩ hK
      have hg3 := grownBy_putObj' W D (.deferred none)
      have hcb := hRA.cells.1
      have hR2 := hRA.other hg3 (fun r e => by injection e with e; subst e; exact ⟨by omega, _, hK, rfl⟩)
      rw [hS] at hR2
      have HF : Hid (ThinR w S looks last (.returned (.tuple #[vl, .int .i64 0])) (W.putObj D (.deferred none))) := by
        refine ⟨?_, .inl ⟨HR.out, vl, rfl, own_base hR2.row (by omega)⟩⟩
        exact (HBA.out.trans (HB45.out.mono (by omega))).trans (hR2.low.mono (by omega))
      have HK := Lib.hid hK
      clear hRA hR2 hK hg3 hS
      go_wp2
      refine ⟨by simp, .inl ⟨_, _, rfl, run_takeDeferred HK.out, ?_⟩⟩
      refine ⟨_, results_tmp2 rfl _ _ _, ?_⟩
      exact HF.out
  · have hd : decide (Rise S) = false := decide_eq_false hr
    rw [hd] at HA
    have HR := Lib.hid hr
    clear hd hr
    go_wp2_with fail
    rw [HW0.out]
    refine HA.out.mono ?_
    rintro e w1 ⟨rfl, hb1⟩
    have HF : Hid (ThinR w S looks last (.returned (.tuple #[.slice none 0 0, .int .i64 1])) w1) := ⟨HB0.out.trans (hb1.mono HB0.out.size), .inr ⟨HR.out, rfl⟩⟩
    clear hb1 HA
    go_wp2
    refine ⟨_, results_tmp2 rfl _ _ _, ?_⟩
    exact HF.out
end
end Go.Proofs.Ytoljldokehfokaa

