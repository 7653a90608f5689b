/-
  Package edits: a set's add and remove.
-/
import Derived.Test.YtnnocjnmfabnaaaEdB
import Derived.Test.YtnnocjnmfabnaaaKpX
namespace Go.Proofs.Ytnnocjnmfabnaaa
open Go.RowKit
set_option linter.unusedVariables false
set_option maxRecDepth 100000

section
variable {w w' : World} {g N n k : Nat} {A : Option Addr} {m : List Fi} {xs : List Value}
/-- a list beside a map that changes -/
theorem Lies.off (h : Lies w w.heap.size k A n xs) (hg : w.grownBy w' (some g)) (hm : FMap w g N m) : Lies w' w'.heap.size k A n xs := by
  obtain ⟨D, ⟨es, clock, hb, _⟩, _⟩ := hm
  refine ⟨h.1, fun j hj => ?_⟩
  obtain ⟨ad, u, e, hB, hx, hc⟩ := h.2 j hj
  refine ⟨ad, u, e, Nat.lt_of_lt_of_le hB hg.size, hx, ?_⟩
  have hlt := World.block_lt_of_cell? w _ hc
  rw [← hc]
  unfold World.cell?
  rw [hg.block _ hlt (fun e2 => ?_)]
  have e3 : (ad.add j).block = g := by simpa using e2
  unfold World.cell? at hc
  rw [e3, hb] at hc
  cases hc
theorem gro_alloc (w : World) (o : Obj) (row : Option Nat) : w.grownBy (w.alloc o) row := World.grownBy_alloc w o row
theorem gro_trans {a b c : World} {row : Option Nat} (h : a.grownBy b row) (k : b.grownBy c row) : a.grownBy c row :=
  ⟨k.os.trans h.os, k.tape.trans h.tape, k.output.trans h.output, Nat.le_trans h.size k.size, fun i hi hne => (k.block i (Nat.lt_of_lt_of_le hi h.size) hne).trans (h.block i hi hne)⟩
end

theorem own_cell {w : World} {base e k n : Nat} {v : Value} {xs : List Value} (h : w.ownsRow base e k v n xs) {i : Nat} (hi : v.ownBlock = some i) : base ≤ i ∧ ∃ cur, w.heap[i]? = some (.cells cur e (0, 0)) := by
  rcases h.2 with ⟨rfl, _⟩ | ⟨g, cap, cur, rfl, hb, hh, _⟩
  · cases hi
  · have e : g = i := by simpa [Value.ownBlock] using hi
    subst e
    exact ⟨hb, cur, hh⟩

/-- what add makes of the set -/
def SAdd (w : World) (g N n : Nat) (m l : List Fi) (e : Ending) (w' : World) : Prop :=
  w.grownBy w' (some g) ∧ ((AddOk m l ∧ e = .returned (.bool true) ∧ FMap w' g (N + n) (m ++ l)) ∨ (¬ AddOk m l ∧ e = .returned (.bool false)))
def AddR (w : World) (g N n : Nat) (m l : List Fi) (i : Value) (wr : World) : Prop :=
  ∃ k : Nat, k ≤ n ∧ i = .int .i64 (k : Int) ∧ FMap wr g (N + k) (m ++ l.take k) ∧ AddOk m (l.take k) ∧ w.grownBy wr (some g)

set_option maxHeartbeats 8000000 in
theorem add_any (g N n c : Nat) (A : Option Addr) (m l : List Fi) (w : World) (hm : FMap w g N m) (hl : Lies w w.heap.size 4 A n (fcs l)) (hs : ∀ f ∈ l, szFi f) (hN : N ≤ 100000) (hn : n ≤ 100000) :
    Calls Try.prog 14 #[.map (some g), .slice A n c] w (SAdd w g N n m l) := by
  have hln := hl.flen
  have HM := Lib.hid hm; have HL := Lib.hid hl; have HS := Lib.hid hs; have HLn := Lib.hid hln
  have hnd : (nms m).Nodup := by obtain ⟨D, _, h⟩ := hm; exact h.nd
  have HR : Hid (AddR w g N n m l (.int .i64 0) w) := ⟨0, Nat.zero_le _, rfl, by rw [List.take_zero, List.append_nil, Nat.add_zero]; exact hm, by rw [List.take_zero]; exact AddOk.nil hnd, World.grownBy.refl w _⟩
  clear hm hl hs hln hnd
  go_enter Try.func14, Try.ntmps14
  go_wp2
  go_loopw [11] (fun i wr => AddR w g N n m l i wr) (fun i _ => n - (intOf i).toNat)
  case atStart => exact HR.out
  case round =>
    clear HR
    obtain ⟨k, hk, rfl, hM, hAd, hg⟩ := hrel
    by_cases hlt : k < n
    · obtain ⟨fb, fo, f, rfl, hfb, hf, c0, c1, c2, c3⟩ := (HL.out.off hg HM.out).file hlt
      have hsf := HS.out f (List.mem_of_getElem? hf)
      have hi0 : (0 : Int) ≤ (k : Int) := by omega
      have hi1 : (k : Int) < (n : Int) := by omega
      have hit : ((k : Int)).toNat = k := by simp
      have x1 := FiAt.new wr f
      have hM1 := hM.kept (gro_alloc wr (.cells #[.int .u32 (f.num : Int), .int .i64 f.lv, .string f.a, .string f.z] 37) none) (by simp)
      have g1 := gro_trans hg (gro_alloc wr (.cells #[.int .u32 (f.num : Int), .int .i64 f.lv, .string f.a, .string f.z] 37) (some g))
      have HF := Lib.hid hf; have HSf := Lib.hid hsf; have HAd := Lib.hid hAd
      obtain ⟨B6, hB6⟩ : ∃ B, wr.heap.size = B := ⟨_, rfl⟩
      rw [hB6] at x1
      obtain ⟨W1, hW1⟩ : ∃ W1, wr.alloc (.cells #[.int .u32 (f.num : Int), .int .i64 f.lv, .string f.a, .string f.z] 37) = W1 := ⟨_, rfl⟩
      rw [show fiW wr f = W1 from hW1] at x1
      rw [hW1] at hM1 g1
      obtain ⟨f0, hlook⟩ := hM1.look hsf.1
      have x2 := x1.below (fiW_below W1 f0) x1.lt
      have hM2 := hM1.kept (gro_alloc W1 (.cells #[.int .u32 (f0.num : Int), .int .i64 f0.lv, .string f0.a, .string f0.z] 37) none) (by simp)
      have g2 := gro_trans g1 (gro_alloc W1 (.cells #[.int .u32 (f0.num : Int), .int .i64 f0.lv, .string f0.a, .string f0.z] 37) (some g))
      obtain ⟨W2, hW2⟩ : ∃ W2, W1.alloc (.cells #[.int .u32 (f0.num : Int), .int .i64 f0.lv, .string f0.a, .string f0.z] 37) = W2 := ⟨_, rfl⟩
      rw [show fiW W1 f0 = W2 from hW2] at x2
      rw [hW2] at hM2 g2
      obtain ⟨p0, p1, p2, p3⟩ := x1.cells
      obtain ⟨q0, q1, q2, q3⟩ := x2.cells
      have HX2 := Lib.hid x2; have HM2 := Lib.hid hM2; have HG2 := Lib.hid g2
      obtain ⟨b, hb⟩ : ∃ b, hasN (m ++ l.take k) f.num = b := ⟨_, rfl⟩
      rw [hb] at hlook
      have HB := Lib.hid hb
      clear hM hAd hg hf hsf x1 x2 hM1 hM2 g1 g2 hb
      cases b with
      | true =>
        have HF : Hid (SAdd w g N n m l (.returned (.bool false)) W2) := ⟨HG2.out, .inr ⟨(fun h => by have := (h.at_ HF.out).1; rw [HB.out] at this; cases this), rfl⟩⟩
        go_wp2
        go_ret
        exact HF.out
      | false =>
        have HV := Lib.hid (isValid_any f W2 HSf.out)
        obtain ⟨v, hv⟩ : ∃ v, okFi f = v := ⟨_, rfl⟩
        rw [hv] at HV
        have HVv := Lib.hid hv
        clear hv
        go_wp2_with fail
        with_reducible refine Calls.mono HV.out ?_
        rintro e w3 ⟨rfl, hw3⟩
        have x3 : FiAt w3 B6 f := by rw [hw3]; exact HX2.out.below (fiW_below W2 f) HX2.out.lt
        have hM3 : FMap w3 g (N + k) (m ++ l.take k) := by rw [hw3]; exact HM2.out.kept (gro_alloc W2 _ none) (by simp)
        have g3 : w.grownBy w3 (some g) := by rw [hw3]; exact gro_trans HG2.out (gro_alloc W2 _ (some g))
        clear hw3 HV q0 q1 q2 q3 p0 p1 p2 p3 hlook hW1 hW2
        cases v with
        | false =>
          have HF : Hid (SAdd w g N n m l (.returned (.bool false)) w3) := ⟨g3, .inr ⟨(fun h => by have := (h.at_ HF.out).2; rw [HVv.out] at this; cases this), rfl⟩⟩
          clear x3 hM3 g3
          go_wp2
          go_ret
          exact HF.out
        | true =>
          obtain ⟨r0, r1, r2, r3⟩ := x3.cells
          obtain ⟨W4, hput, hM4, hg4⟩ := hM3.put (by unfold maxLen; omega) HSf.out.1 HB.out
          have HFin : Hid (AddR w g N n m l (.int .i64 ((k + 1 : Nat) : Int)) W4) := ⟨k + 1, hlt, rfl, by
            rw [List.take_add_one, HF.out]
            rw [List.append_assoc] at hM4
            exact hM4, (addOk_take HF.out HAd.out).2 ⟨HB.out, HVv.out⟩, gro_trans g3 hg4⟩
          clear x3 hM3 g3 hM4 hg4
          go_wp2
          go_roundw
          case rel => exact HFin.out
          case measure => simp [intOf]; omega
    · have hnl : ¬ ((k : Int) < (n : Int)) := by omega
      have HFin : Hid (SAdd w g N n m l (.returned (.bool true)) wr) := by
        have e : k = n := by omega
        subst e
        rw [List.take_of_length_le (by rw [HLn.out]; exact Nat.le_refl _)] at hM hAd
        exact ⟨hg, .inl ⟨hAd, rfl, hM⟩⟩
      clear hM hAd hg
      go_wp2
      go_ret
      exact HFin.out

/-- numbers as values -/
def kvs (r : List Nat) : List Value := r.map fun (k : Nat) => Value.int .u32 (k : Int)
theorem kvs_one (r : List Nat) : ∀ u ∈ kvs r, u.oneCell' = true := by
  intro u hu
  obtain ⟨c, _, rfl⟩ := List.mem_map.1 hu
  rfl
theorem Lies.klen {w : World} {B n : Nat} {A : Option Addr} {r : List Nat} (h : Lies w B 1 A n (kvs r)) : r.length = n := by have := h.len; unfold kvs at this; simpa using this
theorem Lies.num {w : World} {B n k : Nat} {A : Option Addr} {r : List Nat} (h : Lies w B 1 A n (kvs r)) (hk : k < n) : ∃ b o x, A = some ⟨b, o, none⟩ ∧ b < B ∧ r[k]? = some x ∧ w.cell? ⟨b, o + k, none⟩ = some (.int .u32 (x : Int)) := by
  obtain ⟨b, o, u, e, hb, hu, hc⟩ := h.at_ hk
  unfold kvs at hu
  rw [List.getElem?_map] at hu
  cases hx : r[k]? with
  | none => rw [hx] at hu; cases hu
  | some x =>
    rw [hx] at hu
    injection hu with hu
    subst hu
    exact ⟨b, o, x, e, hb, rfl, hc⟩
/-- what remove makes of the set -/
def SRem (w : World) (g N : Nat) (m : List Fi) (r : List Nat) (e : Ending) (w' : World) : Prop :=
  w.grownBy w' (some g) ∧ ((RemOk m r ∧ e = .returned (.bool true) ∧ FMap w' g N (left m r)) ∨ (¬ RemOk m r ∧ e = .returned (.bool false)))
def RemR (w : World) (g N n : Nat) (m : List Fi) (r : List Nat) (i : Value) (wr : World) : Prop :=
  ∃ k : Nat, k ≤ n ∧ i = .int .i64 (k : Int) ∧ FMap wr g N (left m (r.take k)) ∧ RemOk m (r.take k) ∧ w.grownBy wr (some g)

set_option maxHeartbeats 8000000 in
theorem remove_any (g N n c : Nat) (A : Option Addr) (m : List Fi) (r : List Nat) (w : World) (hm : FMap w g N m) (hl : Lies w w.heap.size 1 A n (kvs r)) (hs : ∀ k ∈ r, k < 4294967296) (hn : n ≤ 100000) :
    Calls Try.prog 15 #[.map (some g), .slice A n c] w (SRem w g N m r) := by
  have hln := hl.klen
  have HM := Lib.hid hm; have HL := Lib.hid hl; have HS := Lib.hid hs; have HLn := Lib.hid hln
  have HR : Hid (RemR w g N n m r (.int .i64 0) w) := ⟨0, Nat.zero_le _, rfl, by rw [List.take_zero, left_nil]; exact hm, by rw [List.take_zero]; exact RemOk.nil m, World.grownBy.refl w _⟩
  clear hm hl hs hln
  go_enter Try.func15, Try.ntmps15
  go_wp2
  go_loopw [11] (fun i wr => RemR w g N n m r i wr) (fun i _ => n - (intOf i).toNat)
  case atStart => exact HR.out
  case round =>
    clear HR
    obtain ⟨k, hk, rfl, hM, hAd, hg⟩ := hrel
    by_cases hlt : k < n
    · obtain ⟨fb, fo, x, rfl, hfb, hx, c0⟩ := (HL.out.off hg HM.out).num hlt
      have hx32 := HS.out x (List.mem_of_getElem? hx)
      have hi0 : (0 : Int) ≤ (k : Int) := by omega
      have hi1 : (k : Int) < (n : Int) := by omega
      have hit : ((k : Int)).toNat = k := by simp
      obtain ⟨f0, hlook⟩ := hM.look hx32
      have hM2 := hM.kept (gro_alloc wr (.cells #[.int .u32 (f0.num : Int), .int .i64 f0.lv, .string f0.a, .string f0.z] 37) none) (by simp)
      have g2 := gro_trans hg (gro_alloc wr (.cells #[.int .u32 (f0.num : Int), .int .i64 f0.lv, .string f0.a, .string f0.z] 37) (some g))
      have HF := Lib.hid hx; have HAd := Lib.hid hAd; have HX := Lib.hid hx32
      obtain ⟨W2, hW2⟩ : ∃ W2, wr.alloc (.cells #[.int .u32 (f0.num : Int), .int .i64 f0.lv, .string f0.a, .string f0.z] 37) = W2 := ⟨_, rfl⟩
      rw [hW2] at hM2 g2
      have HG2 := Lib.hid g2
      obtain ⟨b, hb⟩ : ∃ b, hasN (left m (r.take k)) x = b := ⟨_, rfl⟩
      rw [hb] at hlook
      have HB := Lib.hid hb
      obtain ⟨D, hD, hRep⟩ := hM2
      have HD := Lib.hid hD; have HRep := Lib.hid hRep
      clear hM hAd hg hx g2 hb hD hRep
      cases b with
      | false =>
        have HFin : Hid (SRem w g N m r (.returned (.bool false)) W2) := ⟨HG2.out, .inr ⟨(fun h => by have := h.at_ HF.out; rw [HB.out] at this; cases this), rfl⟩⟩
        go_wp2
        go_ret
        exact HFin.out
      | true =>
        go_wp2_with (at_delete; refine wpList_delete_own _ rfl _ _ 47 24 rfl 37 keyF Try.underlying47 fE g N D rfl HD.out _ _ rfl (keyOf_f HX.out) ?_)
        intro w4 ho4 ht4
        have HFin : Hid (RemR w g N n m r (.int .i64 ((k + 1 : Nat) : Int)) w4) := ⟨k + 1, hlt, rfl, ⟨_, ho4, by
          have := HRep.out.del x
          rw [left_snoc] at this
          rw [List.take_add_one, HF.out]
          exact this⟩, (remOk_take HF.out HAd.out).2 HB.out, gro_trans HG2.out ht4.grown⟩
        clear ho4 ht4
        go_wp2
        go_roundw
        case rel => exact HFin.out
        case measure => simp [intOf]; omega
    · have hnl : ¬ ((k : Int) < (n : Int)) := by omega
      have HFin : Hid (SRem w g N m r (.returned (.bool true)) wr) := by
        have e : k = n := by omega
        subst e
        rw [List.take_of_length_le (by rw [HLn.out]; exact Nat.le_refl _)] at hM hAd
        exact ⟨hg, .inl ⟨hAd, rfl, hM⟩⟩
      clear hM hAd hg
      go_wp2
      go_ret
      exact HFin.out
end Go.Proofs.Ytnnocjnmfabnaaa
