/-
  Files in memory; package edits: isValid; how files are compared.
-/
import Derived.Test.YtnnocjnmfabnaaaEdM
import Derived.Test.YtnnocjnmfabnaaaPlTx
import Derived.KernelRfl
namespace Go.Proofs.Ytnnocjnmfabnaaa
open Go.RowKit
set_option linter.unusedVariables false
set_option maxRecDepth 100000

theorem file_info : (Try.prog.info? 37).map (fun i => (i.zero, i.size, i.bytes)) = some (some (.agg #[.int .u32 0, .int .i64 0, .string ByteArray.empty, .string ByteArray.empty]), 4, 48) := by kernel_rfl
theorem fcs_len (l : List Fi) : (fcs l).length = l.length * 4 := flat_len Fi.cs 4 (fun _ => rfl) l
theorem fcs_app (l m : List Fi) : fcs (l ++ m) = fcs l ++ fcs m := by unfold fcs; simp
theorem fcs_one (l : List Fi) : ∀ u ∈ fcs l, u.oneCell' = true := by
  intro u hu
  obtain ⟨m, _, hm⟩ := List.mem_flatMap.1 hu
  simp only [Fi.cs, List.mem_cons, List.not_mem_nil, or_false] at hm
  rcases hm with rfl | rfl | rfl | rfl <;> rfl
/-- the world behind a file's box -/
abbrev fiW (w : World) (x : Fi) : World := w.alloc (.cells #[.int .u32 (x.num : Int), .int .i64 x.lv, .string x.a, .string x.z] 37)
/-- a file, in its block -/
def FiAt (w : World) (g : Nat) (x : Fi) : Prop := w.heap[g]? = some (.cells #[.int .u32 (x.num : Int), .int .i64 x.lv, .string x.a, .string x.z] 37 (0, 0))
theorem FiAt.new (w : World) (x : Fi) : FiAt (fiW w x) w.heap.size x := heap_alloc_new w _
theorem FiAt.lt {w : World} {g : Nat} {x : Fi} (h : FiAt w g x) : g < w.heap.size := (Array.getElem?_eq_some_iff.1 h).1
theorem FiAt.cells {w : World} {g : Nat} {x : Fi} (h : FiAt w g x) : w.cell? ⟨g, 0, none⟩ = some (.int .u32 (x.num : Int)) ∧ w.cell? ⟨g, 1, none⟩ = some (.int .i64 x.lv) ∧ w.cell? ⟨g, 2, none⟩ = some (.string x.a) ∧ w.cell? ⟨g, 3, none⟩ = some (.string x.z) :=
  ⟨cell_of_row _ _ 0 _ _ (0, 0) h, cell_of_row _ _ 1 _ _ (0, 0) h, cell_of_row _ _ 2 _ _ (0, 0) h, cell_of_row _ _ 3 _ _ (0, 0) h⟩
theorem FiAt.thawed {w : World} {g : Nat} {x : Fi} (h : FiAt w g x) (j : Nat) : w.frozen? ⟨g, j, none⟩ = false := by
  unfold FiAt at h
  simp [World.frozen?, h]
theorem FiAt.below {w w' : World} {g B : Nat} {x : Fi} (h : FiAt w g x) (hb : Below B w w') (hg : g < B) : FiAt w' g x := (hb.block g hg).trans h
theorem fiW_below (w : World) (x : Fi) : Below w.heap.size w (fiW w x) := (Below.refl _ _).alloc (Nat.le_refl _) _
theorem fiW_size (w : World) (x : Fi) : (fiW w x).heap.size = w.heap.size + 1 := by simp
theorem fi_lies (w : World) (x : Fi) : Lies (fiW w x) (w.heap.size + 1) 4 (some ⟨w.heap.size, 0, none⟩) 1 (fcs [x]) := by
  have h : (fiW w x).heap[w.heap.size]? = some (.cells #[.int .u32 (x.num : Int), .int .i64 x.lv, .string x.a, .string x.z] 37 (0, 0)) := heap_alloc_new w _
  have e : fcs [x] = [.int .u32 (x.num : Int), .int .i64 x.lv, .string x.a, .string x.z] := by simp [fcs, Fi.cs]
  rw [e]
  refine ⟨rfl, fun j hj => ?_⟩
  have hj4 : j < 4 := hj
  refine ⟨_, _, rfl, Nat.lt_succ_self _, List.getElem?_eq_getElem hj4, ?_⟩
  rw [add_lit, Nat.zero_add, cell_of_row _ _ j _ _ (0, 0) h]
  rw [List.getElem?_toArray]
  exact List.getElem?_eq_getElem hj4
section
variable {w : World} {B n i : Nat} {A : Option Addr}
theorem Lies.file {l : List Fi} (h : Lies w B 4 A n (fcs l)) (hi : i < n) :
    ∃ b o x, A = some ⟨b, o, none⟩ ∧ b < B ∧ l[i]? = some x ∧ w.cell? ⟨b, o + i * 4, none⟩ = some (.int .u32 (x.num : Int)) ∧ w.cell? ⟨b, o + i * 4 + 1, none⟩ = some (.int .i64 x.lv) ∧ w.cell? ⟨b, o + i * 4 + 2, none⟩ = some (.string x.a) ∧ w.cell? ⟨b, o + i * 4 + 3, none⟩ = some (.string x.z) := by
  obtain ⟨b, o, e, hb, hc⟩ := h.elem (by decide) hi
  have hl : i < l.length := by have := h.len; rw [fcs_len] at this; omega
  refine ⟨b, o, l[i], e, hb, List.getElem?_eq_getElem hl, ?_, ?_, ?_, ?_⟩
  · rw [show o + i * 4 = o + (i * 4 + 0) from rfl, hc 0 (by decide)]; exact flat_get Fi.cs 4 (fun _ => rfl) l i 0 _ (List.getElem?_eq_getElem hl) (by decide)
  · rw [Nat.add_assoc, hc 1 (by decide)]; exact flat_get Fi.cs 4 (fun _ => rfl) l i 1 _ (List.getElem?_eq_getElem hl) (by decide)
  · rw [Nat.add_assoc, hc 2 (by decide)]; exact flat_get Fi.cs 4 (fun _ => rfl) l i 2 _ (List.getElem?_eq_getElem hl) (by decide)
  · rw [Nat.add_assoc, hc 3 (by decide)]; exact flat_get Fi.cs 4 (fun _ => rfl) l i 3 _ (List.getElem?_eq_getElem hl) (by decide)
theorem Lies.flen {l : List Fi} (h : Lies w B 4 A n (fcs l)) : l.length = n := by have := h.len; rw [fcs_len] at this; omega
end
/-- how long a file's keys may be -/
def szFi (f : Fi) : Prop := f.num < 4294967296 ∧ (-9223372036854775808 ≤ f.lv ∧ f.lv ≤ 9223372036854775807) ∧ f.a.size ≤ 140737488351232 ∧ f.z.size ≤ 140737488351232

set_option maxHeartbeats 2000000 in
theorem isValid_sz (f : Fi) (w : World) (ha : f.a.size ≤ 140737488351232) (hz : f.z.size ≤ 140737488351232) :
    Calls Try.prog 17 #[.agg #[.int .u32 (f.num : Int), .int .i64 f.lv, .string f.a, .string f.z]] w fun e w' => e = .returned (.bool (okFi f)) ∧ w' = fiW w f := by
  obtain ⟨x, hx⟩ : ∃ x, chk f.a = x := ⟨_, rfl⟩
  obtain ⟨y, hy⟩ : ∃ y, chk f.z = y := ⟨_, rfl⟩
  have CA : Hid (∀ W, Calls Try.prog 27 #[.string f.a] W fun e w' => e = .returned (.bool x) ∧ W = w') := fun W => by rw [← hx]; exact chk_any f.a W (by omega)
  have CZ : Hid (∀ W, Calls Try.prog 27 #[.string f.z] W fun e w' => e = .returned (.bool y) ∧ W = w') := fun W => by rw [← hy]; exact chk_any f.z W (by omega)
  obtain ⟨z0, z1, z2, z3⟩ := (FiAt.new w f).cells
  obtain ⟨W0, hW0⟩ : ∃ W0, fiW w f = W0 := ⟨_, rfl⟩
  rw [hW0] at z0 z1 z2 z3 ⊢
  have hW1 : w.alloc (.cells #[.int .u32 (f.num : Int), .int .i64 f.lv, .string f.a, .string f.z] 37) = W0 := hW0
  clear hW0
  unfold okFi
  rw [hx, hy]
  clear hx hy
  by_cases h1 : 0 ≤ f.lv
  · have d1 : decide (0 ≤ f.lv) = true := decide_eq_true h1
    rw [d1]
    by_cases h2 : f.lv < 4
    · have d2 : decide (f.lv < 4) = true := decide_eq_true h2
      rw [d2]
      cases x
      · go_enter Try.func17, Try.ntmps17
        go_wp2_with fail
        with_reducible refine Calls.mono (CA.out _) ?_
        rintro e w' ⟨rfl, rfl⟩
        go_wp2
        go_ret
        exact ⟨rfl, rfl⟩
      · cases y
        · go_enter Try.func17, Try.ntmps17
          go_wp2_with fail
          with_reducible refine Calls.mono (CA.out _) ?_
          rintro e w' ⟨rfl, rfl⟩
          go_wp2_with fail
          with_reducible refine Calls.mono (CZ.out _) ?_
          rintro e w' ⟨rfl, rfl⟩
          go_wp2
          go_ret
          exact ⟨rfl, rfl⟩
        · have hl : Op.bytesLess f.a.toList f.z.toList = lessB f.a f.z := rfl
          have he : (f.a.toList == f.z.toList) = decide (f.a = f.z) := txt_eqB _ _
          have hg : (lessB f.a f.z || decide (f.a = f.z)) = !lessB f.z f.a := by rw [← lessB_gt f.a f.z, Bool.not_not]
          obtain ⟨b, hb⟩ : ∃ b, lessB f.a f.z = b := ⟨_, rfl⟩
          obtain ⟨c, hc⟩ : ∃ c, decide (f.a = f.z) = c := ⟨_, rfl⟩
          obtain ⟨d, hd⟩ : ∃ d, lessB f.z f.a = d := ⟨_, rfl⟩
          rw [hb] at hl
          rw [hc] at he
          rw [hb, hc, hd] at hg
          rw [hd]
          clear hb hc hd
          go_enter Try.func17, Try.ntmps17
          go_wp2_with fail
          with_reducible refine Calls.mono (CA.out _) ?_
          rintro e w' ⟨rfl, rfl⟩
          go_wp2_with fail
          with_reducible refine Calls.mono (CZ.out _) ?_
          rintro e w' ⟨rfl, rfl⟩
          go_wp2
          go_ret
          exact ⟨rfl, rfl⟩
    · have d2 : decide (f.lv < 4) = false := decide_eq_false h2
      rw [d2]
      go_enter Try.func17, Try.ntmps17
      go_wp2
      go_ret
      exact ⟨rfl, rfl⟩
  · have d1 : decide (0 ≤ f.lv) = false := decide_eq_false h1
    rw [d1]
    go_enter Try.func17, Try.ntmps17
    go_wp2
    go_ret
    exact ⟨rfl, rfl⟩

theorem isValid_any (f : Fi) (w : World) (hs : szFi f) :
    Calls Try.prog 17 #[.agg #[.int .u32 (f.num : Int), .int .i64 f.lv, .string f.a, .string f.z]] w fun e w' => e = .returned (.bool (okFi f)) ∧ w' = fiW w f := isValid_sz f w hs.2.2.1 hs.2.2.2

/-! how two files are compared -/
def cmpI (a b : Int) : Int := if a < b then -1 else if b < a then 1 else 0
theorem nanI (x : Int) (w : World) : Calls Try.prog 38 #[.int .i64 x] w fun e w' => e = .returned (.bool false) ∧ w = w' := by
  go_enter Try.func38, Try.ntmps38
  go_wp2
  go_ret
  exact ⟨by simp, rfl⟩
theorem nanU (x : Int) (w : World) : Calls Try.prog 39 #[.int .u32 x] w fun e w' => e = .returned (.bool false) ∧ w = w' := by
  go_enter Try.func39, Try.ntmps39
  go_wp2
  go_ret
  exact ⟨by simp, rfl⟩
theorem cmpI_any (a b : Int) (w : World) : Calls Try.prog 25 #[.int .i64 a, .int .i64 b] w fun e w' => e = .returned (.int .i64 (cmpI a b)) ∧ w = w' := by
  go_enter Try.func25, Try.ntmps25
  go_wp2_with (go_at_call 38; refine (nanI _ _).mono ?_; rintro e w' ⟨rfl, rfl⟩)
  all_goals (go_ret; refine ⟨?_, rfl⟩; unfold cmpI; (repeat' split) <;> first | rfl | (exfalso; omega))
theorem cmpU_any (a b : Int) (w : World) : Calls Try.prog 26 #[.int .u32 a, .int .u32 b] w fun e w' => e = .returned (.int .i64 (cmpI a b)) ∧ w = w' := by
  go_enter Try.func26, Try.ntmps26
  go_wp2_with (go_at_call 39; refine (nanU _ _).mono ?_; rintro e w' ⟨rfl, rfl⟩)
  all_goals (go_ret; refine ⟨?_, rfl⟩; unfold cmpI; (repeat' split) <;> first | rfl | (exfalso; omega))
end Go.Proofs.Ytnnocjnmfabnaaa
