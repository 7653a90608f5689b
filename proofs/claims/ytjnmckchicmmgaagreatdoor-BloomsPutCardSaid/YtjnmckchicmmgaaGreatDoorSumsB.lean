/-
  Contracts of package sums: Table. An array that is made, filled, and handed back by value.
-/
import Derived.Test.YtjnmckchicmmgaaGreatDoorSumsA
import Derived.Outline
namespace Go.Proofs.YtjnmckchicmmgaaGreatDoor
open Go.RowKit
set_option linter.unusedVariables false

/-- a table of noughts -/
def noughts : List Nat := List.replicate 256 0
theorem arr_info : (Tryz.prog.info? 51).map (fun i => (i.zero, i.size)) = some (some (.agg (arr noughts)), 256) := by kernel_rfl
/-- 'var t [256]uint32': a block of noughts -/
theorem wpList_newTab {ops : Array Oper} {rest : List Oper} {o : Oper} {a : Act} {w : World} {Q : Exit → Act → World → Prop} (hg : o.guard = none) (ho : o.op = .alloc 51)
    (h : wpList Tryz.prog ops Q rest (a.put o.dst (.pointer (some ⟨w.heap.size, 0, none⟩))) (w.alloc (.cells (arr noughts) 51))) : wpList Tryz.prog ops Q (o :: rest) a w := by
  refine wpList_plain hg fun K hK => ?_
  obtain ⟨hz, _⟩ := zero_of_info (P := Tryz.prog) arr_info
  unfold Oper.wp execOp
  simp only [ho, Instr.alloc, Sem.run_bind, hz, Result.andThen_ok]
  exact hK _ _ h
theorem arr_info2 {T : List Nat} (h : T.length = 256) : (Tryz.prog.info? 51).map (·.size) = some (arr T).size := by
  rw [arr_size, h]; exact (zero_of_info (P := Tryz.prog) arr_info).2
/-- a whole array, read -/
theorem wpList_loadTab {ops : Array Oper} {rest : List Oper} {o : Oper} {a : Act} {w : World} {Q : Exit → Act → World → Prop} (hgd : o.guard = none) (x : Operand) (ho : o.op = .load 51 x)
    (g : Nat) (hx : a.eval x = .pointer (some ⟨g, 0, none⟩)) (T : List Nat) (hg : Tab w g 51 T) (hl : T.length = 256)
    (h : wpList Tryz.prog ops Q rest (a.put o.dst (.agg (arr T))) w) : wpList Tryz.prog ops Q (o :: rest) a w := by
  exact wpList_load_row hgd _ x ho g hx _ _ _ _ hg Tryz.underlying51 rfl (arr_info2 hl) h
/-- a whole array, written -/
theorem wpList_storeTab {ops : Array Oper} {rest : List Oper} {o : Oper} {a : Act} {w : World} {Q : Exit → Act → World → Prop} (hgd : o.guard = none) (x y : Operand) (ho : o.op = .store 51 x y)
    (g : Nat) (hx : a.eval x = .pointer (some ⟨g, 0, none⟩)) (T' : List Nat) (hy : a.eval y = .agg (arr T')) (T : List Nat) (hg : Tab w g 51 T) (hl : T.length = 256) (hl' : T'.length = 256)
    (h : wpList Tryz.prog ops Q rest (a.put o.dst undef) (w.setRow g (arr T'))) : wpList Tryz.prog ops Q (o :: rest) a w :=
  wpList_plain hgd fun _ hK => wp_store_row _ x y ho g _ hx hy _ _ hg (arr_info2 hl') (by rw [arr_size, arr_size, hl, hl']) (arr_one _) (hK _ _ h)
theorem results_tab {fn : Func} {p : Tmp} (h : fn.results = #[.cell p 51]) (tmps : Array Value) (w : World) (g : Nat) (T : List Nat)
    (hp : tmps.getD p undef = .pointer (some ⟨g, 0, none⟩)) (hg : Tab w g 51 T) (hl : T.length = 256) : (results fn tmps).run Tryz.prog w = .ok (.agg (arr T)) w := by
  exact results_cell_row h tmps w g _ _ _ _ hp hg Tryz.underlying51 rfl (arr_info2 hl)
theorem noughts_len : noughts.length = 256 := by unfold noughts; exact List.length_replicate
/-- an array that is filled up to a place -/
def fillTo (f : Nat → Nat) (k : Nat) : List Nat := (List.range 256).map fun i => if i < k then f i else 0
theorem fillTo_len (f : Nat → Nat) (k : Nat) : (fillTo f k).length = 256 := by simp [fillTo]
theorem fillTo_zero (f : Nat → Nat) : fillTo f 0 = noughts := by
  unfold noughts
  apply List.ext_getElem?; intro i
  simp only [fillTo, List.getElem?_map, List.getElem?_replicate]
  by_cases h : i < 256
  · rw [List.getElem?_range h]; simp [h]
  · rw [List.getElem?_eq_none (by simpa using h)]; simp [h]
theorem fillTo_set (f : Nat → Nat) (k : Nat) : (fillTo f k).set k (f k) = fillTo f (k + 1) := by
  apply List.ext_getElem?; intro i
  rw [List.getElem?_set, fillTo_len]
  simp only [fillTo, List.getElem?_map]
  by_cases h : i < 256
  · rw [List.getElem?_range h]
    by_cases e : k = i
    · subst e; simp [h]
    · have : (i < k + 1) = (i < k) := by rw [eq_iff_iff]; omega
      simp [e, this]
  · rw [List.getElem?_eq_none (l := List.range 256) (by simpa using h)]
    have : ¬ (k = i ∧ k < 256) := by omega
    simp; omega
theorem fillTo_all (f : Nat → Nat) : fillTo f 256 = (List.range 256).map f := by
  apply List.map_congr_left
  intro i hi
  rw [if_pos (List.mem_range.1 hi)]

set_option maxHeartbeats 1000000 in
theorem table_any (w : World) :
    Calls Tryz.prog 14 #[] w fun e w' => e = .returned (.agg (arr Crc.tab)) ∧ Below w.heap.size w w' := by
  go_enter Tryz.func14, Tryz.ntmps14
  go_wp2_with (refine wpList_newTab rfl rfl ?_)
  have T1 := Tab.new (w.alloc (.cells (arr noughts) 51)) 51 noughts
  have T0 := (Tab.new w 51 noughts).alloc (.cells (arr noughts) 51)
  have hb0 : Below w.heap.size w ((w.alloc (.cells (arr noughts) 51)).alloc (.cells (arr noughts) 51)) := ((Below.refl _ _).alloc (Nat.le_refl _) _).alloc (by simp) _
  have e0 : (w.alloc (.cells (arr noughts) 51)).heap.size = w.heap.size + 1 := by simp
  rw [e0] at T1
  go_loopw [3] (fun i wr => ∃ k : Nat, k ≤ 256 ∧ i = .int .i64 (k : Int) ∧ Tab wr (w.heap.size + 1) 51 (fillTo Crc.ent k) ∧ Tab wr w.heap.size 51 noughts ∧ Below w.heap.size w wr) (fun i _ => 256 - (intOf i).toNat)
  case atStart => exact ⟨0, Nat.zero_le _, rfl, by rw [fillTo_zero]; exact T1, T0, hb0⟩
  case round =>
    clear T1 T0 hb0 e0
    obtain ⟨k, hk, rfl, T1, T0, hb⟩ := hrel
    have hbs := hb.size
    by_cases hlt : k < 256
    · obtain ⟨x, hx⟩ : ∃ x, (fillTo Crc.ent k)[k]? = some x := ⟨_, List.getElem?_eq_getElem (by rw [fillTo_len]; exact hlt)⟩
      have hc := T1.cell hx
      have hf := T1.frozen k
      have hm : (k : Int) % 4294967296 = (k : Int) := by omega
      have hi : (k : Int) < 256 := by omega
      have H1 := Lib.hid T1; have H0 := Lib.hid T0; have HB := Lib.hid hb
      clear T1 T0 hb hx
      go_wp2_with (go_at_call 59; refine (entry_any k wr (by omega)).mono ?_; rintro e w' ⟨rfl, rfl⟩)
      go_roundw
      case rel => exact ⟨k + 1, hlt, by go_num, by rw [← fillTo_set]; exact H1.out.set k _, H0.out.far (by simp) _, HB.out.setCell (by simp) _⟩
      case measure => simp [intOf]; omega
    · obtain rfl : k = 256 := by omega
      have T2 := Lib.hid (T0.setRow (fillTo Crc.ent 256))
      have HB := Lib.hid (below_setRow hb (Nat.le_refl _) (arr (fillTo Crc.ent 256)))
      have HR := fillTo_all Crc.ent
      go_wp2_with (first
        | refine wpList_loadTab rfl _ rfl (w.heap.size + 1) rfl _ T1 (fillTo_len _ _) ?_
        | refine wpList_storeTab rfl _ _ rfl w.heap.size rfl (fillTo Crc.ent 256) rfl noughts T0 noughts_len (fillTo_len _ _) ?_)
      refine bodyPost_ret (v := .agg (arr (fillTo Crc.ent 256))) ?_ rfl ⟨?_, HB.out⟩
      · exact results_tab rfl _ _ w.heap.size _ rfl T2.out (fillTo_len _ _)
      · rw [HR]; rfl
end Go.Proofs.YtjnmckchicmmgaaGreatDoor
