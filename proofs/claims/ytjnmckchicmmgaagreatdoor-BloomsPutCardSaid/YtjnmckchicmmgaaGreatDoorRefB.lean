/-
  The document's own answers of layer 9: place, May.
-/
import Derived.Test.YtjnmckchicmmgaaGreatDoorOwn
import Derived.Test.YtjnmckchicmmgaaGreatDoorBlm
import Derived.Test.YtjnmckchicmmgaaGreatDoorConv
import Derived.ArgAppend
import Derived.LoopTactic
import Derived.Laws.ShiftsVarLaws
import Derived.Deep.Cut
namespace Go.Proofs.YtjnmckchicmmgaaGreatDoor
open Go.RowKit
set_option linter.unusedVariables false
set_option maxRecDepth 100000

/-- append([]byte(s), x) -/
theorem conv_app (w : World) (s : ByteArray) (x : UInt8) (hs : s.size ≤ 1099511627776) : ∃ w1 c1 A' c' w3, (convert 9 25 (.string s)).run Tryz.prog w = .ok (.slice (some ⟨w.heap.size, 0, none⟩) s.size c1) w1 ∧
    ((Builtin.append_ #[25, 25] 25 #[.slice (some ⟨w.heap.size, 0, none⟩) s.size c1, .slice (some ⟨w1.heap.size, 0, none⟩) 1 1]).run Tryz.prog (w1.alloc (.cells #[bv x] 5)) = .ok (.slice A' (s.size + 1) c') w3) ∧
    Below w.heap.size w w3 ∧ Lies w3 w3.heap.size 1 A' (s.size + 1) ((s.data.toList ++ [x]).map bv) := by
  obtain ⟨i0, hi, hz0, hz1, hz2⟩ := info_parts byte_info
  have hrun := run_bytes_of_string (P := Tryz.prog) w 9 25 5 s Tryz.underlying9 Tryz.underlying25 Tryz.underlying5
  have hcg := grownCap_ge w s.size 0 5
  generalize grownCap w s.size 0 5 = c at *
  have hrs : (bytesRow s c).size = c := by
    have : s.data.size = s.size := rfl
    simp [bytesRow]; omega
  rw [hrs] at hrun
  obtain ⟨w1, hw1⟩ : ∃ w1, w.drew.alloc (.cells (bytesRow s c) 5 (c, c + 1)) = w1 := ⟨_, rfl⟩
  rw [hw1] at hrun
  have hz : w1.heap.size = w.heap.size + 1 := by rw [← hw1]; simp
  have hb1 : Below w.heap.size w w1 := by rw [← hw1]; exact ((Below.refl _ _).drew).alloc (Nat.le_refl _) _
  have hr1 : w1.heap[w.heap.size]? = some (.cells (bytesRow s c) 5 (c, c + 1)) := by rw [← hw1]; exact heap_alloc_new w.drew _
  obtain ⟨w2, hw2⟩ : ∃ w2, w1.alloc (.cells #[bv x] 5) = w2 := ⟨_, rfl⟩
  have hr2 : w2.heap[w.heap.size]? = some (.cells (bytesRow s c) 5 (c, c + 1)) := by rw [← hw2]; exact (Below.heap_alloc w1 _ _ (by omega)).trans hr1
  have hb2 : Below w.heap.size w w2 := by rw [← hw2]; exact hb1.alloc hb1.size _
  have hx2 : w2.cell? ⟨w1.heap.size, 0, none⟩ = some (bv x) := by rw [← hw2]; exact (Box.new w1 _ _).cell
  have hz2' : w2.heap.size = w1.heap.size + 1 := by rw [← hw2]; simp
  have hold : ∀ j, j < s.size → w2.cell? ⟨w.heap.size, j, none⟩ = (s.data.toList.map bv)[j]? := fun j hj => by
    rw [cell_of_row w2 w.heap.size j _ _ _ hr2, bytesRow_at s c j hj, List.getElem?_map, Array.getElem?_toList, Array.getElem?_eq_getElem hj]; rfl
  have hsl : (s.data.toList.map bv).length = s.size := by rw [List.length_map, Array.length_toList]; rfl
  have hnews : ∀ j u, [bv x][j]? = some u → w2.cell? ((⟨w1.heap.size, 0, none⟩ : Addr).add j) = some u := fun j u hj => by
    have h0 : j = 0 := by have := (List.getElem?_eq_some_iff.1 hj).1; simpa using this
    subst h0
    have hu : u = bv x := by simpa using hj.symm
    rw [hu]; exact hx2
  by_cases hroom : s.size + 1 ≤ c
  · have hcell : (w2.cell? ⟨w.heap.size, s.size, none⟩).isSome = true := by
      rw [cell_of_row w2 w.heap.size s.size _ _ _ hr2, Array.getElem?_eq_getElem (by omega)]; rfl
    have hfr : w2.frozen? ⟨w.heap.size, s.size, none⟩ = false := by
      simp [World.frozen?, hr2]; omega
    refine ⟨w1, c, some ⟨w.heap.size, 0, none⟩, c, w2.setCell ⟨w.heap.size, s.size, none⟩ (bv x), hrun, ?_, hb2.setCell (p := ⟨w.heap.size, s.size, none⟩) (Nat.le_refl _) _, ?_⟩
    · have h := run_append_room_cells (P := Tryz.prog) w2 25 25 5 i0 Tryz.underlying25 hi w.heap.size 0 s.size c ⟨w1.heap.size, 0, none⟩ 1 1 [bv x] (by rw [hz1]; rfl) hnews (fun u hu => by rw [List.mem_singleton.1 hu]; rfl) hroom
        (fun j hj => by
          have : j = 0 := by simpa using hj
          rw [this, hz1]; simpa using hcell)
        (fun j hj => by
          have : j = 0 := by simpa using hj
          rw [this, hz1]; simpa using hfr)
      rw [hw2, h, hz1]
      simp [World.setCells]
    · refine ⟨by rw [List.length_map, List.length_append, Array.length_toList, Nat.mul_one]; rfl, fun j hj => ?_⟩
      have hj2 : j < s.size + 1 := by rw [List.length_map, List.length_append, Array.length_toList] at hj; exact hj
      obtain ⟨u, hu⟩ : ∃ u, ((s.data.toList ++ [x]).map bv)[j]? = some u := ⟨_, List.getElem?_eq_getElem hj⟩
      refine ⟨⟨w.heap.size, 0, none⟩, u, rfl, by show w.heap.size < (w2.setCell _ _).heap.size; simp [World.setCell]; omega, hu, ?_⟩
      rw [add_lit, Nat.zero_add]
      rw [List.map_append] at hu
      by_cases e : j = s.size
      · subst e
        have h3 := World.cell?_setCells_in w.heap.size [bv x] s.size w2 (fun j hj => by
          have : j = 0 := by simpa using hj
          rw [this]; simpa using hcell) 0 (by simp)
        simp only [World.setCells, Nat.add_zero] at h3
        rw [List.getElem?_append_right (by rw [hsl]; exact Nat.le_refl _), hsl, Nat.sub_self] at hu
        rw [h3, ← hu]
        rfl
      · rw [List.getElem?_append_left (by rw [hsl]; omega)] at hu
        rw [World.cell?_setCell_other _ _ _ _ (by intro h; injection h with _ h _; exact e h.symm), hold j (by omega)]
        exact hu
  · obtain ⟨v', w3, hap, ho, hg⟩ := run_append_arg_grows (P := Tryz.prog) w2 25 25 5 i0 _ 1 1 Tryz.underlying25 hi hz0 hz1 hz2 rfl (by decide) ⟨w.heap.size, 0, none⟩ s.size c (s.data.toList.map bv) (by rw [hsl, Nat.mul_one])
      (fun j u hu => by rw [add_lit, Nat.zero_add, hold j (by have := (List.getElem?_eq_some_iff.1 hu).1; omega)]; exact hu) ⟨w1.heap.size, 0, none⟩ 1 1 [bv x] rfl hnews (by omega) (by unfold maxLen; omega) (by omega)
    obtain ⟨A', c', rfl, _, _, _⟩ := own_shape ho
    refine ⟨w1, c, A', c', w3, hrun, by rw [hw2]; exact hap, hb2.grown hg hb2.size (fun k e => by cases e), ?_⟩
    rw [List.map_append]
    exact Lies.of_own ho

/-- append, whose run is known -/
theorem wpList_appRun {ops : Array Oper} {rest : List Oper} {o : Oper} {a : Act} {w w' : World} {Q : Exit → Act → World → Prop} (hgd : o.guard = none) (s x : Operand)
    (ho : o.op = .call { callee := .builtin .append, args := #[s, x], argTypes := #[25, 25] }) (ht : o.type = 25)
    (v1 v2 v : Value) (hs : a.eval s = v1) (hx : a.eval x = v2) (hrun : (Builtin.append_ #[25, 25] 25 #[v1, v2]).run Tryz.prog w = .ok v w')
    (h : wpList Tryz.prog ops Q rest (a.put o.dst v) w') : wpList Tryz.prog ops Q (o :: rest) a w := by
  refine wpList_plain hgd fun K hK => ?_
  rw [← ht] at hrun
  unfold Oper.wp execOp
  simp only [ho, resolve, invoke, builtin, Sem.run_bind, Sem.run_pure, Result.andThen_ok, List.map_toArray, List.map_cons, List.map_nil, hs, hx]
  rw [ht] at hrun ⊢
  simp only [hrun]
  exact hK _ _ h

set_option maxHeartbeats 1000000 in
theorem place_any (key : ByteArray) (i N : Nat) (w : World) (hs : key.size ≤ 1000000) (hi : i < 6) (h0 : 0 < N) (hN : N < 4294967296) :
    Calls Tryz.prog 17 #[.string key, .int .i64 (i : Int), .int .i64 (N : Int)] w fun e w' => e = .returned (.int .i64 (Blm.pos key.data.toList N i : Nat)) ∧ Below w.heap.size w w' := by
  obtain ⟨wa, ca, hconv, hba, hla⟩ := conv_bytes w key
  have HO1 := Lib.hid (rown_any _ key.size ca key.data.toList wa hla (by omega))
  have HBA := Lib.hid hba
  have hx := Blm.x1_lt key.data.toList
  have hy := Blm.y1_lt key.data.toList
  have HY : Hid (Crc.on Crc.tab 0 (key.data.toList ++ [1]) = Blm.y1 key.data.toList) := (Blm.y1_eq _).symm
  change Hid (Calls _ _ _ _ fun e w' => e = .returned (.int .u32 ((Blm.x1 key.data.toList : Nat) : Int)) ∧ _) at HO1
  have HO2 : Hid (∀ (A : Option Addr) (c : Nat) (W : World), Lies W W.heap.size 1 A (key.size + 1) ((key.data.toList ++ [1]).map bv) → Calls Tryz.prog 63 #[.slice A (key.size + 1) c] W fun e w' => e = .returned (.int .u32 ((Blm.y1 key.data.toList : Nat) : Int)) ∧ Below W.heap.size W w') := fun A c W h => by
    have := rown_any A (key.size + 1) c _ W h (by omega)
    rw [HY.out] at this
    exact this
  unfold Blm.pos
  generalize Blm.x1 key.data.toList = x at *
  generalize Blm.y1 key.data.toList = y at *
  obtain ⟨m, hm⟩ : ∃ m, (i * y) % 4294967296 = m := ⟨_, rfl⟩
  obtain ⟨q, hq⟩ : ∃ q, (x + i * y) % 4294967296 = q := ⟨_, rfl⟩
  have hq2 : (x + m) % 4294967296 = q := by rw [← hq, ← hm]; omega
  have hml : m < 4294967296 := by omega
  have hql : q < 4294967296 := by omega
  rw [hq]
  obtain ⟨p, hp⟩ : ∃ p, q % N = p := ⟨_, rfl⟩
  rw [hp]
  have hpl : p < N := by rw [← hp]; exact Nat.mod_lt _ h0
  have f1 : ((i : Int) * (y : Int)) % 4294967296 = (m : Int) := by rw [← hm]; omega
  have f2 : ((x : Int) + (m : Int)) % 4294967296 = (q : Int) := by rw [← hq2]; omega
  have f4 : (q : Int) % (N : Int) = (p : Int) := by rw [← hp]; rfl
  have HF := Lib.hid (And.intro f1 (And.intro f2 f4))
  clear f1 f2 f4 hm hq hq2 hp HY hla hba
  go_enter Tryz.func17, Tryz.ntmps17
  go_wp2_with fail
  refine HO1.out.mono ?_
  rintro e w1 ⟨rfl, hb1⟩
  have HB1 := Lib.hid (HBA.out.trans (hb1.mono HBA.out.size))
  clear hb1 HO1 HBA hconv
  obtain ⟨w2, c2, A3, c3, w3, hconv2, happ, hb3, hl3⟩ := conv_app w1 key 1 (by omega)
  have HO3 := Lib.hid (HO2.out A3 c3 w3 hl3)
  have HB3 := Lib.hid (HB1.out.trans (hb3.mono HB1.out.size))
  clear hb3 hl3 HO2 HB1
  have happ2 := Lib.hid happ
  clear happ
  go_wp2_with (at_builtin; refine wpList_appRun rfl (.tmp 13) (.tmp 14) rfl rfl _ _ _ rfl rfl happ2.out ?_)
  refine HO3.out.mono ?_
  rintro e w4 ⟨rfl, hb4⟩
  have HB4 := Lib.hid (HB3.out.trans (hb4.mono HB3.out.size))
  clear hb4 HO3 HB3 happ2 hconv2
  obtain ⟨f1, f2, f4⟩ := HF.out
  go_wp2
  go_ret
  exact ⟨rfl, HB4.out⟩

/-- is a bit set, as the document asks it -/
theorem bit_quo {x k : Nat} (hx : x < 256) (hk : k < 8) : decide (x / 2 ^ k % 2 = 0) = !x.testBit k := by
  rw [Blm.bit_div]
  have : x / 2 ^ k % 2 = 0 ∨ x / 2 ^ k % 2 = 1 := by omega
  rcases this with h | h <;> simp [h]
end Go.Proofs.YtjnmckchicmmgaaGreatDoor
