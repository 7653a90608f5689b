/-
  The document's own answers of layer 9: place, May.
-/
import Derived.Test.YtjnmckchicmmgaaOwn
import Derived.Test.YtjnmckchicmmgaaBlm
import Derived.Test.YtjnmckchicmmgaaConv
import Derived.ArgAppend
import Derived.LoopTactic
import Derived.Laws.ShiftsVarLaws
import Derived.Deep.Cut
namespace Go.Proofs.Ytjnmckchicmmgaa
open Go.RowKit
set_option linter.unusedVariables false
set_option maxRecDepth 100000

/-- append([]byte(s), x) -/
theorem conv_app (w : World) (s : ByteArray) (x : UInt8) (hs : s.size ≤ 1099511627776) : ∃ w1 c1 A' c' w3, (convert 9 22 (.string s)).run Try.prog w = .ok (.slice (some ⟨w.heap.size, 0, none⟩) s.size c1) w1 ∧
    ((Builtin.append_ #[22, 22] 22 #[.slice (some ⟨w.heap.size, 0, none⟩) s.size c1, .slice (some ⟨w1.heap.size, 0, none⟩) 1 1]).run Try.prog (w1.alloc (.cells #[bv x] 5)) = .ok (.slice A' (s.size + 1) c') w3) ∧
    Below w.heap.size w w3 ∧ Lies w3 w3.heap.size 1 A' (s.size + 1) ((s.data.toList ++ [x]).map bv) := by
  obtain ⟨i0, hi, hz0, hz1, hz2⟩ := info_parts byte_info
  have hrun := run_bytes_of_string (P := Try.prog) w 9 22 5 s Try.underlying9 Try.underlying22 Try.underlying5
  have hcg := grownCap_ge w s.size 0 5
  generalize grownCap w s.size 0 5 = c at *
  have hrs : (bytesRow s c).size = c := by
    have : s.data.size = s.size := rfl
    simp [bytesRow]; omega
  rw [hrs] at hrun
  obtain ⟨w1, hw1⟩ : ∃ w1, w.drew.alloc (.cells (bytesRow s c) 5 (c, c + 1)) = w1 := ⟨_, rfl⟩
  rw [hw1] at hrun
  have hz : w1.heap.size = w.heap.size + 1 := by rw [← hw1]; simp
  have hb1 : Below w.heap.size w w1 := by rw [← hw1]; exact ((Below.refl _ _).drew).alloc (Nat.le_refl _) _
  have hr1 : w1.heap[w.heap.size]? = some (.cells (bytesRow s c) 5 (c, c + 1)) := by rw [← hw1]; exact heap_alloc_new w.drew _
  obtain ⟨w2, hw2⟩ : ∃ w2, w1.alloc (.cells #[bv x] 5) = w2 := ⟨_, rfl⟩
  have hr2 : w2.heap[w.heap.size]? = some (.cells (bytesRow s c) 5 (c, c + 1)) := by rw [← hw2]; exact (Below.heap_alloc w1 _ _ (by omega)).trans hr1
  have hb2 : Below w.heap.size w w2 := by rw [← hw2]; exact hb1.alloc hb1.size _
  have hx2 : w2.cell? ⟨w1.heap.size, 0, none⟩ = some (bv x) := by rw [← hw2]; exact (Box.new w1 _ _).cell
  have hz2' : w2.heap.size = w1.heap.size + 1 := by rw [← hw2]; simp
  have hold : ∀ j, j < s.size → w2.cell? ⟨w.heap.size, j, none⟩ = (s.data.toList.map bv)[j]? := fun j hj => by
    rw [cell_of_row w2 w.heap.size j _ _ _ hr2, bytesRow_at s c j hj, List.getElem?_map, Array.getElem?_toList, Array.getElem?_eq_getElem hj]; rfl
  have hsl : (s.data.toList.map bv).length = s.size := by rw [List.length_map, Array.length_toList]; rfl
  have hnews : ∀ j u, [bv x][j]? = some u → w2.cell? ((⟨w1.heap.size, 0, none⟩ : Addr).add j) = some u := fun j u hj => by
    have h0 : j = 0 := by have := (List.getElem?_eq_some_iff.1 hj).1; simpa using this
    subst h0
    have hu : u = bv x := by simpa using hj.symm
    rw [hu]; exact hx2
  by_cases hroom : s.size + 1 ≤ c
  · have hcell : (w2.cell? ⟨w.heap.size, s.size, none⟩).isSome = true := by
      rw [cell_of_row w2 w.heap.size s.size _ _ _ hr2, Array.getElem?_eq_getElem (by omega)]; rfl
    have hfr : w2.frozen? ⟨w.heap.size, s.size, none⟩ = false := by
      simp [World.frozen?, hr2]; omega
    refine ⟨w1, c, some ⟨w.heap.size, 0, none⟩, c, w2.setCell ⟨w.heap.size, s.size, none⟩ (bv x), hrun, ?_, hb2.setCell (p := ⟨w.heap.size, s.size, none⟩) (Nat.le_refl _) _, ?_⟩
    · have h := run_append_room_cells (P := Try.prog) w2 22 22 5 i0 Try.underlying22 hi w.heap.size 0 s.size c ⟨w1.heap.size, 0, none⟩ 1 1 [bv x] (by rw [hz1]; rfl) hnews (fun u hu => by rw [List.mem_singleton.1 hu]; rfl) hroom
        (fun j hj => by
          have : j = 0 := by simpa using hj
          rw [this, hz1]; simpa using hcell)
        (fun j hj => by
          have : j = 0 := by simpa using hj
          rw [this, hz1]; simpa using hfr)
      rw [hw2, h, hz1]
      simp [World.setCells]
    · refine ⟨by rw [List.length_map, List.length_append, Array.length_toList, Nat.mul_one]; rfl, fun j hj => ?_⟩
      have hj2 : j < s.size + 1 := by rw [List.length_map, List.length_append, Array.length_toList] at hj; exact hj
      obtain ⟨u, hu⟩ : ∃ u, ((s.data.toList ++ [x]).map bv)[j]? = some u := ⟨_, List.getElem?_eq_getElem hj⟩
      refine ⟨⟨w.heap.size, 0, none⟩, u, rfl, by show w.heap.size < (w2.setCell _ _).heap.size; simp [World.setCell]; omega, hu, ?_⟩
      rw [add_lit, Nat.zero_add]
      rw [List.map_append] at hu
      by_cases e : j = s.size
      · subst e
        have h3 := World.cell?_setCells_in w.heap.size [bv x] s.size w2 (fun j hj => by
          have : j = 0 := by simpa using hj
          rw [this]; simpa using hcell) 0 (by simp)
        simp only [World.setCells, Nat.add_zero] at h3
        rw [List.getElem?_append_right (by rw [hsl]; exact Nat.le_refl _), hsl, Nat.sub_self] at hu
        rw [h3, ← hu]
        rfl
      · rw [List.getElem?_append_left (by rw [hsl]; omega)] at hu
        rw [World.cell?_setCell_other _ _ _ _ (by intro h; injection h with _ h _; exact e h.symm), hold j (by omega)]
        exact hu
  · obtain ⟨v', w3, hap, ho, hg⟩ := run_append_arg_grows (P := Try.prog) w2 22 22 5 i0 _ 1 1 Try.underlying22 hi hz0 hz1 hz2 rfl (by decide) ⟨w.heap.size, 0, none⟩ s.size c (s.data.toList.map bv) (by rw [hsl, Nat.mul_one])
      (fun j u hu => by rw [add_lit, Nat.zero_add, hold j (by have := (List.getElem?_eq_some_iff.1 hu).1; omega)]; exact hu) ⟨w1.heap.size, 0, none⟩ 1 1 [bv x] rfl hnews (by omega) (by unfold maxLen; omega) (by omega)
    obtain ⟨A', c', rfl, _, _, _⟩ := own_shape ho
    refine ⟨w1, c, A', c', w3, hrun, by rw [hw2]; exact hap, hb2.grown hg hb2.size (fun k e => by cases e), ?_⟩
    rw [List.map_append]
    exact Lies.of_own ho

/-- append, whose run is known -/
theorem wpList_appRun {ops : Array Oper} {rest : List Oper} {o : Oper} {a : Act} {w w' : World} {Q : Exit → Act → World → Prop} (hgd : o.guard = none) (s x : Operand)
    (ho : o.op = .call { callee := .builtin .append, args := #[s, x], argTypes := #[22, 22] }) (ht : o.type = 22)
    (v1 v2 v : Value) (hs : a.eval s = v1) (hx : a.eval x = v2) (hrun : (Builtin.append_ #[22, 22] 22 #[v1, v2]).run Try.prog w = .ok v w')
    (h : wpList Try.prog ops Q rest (a.put o.dst v) w') : wpList Try.prog ops Q (o :: rest) a w := by
  refine wpList_plain hgd fun K hK => ?_
  rw [← ht] at hrun
  unfold Oper.wp execOp
  simp only [ho, resolve, invoke, builtin, Sem.run_bind, Sem.run_pure, Result.andThen_ok, List.map_toArray, List.map_cons, List.map_nil, hs, hx]
  rw [ht] at hrun ⊢
  simp only [hrun]
  exact hK _ _ h

set_option maxHeartbeats 1000000 in
theorem place_any (key : ByteArray) (i N : Nat) (w : World) (hs : key.size ≤ 1000000) (hi : i < 6) (h0 : 0 < N) (hN : N < 4294967296) :
    Calls Try.prog 20 #[.string key, .int .i64 (i : Int), .int .i64 (N : Int)] w fun e w' => e = .returned (.int .i64 (Blm.pos key.data.toList N i : Nat)) ∧ Below w.heap.size w w' := by
  obtain ⟨wa, ca, hconv, hba, hla⟩ := conv_bytes w key
  have HO1 := Lib.hid (rown_any _ key.size ca key.data.toList wa hla (by omega))
  have HBA := Lib.hid hba
  have hx := Blm.x1_lt key.data.toList
  have hy := Blm.y1_lt key.data.toList
  have HY : Hid (Crc.on Crc.tab 0 (key.data.toList ++ [1]) = Blm.y1 key.data.toList) := (Blm.y1_eq _).symm
  change Hid (Calls _ _ _ _ fun e w' => e = .returned (.int .u32 ((Blm.x1 key.data.toList : Nat) : Int)) ∧ _) at HO1
  have HO2 : Hid (∀ (A : Option Addr) (c : Nat) (W : World), Lies W W.heap.size 1 A (key.size + 1) ((key.data.toList ++ [1]).map bv) → Calls Try.prog 27 #[.slice A (key.size + 1) c] W fun e w' => e = .returned (.int .u32 ((Blm.y1 key.data.toList : Nat) : Int)) ∧ Below W.heap.size W w') := fun A c W h => by
    have := rown_any A (key.size + 1) c _ W h (by omega)
    rw [HY.out] at this
    exact this
  unfold Blm.pos
  generalize Blm.x1 key.data.toList = x at *
  generalize Blm.y1 key.data.toList = y at *
  obtain ⟨m, hm⟩ : ∃ m, (i * y) % 4294967296 = m := ⟨_, rfl⟩
  obtain ⟨q, hq⟩ : ∃ q, (x + i * y) % 4294967296 = q := ⟨_, rfl⟩
  have hq2 : (x + m) % 4294967296 = q := by rw [← hq, ← hm]; omega
  have hml : m < 4294967296 := by omega
  have hql : q < 4294967296 := by omega
  rw [hq]
  obtain ⟨p, hp⟩ : ∃ p, q % N = p := ⟨_, rfl⟩
  rw [hp]
  have hpl : p < N := by rw [← hp]; exact Nat.mod_lt _ h0
  have f1 : ((i : Int) * (y : Int)) % 4294967296 = (m : Int) := by rw [← hm]; omega
  have f2 : ((x : Int) + (m : Int)) % 4294967296 = (q : Int) := by rw [← hq2]; omega
  have f4 : (q : Int) % (N : Int) = (p : Int) := by rw [← hp]; rfl
  have HF := Lib.hid (And.intro f1 (And.intro f2 f4))
  clear f1 f2 f4 hm hq hq2 hp HY hla hba
  go_enter Try.func20, Try.ntmps20
  go_wp2_with fail
  refine HO1.out.mono ?_
  rintro e w1 ⟨rfl, hb1⟩
  have HB1 := Lib.hid (HBA.out.trans (hb1.mono HBA.out.size))
  clear hb1 HO1 HBA hconv
  obtain ⟨w2, c2, A3, c3, w3, hconv2, happ, hb3, hl3⟩ := conv_app w1 key 1 (by omega)
  have HO3 := Lib.hid (HO2.out A3 c3 w3 hl3)
  have HB3 := Lib.hid (HB1.out.trans (hb3.mono HB1.out.size))
  clear hb3 hl3 HO2 HB1
  have happ2 := Lib.hid happ
  clear happ
  go_wp2_with (at_builtin; refine wpList_appRun rfl (.tmp 13) (.tmp 14) rfl rfl _ _ _ rfl rfl happ2.out ?_)
  refine HO3.out.mono ?_
  rintro e w4 ⟨rfl, hb4⟩
  have HB4 := Lib.hid (HB3.out.trans (hb4.mono HB3.out.size))
  clear hb4 HO3 HB3 happ2 hconv2
  obtain ⟨f1, f2, f4⟩ := HF.out
  go_wp2
  go_ret
  exact ⟨rfl, HB4.out⟩

/-- is a bit set, as the document asks it -/
theorem bit_quo {x k : Nat} (hx : x < 256) (hk : k < 8) : decide (x / 2 ^ k % 2 = 0) = !x.testBit k := by
  rw [Blm.bit_div]
  have : x / 2 ^ k % 2 = 0 ∨ x / 2 ^ k % 2 = 1 := by omega
  rcases this with h | h <;> simp [h]
set_option maxHeartbeats 4000000 in
theorem rMay_any (A : Option Addr) (n c B : Nat) (b : List UInt8) (key : ByteArray) (w : World) (h : Lies w B 1 A n (b.map bv)) (hB : B ≤ w.heap.size) (hnc : n ≤ c) (hn : n ≤ 100000) (hs : key.size ≤ 1000000) :
    Calls Try.prog 10 #[.slice A n c, .string key] w fun e w' => e = .returned (.tuple #[.bool (Blm.may b key.data.toList).1, .int .i64 ((Blm.may b key.data.toList).2 : Nat)]) ∧ Below w.heap.size w w' := by
  have hbl := h.blen
  by_cases h9 : n < 9
  · have e : Blm.may b key.data.toList = (false, 4) := by unfold Blm.may; rw [if_pos (.inl (by omega))]
    rw [e]
    have d1 : decide ((n : Int) < 9) = true := by simp; omega
    clear h hbl e
    go_enter Try.func10, Try.ntmps10
    go_wp2
    go_ret2
    exact ⟨rfl, Below.refl _ _⟩
  · obtain ⟨m, rfl⟩ : ∃ m, n = m + 1 := ⟨n - 1, by omega⟩
    have d1 : decide (((m + 1 : Nat) : Int) < 9) = false := by simp; omega
    have d2 : decide ((m : Int) + 1 < 9) = false := by simp; omega
    obtain ⟨bb, o, x, rfl, hbB, hx, hc0⟩ := h.byte (k := m) (by omega)
    have hxl := x.toNat_lt
    have hgx : b.getD (b.length - 1) 0 = x := by rw [hbl, Nat.add_sub_cancel, List.getD_eq_getElem?_getD, hx]; rfl
    by_cases h6 : x = 6
    · subst h6
      have e : Blm.may b key.data.toList = (Blm.hasK (b.take m) key.data.toList 6, 0) := by
        unfold Blm.may
        rw [if_neg (by rw [hgx]; simp; omega), hbl, Nat.add_sub_cancel]
      obtain ⟨ans, hans⟩ : ∃ ans, Blm.hasK (b.take m) key.data.toList 6 = ans := ⟨_, rfl⟩
      rw [hans] at e
      have HAN := Lib.hid hans
      rw [e]
      clear hans
      have hc : w.cell? ⟨bb, o + m, none⟩ = some (.int .u8 6) := hc0
      have HL := Lib.hid (lies_take h (m := m) (by omega))
      have HBM := Lib.hid HL.out.blen
      obtain ⟨b', hb'⟩ : ∃ b', b.take m = b' := ⟨_, rfl⟩
      rw [hb'] at HL HBM HAN
      clear h hbl e hgx hx hc0 hxl hb'
      have R0 : Hid (∃ k : Nat, k ≤ 6 ∧ (Value.int .i64 0) = .int .i64 (k : Int) ∧ Blm.hasK b' key.data.toList k = true ∧ Below w.heap.size w w) := ⟨0, Nat.zero_le _, rfl, rfl, Below.refl _ _⟩
      go_enter Try.func10, Try.ntmps10
      go_wp2
      go_loopw [6] (fun i wr => ∃ k : Nat, k ≤ 6 ∧ i = .int .i64 (k : Int) ∧ Blm.hasK b' key.data.toList k = true ∧ Below w.heap.size w wr) (fun i _ => 6 - (intOf i).toNat)
      case atStart => exact R0.out
      case round =>
        clear R0 hc
        obtain ⟨k, hk, rfl, hall, hb⟩ := hrel
        have HALL := Lib.hid hall; have HB := Lib.hid hb
        clear hall hb
        by_cases hlt : k < 6
        · obtain ⟨N, hN⟩ : ∃ N, 8 * m = N := ⟨_, rfl⟩
          have e8 : (8 : Int) * (m : Int) = (N : Int) := by omega
          have HPL := Lib.hid (place_any key k (8 * m) wr hs hlt (by omega) (by omega))
          obtain ⟨q, hq⟩ : ∃ q, Blm.pos key.data.toList (8 * m) k = q := ⟨_, rfl⟩
          have hql : q < 8 * m := by rw [← hq]; exact Blm.pos_lt _ (by omega) k
          rw [hq, hN] at HPL
          have HNX : Hid (Blm.hasK b' key.data.toList (k + 1) = Blm.has b' q) := by
            show (Blm.hasK b' key.data.toList k && _) = _
            rw [HBM.out, hq, HALL.out]; rfl
          have HNO : Hid (Blm.has b' q = false → ans = false) := fun hno => by
            rw [← HAN.out]
            cases hx : Blm.hasK b' key.data.toList 6 with
            | false => rfl
            | true =>
              rw [Blm.hasK_iff] at hx
              have := hx k hlt
              rw [HBM.out, hq, hno] at this
              cases this
          clear hq
          obtain ⟨d, hd⟩ : ∃ d, q / 8 = d := ⟨_, rfl⟩
          have hdl : d < m := by omega
          obtain ⟨r, hr⟩ : ∃ r, q % 8 = r := ⟨_, rfl⟩
          have hrl : r < 8 := by omega
          obtain ⟨M, hM⟩ : ∃ M, 2 ^ r = M := ⟨_, rfl⟩
          obtain ⟨bb2, o2, x, hbo, hbB2, hx, hc0⟩ := HL.out.byte hdl
          injection hbo with hbo
          injection hbo with hb0 ho0
          subst hb0 ho0
          have hxl := x.toNat_lt
          have hqb : decide (x.toNat / M % 2 = 0) = !(Blm.has b' q) := by
            unfold Blm.has
            rw [hd, List.getD_eq_getElem?_getD, hx, ← hM, hr]
            exact bit_quo (by simpa using hxl) hrl
          have hcw : Hid (∀ w1, Below wr.heap.size wr w1 → w1.cell? ⟨bb, o + d, none⟩ = some (.int .u8 (x.toNat : Int))) := fun w1 hb1 => by
            have hbw : Below w.heap.size w w1 := HB.out.trans (hb1.mono HB.out.size)
            exact (hbw.cell (p := ⟨bb, o + d, none⟩) (Nat.lt_of_lt_of_le hbB2 hB)).trans hc0
          have g1 : (q : Int).tdiv 8 = (d : Int) := by rw [← hd]; rfl
          have g2 : (q : Int).tmod 8 = (r : Int) := by rw [← hr]; rfl
          have g3 : IntKind.i64.wrap (d : Int) = (d : Int) := IntWalk.i64_in _ (by omega)
          have hdn : (d : Int) < (m : Int) + 1 := by omega
          have hd0 : (0 : Int) ≤ (d : Int) := by omega
          have hr0 : (0 : Int) ≤ (r : Int) := by omega
          have g4 : IntKind.u8.wrap ((2 : Int) ^ r) = (M : Int) := by
            rw [IntKind.wrap_u8, ← hM]
            exact (by decide : ∀ k : Nat, k < 8 → (2 : Int) ^ k % 256 = ((2 ^ k : Nat) : Int)) r hrl
          have hM0 : 0 < M := by rw [← hM]; exact Blm.pow_pos r
          have hMi : (0 : Int) < (M : Int) := by omega
          have hMn : ¬ (M : Int) = 0 := by omega
          have hMz : ((M : Int) == 0) = false := by simp; omega
          generalize x.toNat = xn at *
          obtain ⟨t, ht⟩ : ∃ t, xn / M = t := ⟨_, rfl⟩
          have htl : t < 256 := by
            have := Nat.div_le_self xn M
            have : xn < 256 := by simpa using hxl
            omega
          have g5 : (xn : Int).tdiv (M : Int) = (t : Int) := by rw [← ht]; rfl
          have g6 : IntKind.u8.wrap (t : Int) = (t : Int) := by rw [IntKind.wrap_u8]; omega
          obtain ⟨z, hz⟩ : ∃ z, t % 2 = z := ⟨_, rfl⟩
          have g7 : (t : Int).tmod 2 = (z : Int) := by rw [← hz]; rfl
          rw [ht, hz] at hqb
          have hzl : z < 2 := by omega
          have hml : m < 100000 := by omega
          clear hd hr hx hc0 hN hM ht hz hM0
          go_wp2_with fail
          refine HPL.out.mono ?_
          rintro e w1 ⟨rfl, hb1⟩
          have hc := hcw.out w1 hb1
          clear e8 hcw HPL
          go_wp2
          cases hbit : Blm.has b' q with
          | true =>
            rw [hbit] at hqb HNX
            have hz1 : ((z : Int) == 0) = false := by
              have : ¬ z = 0 := by simpa using hqb
              simp; omega
            have R : Hid (∀ nq, ∃ k' : Nat, k' ≤ 6 ∧ (Value.int .i64 ((k : Int) + 1)) = .int .i64 (k' : Int) ∧ Blm.hasK b' key.data.toList k' = true ∧ Below w.heap.size w (w1.drewN nq)) := fun nq =>
              ⟨k + 1, hlt, by simp, HNX.out, below_drewN (HB.out.trans (hb1.mono HB.out.size)) nq⟩
            clear hqb HNO hbit hb1 HNX
            go_quiet (fail)
            clear g1 g2 g3 g4 g5 g6 g7 hMn hMz hc
            go_wp2
            go_roundw
            case rel => exact R.out _
            case measure => simp [intOf]; omega
          | false =>
            rw [hbit] at hqb
            have hz1 : ((z : Int) == 0) = true := by
              have : z = 0 := by simpa using hqb
              simp; omega
            have HNO2 := Lib.hid (HNO.out hbit)
            have R : Hid (∀ nq, Below w.heap.size w (w1.drewN nq)) := fun nq => below_drewN (HB.out.trans (hb1.mono HB.out.size)) nq
            clear hqb HNO hbit hb1 HNX
            go_quiet (fail)
            clear g1 g2 g3 g4 g5 g6 g7 hMn hMz hc
            go_wp2
            go_ret2
            exact ⟨by rw [HNO2.out]; rfl, R.out _⟩
        · obtain rfl : k = 6 := by omega
          have HA2 : Hid (ans = true) := by rw [Hid, ← HAN.out]; exact HALL.out
          go_wp2
          go_ret2
          exact ⟨by rw [HA2.out]; rfl, HB.out⟩
    · have e : Blm.may b key.data.toList = (false, 4) := by unfold Blm.may; rw [if_pos (.inr (by rw [hgx]; exact h6))]
      rw [e]
      have hne : ((x.toNat : Int) != 6) = true := by
        have : x.toNat ≠ 6 := fun h => h6 (UInt8.toNat_inj.1 h)
        simp; omega
      clear h hbl e hgx hx h6
      generalize x.toNat = xn at *
      go_enter Try.func10, Try.ntmps10
      go_wp2
      go_ret2
      exact ⟨rfl, Below.refl _ _⟩
end Go.Proofs.Ytjnmckchicmmgaa
