/-
  The document's own table of layer 7: Get, From.
-/
import Derived.Test.YtopcnlophmplgaaGreatDoorRef7A
namespace Go.Proofs.YtopcnlophmplgaaGreatDoor
open Go.RowKit
set_option linter.unusedVariables false
set_option maxRecDepth 100000

theorem find_next {S : List En} {k : Nat} {x : En} {p : En → Bool} (h : S[k]? = some x) (h0 : (S.take k).find? p = none) (hx : p x = false) : (S.take (k + 1)).find? p = none := by
  rw [List.take_add_one, h, List.find?_append, h0]
  simp [hx]
theorem find_here {S : List En} {k : Nat} {x : En} {p : En → Bool} (h : S[k]? = some x) (h0 : (S.take k).find? p = none) (hx : p x = true) : S.find? p = some x := by
  rw [← List.take_append_drop k S, List.find?_append, h0]
  obtain ⟨hk, rfl⟩ := List.getElem?_eq_some_iff.1 h
  rw [List.drop_eq_getElem_cons hk, List.find?_cons, hx]; rfl
section
variable {w w' : World} {base m : Nat} {S : List En}
set_option maxHeartbeats 4000000 in
theorem rget_ok (h : RT w base m S) (hr : Rise S) (hn : S.length ≤ 4096) (key : ByteArray) (s : Nat) :
    Calls Tryz.prog 34 #[rp m, .string key, .int .u64 (s : Int)] w fun e w' => e = .returned (okE (getE S key s)) ∧ Below w.heap.size w w' := by
  obtain ⟨_, _, _, _, hB, hz⟩ := enW_facts w zeroE
  obtain ⟨W, hW⟩ : ∃ W, w.alloc (Obj.cells #[Value.string ⟨#[]⟩, Value.int IntKind.u64 0, Value.bool false, Value.string ⟨#[]⟩] 83) = W := ⟨_, rfl⟩
  rw [show enW w zeroE = W from hW] at hB hz
  obtain ⟨A, c, c0, _, _, _, hl⟩ := (h.below hB).at_
  rw [getE_find S hr key s]
  have HL := Lib.hid hl
  have HB := Lib.hid hB
  have HBX : Hid (W.heap[w.heap.size]? = some (.cells #[Value.string ⟨#[]⟩, Value.int IntKind.u64 0, Value.bool false, Value.string ⟨#[]⟩] 83 (0, 0))) := by
    unfold Hid; rw [← hW]; exact heap_alloc_new w _
  have HF : Hid (S.take S.length = S) := List.take_of_length_le (Nat.le_refl _)
  obtain ⟨n, hnn⟩ : ∃ n, S.length = n := ⟨_, rfl⟩
  rw [hnn] at c0 HL HF hn
  have HW := Lib.hid hW
  clear h hl hnn hr hB hz hW
  go_enter Tryz.func34, Tryz.ntmps34
  go_wp2
  rw [HW.out]
  clear HW
  go_loopw [8] (fun i wr => ∃ k : Nat, k ≤ n ∧ i = .int .i64 (k : Int) ∧ (S.take k).find? (isK key (s + 1)) = none ∧ wr = W) (fun i _ => n - (intOf i).toNat)
  case atStart => exact ⟨0, Nat.zero_le _, rfl, rfl, rfl⟩
  case round =>
    obtain ⟨k, hk, rfl, hno, hwr⟩ := hrel
    obtain rfl := hwr.symm
    have HNo := Lib.hid hno
    clear hno
    by_cases hlt : k < n
    · obtain ⟨b, o, x, rfl, hbB, hu, d0, d1, d2, d3⟩ := HL.out.entry hlt
      have HU := Lib.hid hu
      have hi0 : (0 : Int) ≤ (k : Int) := by omega
      have hi1 : (k : Int) < (n : Int) := by omega
      have hteq : (x.m.k.toList == key.toList) = decide (x.m.k = key) := txt_eqB _ _
      clear hu
      by_cases h1 : x.m.k = key
      · have e1 : (x.m.k.toList == key.toList) = true := by rw [hteq]; simpa using h1
        by_cases h2 : x.m.s ≤ s
        · have i2 : (x.m.s : Int) ≤ (s : Int) := by omega
          have HX : isK key (s + 1) x = true := by unfold isK; simp [h1]; omega
          have HRes0 := Lib.hid (find_here HU.out HNo.out HX)
          clear h1 hteq HX
          have z0 : W.cell? ⟨w.heap.size, 0, none⟩ = some (.string ⟨#[]⟩) := cell_of_row W _ 0 _ _ (0, 0) HBX.out
          have z1 : W.cell? ⟨w.heap.size, 1, none⟩ = some (.int .u64 0) := cell_of_row W _ 1 _ _ (0, 0) HBX.out
          have z2 : W.cell? ⟨w.heap.size, 2, none⟩ = some (.bool false) := cell_of_row W _ 2 _ _ (0, 0) HBX.out
          have z3 : W.cell? ⟨w.heap.size, 3, none⟩ = some (.string ⟨#[]⟩) := cell_of_row W _ 3 _ _ (0, 0) HBX.out
          have f0 : W.frozen? ⟨w.heap.size, 0, none⟩ = false := by simp [World.frozen?, HBX.out]
          have f1 : W.frozen? ⟨w.heap.size, 1, none⟩ = false := by simp [World.frozen?, HBX.out]
          have f2 : W.frozen? ⟨w.heap.size, 2, none⟩ = false := by simp [World.frozen?, HBX.out]
          have f3 : W.frozen? ⟨w.heap.size, 3, none⟩ = false := by simp [World.frozen?, HBX.out]
          have HFn := Lib.hid (four_set HBX.out HB.out (Nat.le_refl _) (.string x.m.k) (.int .u64 (x.m.s : Int)) (.bool x.m.g) (.string x.x))
          go_wp2
          clear z0 z1 z2 z3 f0 f1 f2 f3
          generalize (((W.setCell ⟨w.heap.size, 0, none⟩ (Value.string x.m.k)).setCell ⟨w.heap.size, 1, none⟩ (Value.int .u64 (x.m.s : Int))).setCell ⟨w.heap.size, 2, none⟩ (Value.bool x.m.g)).setCell ⟨w.heap.size, 3, none⟩ (Value.string x.x) = WF at *
          obtain ⟨hf, hbf⟩ := HFn.out
          have z0 : WF.cell? ⟨w.heap.size, 0, none⟩ = some (Value.string x.m.k) := cell_of_row WF _ 0 _ _ (0, 0) hf
          have z1 : WF.cell? ⟨w.heap.size, 1, none⟩ = some (Value.int .u64 (x.m.s : Int)) := cell_of_row WF _ 1 _ _ (0, 0) hf
          have z2 : WF.cell? ⟨w.heap.size, 2, none⟩ = some (Value.bool x.m.g) := cell_of_row WF _ 2 _ _ (0, 0) hf
          have z3 : WF.cell? ⟨w.heap.size, 3, none⟩ = some (Value.string x.x) := cell_of_row WF _ 3 _ _ (0, 0) hf
          exact bodyPost_ret (v := .tuple #[.agg #[(Value.string x.m.k), (Value.int .u64 (x.m.s : Int)), (Value.bool x.m.g), (Value.string x.x)], .bool true]) (by simp [results, Tryz.results34, go_sem, z0, z1, z2, z3]) rfl ⟨by rw [HRes0.out]; rfl, hbf⟩
        · have i2 : ¬ (x.m.s : Int) ≤ (s : Int) := by omega
          have HX : isK key (s + 1) x = false := by unfold isK; simp; omega
          have HN2 := Lib.hid (find_next HU.out HNo.out HX)
          clear h1 hteq HX
          go_wp2
          go_roundw
          case rel => exact ⟨k + 1, hlt, by go_num, HN2.out, trivial⟩
          case measure => simp [intOf]; omega
      · have e1 : (x.m.k.toList == key.toList) = false := by rw [hteq]; simpa using h1
        have HX : isK key (s + 1) x = false := by unfold isK; simp [h1]
        have HN2 := Lib.hid (find_next HU.out HNo.out HX)
        clear h1 hteq HX
        go_wp2
        go_roundw
        case rel => exact ⟨k + 1, hlt, by go_num, HN2.out, trivial⟩
        case measure => simp [intOf]; omega
    · obtain rfl : n = k := by omega
      rw [HF.out] at HNo
      have HRes0 := Lib.hid HNo.out
      have z0 : W.cell? ⟨w.heap.size, 0, none⟩ = some (.string ⟨#[]⟩) := cell_of_row W _ 0 _ _ (0, 0) HBX.out
      have z1 : W.cell? ⟨w.heap.size, 1, none⟩ = some (.int .u64 0) := cell_of_row W _ 1 _ _ (0, 0) HBX.out
      have z2 : W.cell? ⟨w.heap.size, 2, none⟩ = some (.bool false) := cell_of_row W _ 2 _ _ (0, 0) HBX.out
      have z3 : W.cell? ⟨w.heap.size, 3, none⟩ = some (.string ⟨#[]⟩) := cell_of_row W _ 3 _ _ (0, 0) HBX.out
      have f0 : W.frozen? ⟨w.heap.size, 0, none⟩ = false := by simp [World.frozen?, HBX.out]
      have f1 : W.frozen? ⟨w.heap.size, 1, none⟩ = false := by simp [World.frozen?, HBX.out]
      have f2 : W.frozen? ⟨w.heap.size, 2, none⟩ = false := by simp [World.frozen?, HBX.out]
      have f3 : W.frozen? ⟨w.heap.size, 3, none⟩ = false := by simp [World.frozen?, HBX.out]
      have HFn := Lib.hid (four_set HBX.out HB.out (Nat.le_refl _) (.string ⟨#[]⟩) (.int .u64 0) (.bool false) (.string ⟨#[]⟩))
      go_wp2
      clear z0 z1 z2 z3 f0 f1 f2 f3
      generalize (((W.setCell ⟨w.heap.size, 0, none⟩ (Value.string ⟨#[]⟩)).setCell ⟨w.heap.size, 1, none⟩ (Value.int .u64 0)).setCell ⟨w.heap.size, 2, none⟩ (Value.bool false)).setCell ⟨w.heap.size, 3, none⟩ (Value.string ⟨#[]⟩) = WF at *
      obtain ⟨hf, hbf⟩ := HFn.out
      have z0 : WF.cell? ⟨w.heap.size, 0, none⟩ = some (Value.string ⟨#[]⟩) := cell_of_row WF _ 0 _ _ (0, 0) hf
      have z1 : WF.cell? ⟨w.heap.size, 1, none⟩ = some (Value.int .u64 0) := cell_of_row WF _ 1 _ _ (0, 0) hf
      have z2 : WF.cell? ⟨w.heap.size, 2, none⟩ = some (Value.bool false) := cell_of_row WF _ 2 _ _ (0, 0) hf
      have z3 : WF.cell? ⟨w.heap.size, 3, none⟩ = some (Value.string ⟨#[]⟩) := cell_of_row WF _ 3 _ _ (0, 0) hf
      exact bodyPost_ret (v := .tuple #[.agg #[(Value.string ⟨#[]⟩), (Value.int .u64 0), (Value.bool false), (Value.string ⟨#[]⟩)], .bool false]) (by simp [results, Tryz.results34, go_sem, z0, z1, z2, z3]) rfl ⟨by rw [HRes0.out]; rfl, hbf⟩

/-- those that are not ahead of m -/
def notB (m : Mk) (S : List En) : List En := S.filter fun e => !bef m e
theorem notB_next {S : List En} {k : Nat} {x : En} (m : Mk) (h : S[k]? = some x) : notB m (S.take (k + 1)) = notB m (S.take k) ++ (if bef m x then [] else [x]) := by
  unfold notB
  rw [List.take_add_one, h, List.filter_append]
  cases hb : bef m x <;> simp [hb]
theorem notB_from {S : List En} (hr : Rise S) (m : Mk) : notB m S = fromM S m := by
  unfold notB fromM
  conv => lhs; rw [← List.takeWhile_append_dropWhile (p := bef m) (l := S), List.filter_append]
  rw [List.filter_eq_nil_iff.2 (fun e he => by rw [take_while_mem _ _ _ he]; decide), List.nil_append, List.filter_eq_self.2 fun e he => ?_]
  have := hr.rest m e he
  unfold bef
  simpa using this
theorem notB_le (m : Mk) (S : List En) : (notB m S).length ≤ S.length := List.length_filter_le _ _
theorem notB_pre (m : Mk) (S : List En) (k : Nat) : notB m (S.take k) <+: notB m S := by
  refine ⟨notB m (S.drop k), ?_⟩
  unfold notB
  rw [← List.filter_append, List.take_append_drop]
def RFrom (W : World) (S : List En) (mk : Mk) (most : Int) (n : Nat) (v i : Value) (wr : World) : Prop :=
  ∃ k, k ≤ n ∧ i = .int .i64 (k : Int) ∧ wr.ownsRow W.heap.size 83 4 v (notB mk (S.take k)).length (ecs (notB mk (S.take k))) ∧ Below W.heap.size W wr ∧ (notB mk (S.take k) = [] ∨ ((notB mk (S.take k)).length : Int) ≤ most)
/-- what the region of a round reads -/
abbrev RFromS (m p b o : Nat) (A : Option Addr) (n c : Nat) (x mk : Mk) (w : World) : Prop :=
  w.cell? ⟨m, 0, none⟩ = some (.slice A n c) ∧ w.cell? ⟨b, o, none⟩ = some (.string x.k) ∧ w.cell? ⟨b, o + 1, none⟩ = some (.int .u64 (x.s : Int)) ∧ w.cell? ⟨b, o + 2, none⟩ = some (.bool x.g) ∧
  w.cell? ⟨p, 0, none⟩ = some (.string mk.k) ∧ w.cell? ⟨p, 1, none⟩ = some (.int .u64 (mk.s : Int)) ∧ w.cell? ⟨p, 2, none⟩ = some (.bool mk.g)
theorem RFromS.below {m p b o : Nat} {A : Option Addr} {n c : Nat} {x mk : Mk} {w w' : World} (h : RFromS m p b o A n c x mk w) (hb : Below w.heap.size w w') : RFromS m p b o A n c x mk w' := by
  have t : ∀ {a : Addr} {v : Value}, w.cell? a = some v → w'.cell? a = some v := fun {a v} hv => (hb.cell (World.block_lt_of_cell? w _ hv)).trans hv
  obtain ⟨h0, h1, h2, h3, h4, h5, h6⟩ := h
  exact ⟨t h0, t h1, t h2, t h3, t h4, t h5, t h6⟩
set_option maxHeartbeats 4000000 in
theorem rfrom_ok (h : RT w base m S) (hr : Rise S) (hn : S.length ≤ 4096) (hk : ∀ e ∈ S, e.m.k.size ≤ 1000000) (mk : Mk) (hmk : mk.k.size ≤ 1000000) (most : Int) :
    Calls Tryz.prog 37 #[rp m, mk.v, .int .i64 most] w fun e w' => ∃ v, e = .returned v ∧ w'.ownsRow w.heap.size 83 4 v (fromE S mk most).length (ecs (fromE S mk most)) ∧ Below w.heap.size w w' := by
  obtain ⟨i0, hi, hz0, hz1, hz2⟩ := info_parts entry_info
  obtain ⟨b0, b1, b2, hB, hz⟩ := mkW_facts w mk
  obtain ⟨W, hW⟩ : ∃ W, w.alloc (.cells #[.string mk.k, .int .u64 (mk.s : Int), .bool mk.g] 81) = W := ⟨_, rfl⟩
  rw [show mkW w mk = W from hW] at b0 b1 b2 hB hz
  have HT := Lib.hid (h.below hB)
  have HB := Lib.hid hB
  have HBm := Lib.hid (And.intro b0 (And.intro b1 b2))
  have HR := Lib.hid hr; have HK := Lib.hid hk
  have HC : Hid (∀ (W' : World) (x : En), x ∈ S → Calls Tryz.prog 119 #[x.m.v, mk.v] W' fun e w' => e = .returned (.int .i64 (cmpM x.m mk)) ∧ Below W'.heap.size W' w') := fun W' x hx => rcmp_any x.m mk W' (hk x hx) hmk
  have hres : ∀ L, L = (notB mk S).take most.toNat → fromE S mk most = L := fun L hL => by unfold fromE; rw [← notB_from hr, hL]
  have HRes := Lib.hid hres
  have HF : Hid (S.take S.length = S) := List.take_of_length_le (Nat.le_refl _)
  obtain ⟨n, hnn⟩ : ∃ n, S.length = n := ⟨_, rfl⟩
  have HN := Lib.hid hnn
  rw [hnn] at hn
  have HW := Lib.hid hW
  clear h hr hk hB hz b0 b1 b2 hres hnn hW
  unfold Mk.v at HC ⊢
  go_enter Tryz.func37, Tryz.ntmps37
  go_wp2
  rw [HW.out]
  clear HW
  have HR0 : Hid (RFrom W S mk most n (.slice none 0 0) (.int .i64 0) W) := ⟨0, Nat.zero_le _, rfl, World.ownsRow_nil _ _ _ _, Below.refl _ _, .inl rfl⟩
  go_loopw [7, 8] (fun v i wr => RFrom W S mk most n v i wr) (fun _ i _ => n - (intOf i).toNat)
  case atStart => exact HR0.out
  case round =>
    clear HR0
    obtain ⟨k, hk, rfl, hown, hb, hP⟩ := hrel
    obtain ⟨L, hL⟩ : ∃ L, notB mk (S.take k) = L := ⟨_, rfl⟩
    rw [hL] at hown hP
    obtain ⟨Av, cv, rfl, hnc, _⟩ := own_shape hown
    have hLl : L.length ≤ 4096 := by
      have := notB_le mk (S.take k)
      rw [hL, List.length_take] at this; omega
    have HLe := Lib.hid hL
    have HP := Lib.hid hP
    have HF2 : Hid (Below w.heap.size w wr) := HB.out.trans (hb.mono HB.out.size)
    obtain ⟨A, c, c0, _, _, _, hl⟩ := (HT.out.below hb).at_
    rw [HN.out] at c0 hl
    by_cases hlt : k < n
    · have hi1 : (k : Int) < (n : Int) := by omega
      have hi0 : (0 : Int) ≤ (k : Int) := by omega
      by_cases hmo : (L.length : Int) < most
      · obtain ⟨b, o, x, rfl, hbB, hu, d0, d1, d2, d3⟩ := hl.entry hlt
        have hxm : x ∈ S := List.mem_of_getElem? hu
        have HU := Lib.hid hu
        have HOW := Lib.hid hown; have HBl := Lib.hid hb; have HLi := Lib.hid hl
        obtain ⟨b0', b1', b2'⟩ := HBm.out
        have hWs : w.heap.size < W.heap.size := World.block_lt_of_cell? W _ b0'
        have m0 := (hb.cell (p := ⟨w.heap.size, 0, none⟩) hWs).trans b0'
        have m1 := (hb.cell (p := ⟨w.heap.size, 1, none⟩) hWs).trans b1'
        have m2 := (hb.cell (p := ⟨w.heap.size, 2, none⟩) hWs).trans b2'
        have S0 : RFromS m w.heap.size b (o + k * 4) (some ⟨b, o, none⟩) n c x.m mk wr := ⟨c0, d0, d1, d2, m0, m1, m2⟩
        have hd1 : Below wr.heap.size wr wr.drew := ⟨rfl, rfl, rfl, Nat.le_refl _, fun _ _ => rfl⟩
        have HSd := Lib.hid (S0.below hd1)
        have HC1 := Lib.hid (HC.out wr.drew x hxm)
        have HNx := notB_next mk hu
        rw [hL] at HNx
        have HNxt := Lib.hid HNx
        clear hL hu hown hb hl hP d0 d1 d2 d3 m0 m1 m2 S0 b0' b1' b2' hxm HNx
        go_wp2
        have Sd := HSd.out
        clear c0
        go_region_held3 (fun w' => RFromS m w.heap.size b (o + k * 4) (some ⟨b, o, none⟩) n c x.m mk w') (first | exact Sd | exact S1)
          (first
            | (go_at_call 119; refine HC1.out.mono ?_; rintro e w1 ⟨rfl, hb1⟩; have S1 := Sd.below hb1)
            | fail)
        have hbw : Below wr.heap.size wr w1 := hd1.trans hb1
        have HOW1 := Lib.hid (own_below HOW.out hbw)
        have HB1 := Lib.hid (HBl.out.trans (hbw.mono HBl.out.size))
        obtain ⟨c0, d0, d1, d2, _⟩ := S1
        have d3 : w1.cell? ⟨b, o + k * 4 + 3, none⟩ = some (.string x.x) := by
          obtain ⟨b', o', x', e1, _, hu', _, _, _, d3'⟩ := (HLi.out.below hbw).entry hlt
          injection e1 with e1
          injection e1 with e1 e2
          subst e1 e2
          rw [HU.out] at hu'
          injection hu' with hu'
          subst hu'
          exact d3'
        clear Sd hb1 hd1 hbw HLi HOW HBl
        by_cases hbe : cmpM x.m mk < 0
        · have hbt : bef mk x = true := by unfold bef; simpa using hbe
          rw [hbt, if_pos rfl, List.append_nil] at HNxt
          have hcmp : ¬ (0 : Int) ≤ cmpM x.m mk := by omega
          clear hbt d0 d1 d2 d3 c0
          go_wp2
          go_roundw
          case rel => exact ⟨k + 1, hlt, by go_num, by rw [HNxt.out]; exact HOW1.out, HB1.out, by rw [HNxt.out]; exact HP.out⟩
          case measure => simp [intOf]; omega
        · have hbt : bef mk x = false := by unfold bef; simpa using hbe
          rw [hbt, if_neg (by decide)] at HNxt
          have hcmp : (0 : Int) ≤ cmpM x.m mk := by omega
          have hba := (enW_facts w1 x).2.2.2.2.1
          have HOA := Lib.hid (own_below HOW1.out hba)
          have HBA := Lib.hid (HB1.out.trans (hba.mono HB1.out.size))
          have HLA := Lib.hid (en_lies w1 x)
          have hbs : W.heap.size ≤ w1.heap.size := HB1.out.size
          clear hbt hba
          go_wp2_with (at_builtin; refine wpList_app _ rfl _ _ 76 rfl W.heap.size 83 i0 _ 4 48 Tryz.underlying76 hi hz0 hz1 hz2 rfl (by decide) (.slice Av L.length cv) L.length (ecs L) rfl HOA.out (w1.heap.size + 1) (some ⟨w1.heap.size, 0, none⟩) 1 1 (ecs [x]) rfl HLA.out (ecs_one _) (by unfold maxLen; omega) (by omega) (by simp; omega) ?_)
          intro v3 w3 hown3 hg3 _
          have hb3 := HBA.out.grown hg3 HBA.out.size (fun k hk => (HOA.out.lt k hk).1)
          have HB3 := Lib.hid hb3
          have HO3 : Hid (w3.ownsRow W.heap.size 83 4 v3 (notB mk (S.take (k + 1))).length (ecs (notB mk (S.take (k + 1))))) := by
            unfold Hid
            rw [HNxt.out, List.length_append, List.length_singleton, show ecs (L ++ [x]) = ecs L ++ ecs [x] from by simp [ecs]]
            exact hown3
          have HP3 : Hid (notB mk (S.take (k + 1)) = [] ∨ ((notB mk (S.take (k + 1))).length : Int) ≤ most) := .inr (by rw [HNxt.out, List.length_append, List.length_singleton]; omega)
          clear hown3 hg3 hb3 HOA HLA HBA c0 d0 d1 d2 d3 HOW1 HB1
          go_wp2
          go_roundw
          case rel => exact ⟨k + 1, hlt, by go_num, HO3.out, HB3.out, HP3.out⟩
          case measure => simp [intOf]; omega
      · have HA : Hid (wr.ownsRow w.heap.size 83 4 (.slice Av L.length cv) (fromE S mk most).length (ecs (fromE S mk most))) := by
          have e2 : fromE S mk most = L := by
            refine HRes.out L ?_
            have hpre : L <+: notB mk S := by rw [← hL]; exact notB_pre mk S k
            have e3 : L.length = most.toNat := by
              rcases hP with h0 | h0
              · rw [h0] at hmo ⊢; simp at hmo ⊢; omega
              · omega
            obtain ⟨t, ht⟩ := hpre
            rw [← ht, ← e3, List.take_left']; rfl
          unfold Hid
          rw [e2]; exact own_base hown HB.out.size
        clear hL hown hb hl hP
        go_wp2
        go_ret
        exact ⟨_, rfl, HA.out, HF2.out⟩
    · obtain rfl : k = n := by omega
      have HA : Hid (wr.ownsRow w.heap.size 83 4 (.slice Av L.length cv) (fromE S mk most).length (ecs (fromE S mk most))) := by
        have e2 : fromE S mk most = L := by
          refine HRes.out L ?_
          have e4 : notB mk S = L := by rw [← hL, ← HN.out, HF.out]
          rw [e4]
          rcases hP with h0 | h0
          · rw [h0]; simp
          · exact (List.take_of_length_le (by omega)).symm
        unfold Hid
        rw [e2]; exact own_base hown HB.out.size
      clear hL hown hb hl hP
      go_wp2
      go_ret
      exact ⟨_, rfl, HA.out, HF2.out⟩
end
end Go.Proofs.YtopcnlophmplgaaGreatDoor
