/-
  Contracts of package blocks: isValid, makeBlock; commonPrefix.
  Contracts of package blocks: makeBlock; commonPrefix.
-/
import Derived.Test.YtbbimfbkllellaaGreatDoorBlkM
import Derived.Test.YtbbimfbkllellaaGreatDoorVis
import Derived.Test.YtbbimfbkllellaaGreatDoorEnES
import Derived.Test.YtbbimfbkllellaaGreatDoorMemM
import Derived.Test.YtbbimfbkllellaaGreatDoorCmpAB
import Derived.Deep.Cut
import Derived.Deep.RegionHeld3
namespace Go.Proofs.YtbbimfbkllellaaGreatDoor
open Go.RowKit
set_option linter.unusedVariables false
set_option maxRecDepth 100000

theorem bvalid_any (x : En) (w : World) (hk : x.m.k.size ≤ 140737488351232) (hx : x.x.size ≤ 140737488351232) :
    Calls Tryz.prog 69 #[x.v] w fun e w' => e = .returned (.bool (fineE x)) ∧ Below w.heap.size w w' := by
  unfold fineE En.v
  obtain ⟨b0, b1, b2, b3, hB, _⟩ := enW_facts w x
  have HB := Lib.hid hB
  have HC : Hid (∀ W, Calls Tryz.prog 115 #[.string x.m.k] W fun e w' => e = .returned (.bool (chk x.m.k)) ∧ W = w') := fun W => chk_any x.m.k W (by omega)
  clear hB b0 b1 b2 b3
  obtain ⟨c, hc⟩ : ∃ c, chk x.m.k = c := ⟨_, rfl⟩
  rw [hc] at HC ⊢
  clear hc
  cases c
  · go_enter Tryz.func69, Tryz.ntmps69
    go_wp2_with (go_at_call 115; refine (HC.out _).mono ?_; rintro e w' ⟨rfl, rfl⟩)
    go_ret
    exact ⟨rfl, HB.out⟩
  · by_cases h2 : x.x.size ≤ 256
    · have i2 : (x.x.size : Int) ≤ 256 := by omega
      have d2 : decide (x.x.size ≤ 256) = true := decide_eq_true h2
      rw [d2]
      cases h3 : x.x.toList.isEmpty <;> cases h4 : x.m.g <;>
      · go_enter Tryz.func69, Tryz.ntmps69
        go_wp2_with (go_at_call 115; refine (HC.out _).mono ?_; rintro e w' ⟨rfl, rfl⟩)
        go_ret
        exact ⟨rfl, by rw [← h4]; exact HB.out⟩
    · have i2 : ¬ (x.x.size : Int) ≤ 256 := by omega
      have d2 : decide (x.x.size ≤ 256) = false := decide_eq_false h2
      rw [d2]
      go_enter Tryz.func69, Tryz.ntmps69
      go_wp2_with (go_at_call 115; refine (HC.out _).mono ?_; rintro e w' ⟨rfl, rfl⟩)
      go_ret
      exact ⟨rfl, HB.out⟩

/-- a variable that holds the list: a block of one cell -/
def LBox (w : World) (g : Nat) (A : Option Addr) (n c : Nat) : Prop := Box w g 27 (.slice A n c)
/-- what the region of makeBlock's function reads: the box of the entry, the list, the mark ahead -/
abbrev MB0 (g h : Nat) (A : Option Addr) (n c : Nat) (x : En) (w : World) : Prop :=
  w.cell? ⟨h, 0, none⟩ = some (.string x.m.k) ∧ w.cell? ⟨h, 1, none⟩ = some (.int .u64 (x.m.s : Int)) ∧ w.cell? ⟨h, 2, none⟩ = some (.bool x.m.g) ∧ w.cell? ⟨h, 3, none⟩ = some (.string x.x) ∧
  w.cell? ⟨g, 0, none⟩ = some (.slice A n c)
abbrev MB (g h b o : Nat) (A : Option Addr) (n c : Nat) (x : En) (m : Mk) (w : World) : Prop :=
  w.cell? ⟨h, 0, none⟩ = some (.string x.m.k) ∧ w.cell? ⟨h, 1, none⟩ = some (.int .u64 (x.m.s : Int)) ∧ w.cell? ⟨h, 2, none⟩ = some (.bool x.m.g) ∧ w.cell? ⟨h, 3, none⟩ = some (.string x.x) ∧
  w.cell? ⟨g, 0, none⟩ = some (.slice A n c) ∧ w.cell? ⟨b, o, none⟩ = some (.string m.k) ∧ w.cell? ⟨b, o + 1, none⟩ = some (.int .u64 (m.s : Int)) ∧ w.cell? ⟨b, o + 2, none⟩ = some (.bool m.g)
theorem MB0.below {g h : Nat} {A : Option Addr} {n c : Nat} {x : En} {w w' : World} (H : MB0 g h A n c x w) (hb : Below w.heap.size w w') : MB0 g h A n c x w' := by
  have up : ∀ {p v}, w.cell? p = some v → w'.cell? p = some v := fun {p v} h => (hb.cell (World.block_lt_of_cell? w _ h)).trans h
  exact ⟨up H.1, up H.2.1, up H.2.2.1, up H.2.2.2.1, up H.2.2.2.2⟩
theorem MB.below {g h b o : Nat} {A : Option Addr} {n c : Nat} {x : En} {m : Mk} {w w' : World} (H : MB g h b o A n c x m w) (hb : Below w.heap.size w w') : MB g h b o A n c x m w' := by
  have up : ∀ {p v}, w.cell? p = some v → w'.cell? p = some v := fun {p v} h => (hb.cell (World.block_lt_of_cell? w _ h)).trans h
  exact ⟨up H.1, up H.2.1, up H.2.2.1, up H.2.2.2.1, up H.2.2.2.2.1, up H.2.2.2.2.2.1, up H.2.2.2.2.2.2.1, up H.2.2.2.2.2.2.2⟩

/-- what is asked of a list of entries in memory: where it lies, how great they are -/
structure EL (w : World) (B : Nat) (A : Option Addr) (n c : Nat) (S : List En) : Prop where
  lies : Lies w B 4 A n (ecs S)
  B : B ≤ w.heap.size
  nc : n ≤ c
  cc : c ≤ maxLen
  sz : ∀ e ∈ S, e.m.k.size ≤ 140737488351232 ∧ e.x.size ≤ 140737488351232
theorem EL.below {w w' : World} {B n c : Nat} {A : Option Addr} {S : List En} (h : EL w B A n c S) (hb : Below w.heap.size w w') : EL w' B A n c S :=
  ⟨h.lies.keep fun p hp => hb.cell (Nat.lt_of_lt_of_le hp h.B), Nat.le_trans h.B hb.size, h.nc, h.cc, h.sz⟩

set_option maxHeartbeats 4000000 in
theorem mb1_any (S : List En) (k : Nat) (x : En) (hx : S[k]? = some x) (g : Nat) (A : Option Addr) (n c B : Nat) (W : World) (hL : EL W B A n c S) (hb : LBox W g A n c) :
    Calls Tryz.prog 68 #[.int .i64 (k : Int), x.v, .pointer (some ⟨g, 0, none⟩)] W fun e W' => e = .returned (.bool (goodAt S k)) ∧ Below W.heap.size W W' := by
  have hxs := hL.sz x (List.mem_of_getElem? hx)
  have hln := hL.lies.elen
  have hkn : k < n := by have := (List.getElem?_eq_some_iff.1 hx).1; omega
  obtain ⟨b0, b1, b2, b3, hB, hz⟩ := enW_facts W x
  obtain ⟨W1, hW⟩ : ∃ W1, enW W x = W1 := ⟨_, rfl⟩
  rw [hW] at b0 b1 b2 b3 hB hz
  have hb1 : LBox W1 g A n c := hb.below hB hb.lt
  have hM0 : MB0 g W.heap.size A n c x W1 := ⟨b0, b1, b2, b3, hb1.cell⟩
  have hd1 : Below W1.heap.size W1 W1.drew := ⟨rfl, rfl, rfl, Nat.le_refl _, fun _ _ => rfl⟩
  have HD := Lib.hid (hB.trans (hd1.mono hB.size))
  have HV := Lib.hid (bvalid_any x W1.drew hxs.1 hxs.2)
  have HW : Hid (W.alloc (.cells #[.string x.m.k, .int .u64 (x.m.s : Int), .bool x.m.g, .string x.x] 59) = W1) := hW
  unfold En.v at HV ⊢
  by_cases hf : fineE x = false
  · rw [hf] at HV
    have Sd : MB0 g W.heap.size A n c x W1.drew := MB0.below hM0 hd1
    have HR : Hid (goodAt S k = false) := by unfold Hid; rw [goodAt_some hx, hf]; rfl
    rw [HR.out]
    clear hx hL hb hxs hln b0 b1 b2 b3 hB hz hb1 hM0 hd1 hW hf HR
    go_enter Tryz.func68, Tryz.ntmps68
    go_wp2_with fail
    rw [HW.out]
    refine wp_region_held_drew (S := (fun w' => MB0 g W.heap.size A n c x w')) (by kernel_rfl) Sd (fun hHeld => ?_)
    refine wpAnyH_take (i := 0) (oi := _) (v := ?v0) rfl (by kernel_rfl) (by kernel_rfl) (by kernel_rfl) (fun _ _ _ h => h) (Or.inl ⟨by rfl, ?y0⟩) (by assumption) ?r0
    case y0 => (intro w' hSw; (try dsimp only at hSw); go_simp <;> with_reducible rfl)
    try simp only [Act.put, List.setIfInBounds_toArray, List.set_cons_zero, List.set_cons_succ, List.getElem_toArray, List.getElem_cons_zero]
    refine wpAnyH_ready (rs := [1]) (by kernel_rfl) (by simp) ?_
    refine AllReadyH.cons (o := _) rfl (fun K hK => ?_) AllReadyH.nil
    go_simp
    go_at_call 69
    refine HV.out.mono ?_
    rintro e w1 ⟨rfl, hv1⟩
    have S1 := MB0.below Sd hv1
    refine hK.out _ _ S1 (fun hHeld => ?_)
    clear hK K
    try simp only [Act.put, List.setIfInBounds_toArray, List.set_cons_zero, List.set_cons_succ, List.getElem_toArray, List.getElem_cons_zero, List.getElem_cons_succ]
    refine wpAnyH_take (i := 2) (oi := _) (v := ?v1) rfl (by kernel_rfl) (by kernel_rfl) (by kernel_rfl) (fun _ _ _ h => h) (Or.inl ⟨by rfl, ?y1⟩) (by assumption) ?r1
    case y1 => (intro w' hSw; (try dsimp only at hSw); go_simp <;> with_reducible rfl)
    try simp only [Act.put, List.setIfInBounds_toArray, List.set_cons_zero, List.set_cons_succ, List.getElem_toArray, List.getElem_cons_zero, List.getElem_cons_succ]
    refine wpAnyH_take (i := 3) (oi := _) (v := undef) rfl (by kernel_rfl) (by kernel_rfl) (by kernel_rfl) (fun _ _ _ h => h) (Or.inr ⟨by rfl, rfl⟩) (by assumption) ?_
    try simp only [Act.put, List.setIfInBounds_toArray, List.set_cons_zero, List.set_cons_succ, List.getElem_toArray, List.getElem_cons_zero, List.getElem_cons_succ]
    refine wpAnyH_take (i := 4) (oi := _) (v := undef) rfl (by kernel_rfl) (by kernel_rfl) (by kernel_rfl) (fun _ _ _ h => h) (Or.inr ⟨by rfl, rfl⟩) (by assumption) ?_
    try simp only [Act.put, List.setIfInBounds_toArray, List.set_cons_zero, List.set_cons_succ, List.getElem_toArray, List.getElem_cons_zero, List.getElem_cons_succ]
    refine wpAnyH_take (i := 5) (oi := _) (v := undef) rfl (by kernel_rfl) (by kernel_rfl) (by kernel_rfl) (fun _ _ _ h => h) (Or.inr ⟨by rfl, rfl⟩) (by assumption) ?_
    try simp only [Act.put, List.setIfInBounds_toArray, List.set_cons_zero, List.set_cons_succ, List.getElem_toArray, List.getElem_cons_zero, List.getElem_cons_succ]
    refine wpAnyH_take (i := 6) (oi := _) (v := undef) rfl (by kernel_rfl) (by kernel_rfl) (by kernel_rfl) (fun _ _ _ h => h) (Or.inr ⟨by rfl, rfl⟩) (by assumption) ?_
    try simp only [Act.put, List.setIfInBounds_toArray, List.set_cons_zero, List.set_cons_succ, List.getElem_toArray, List.getElem_cons_zero, List.getElem_cons_succ]
    refine wpAnyH_take (i := 7) (oi := _) (v := undef) rfl (by kernel_rfl) (by kernel_rfl) (by kernel_rfl) (fun _ _ _ h => h) (Or.inr ⟨by rfl, rfl⟩) (by assumption) ?_
    try simp only [Act.put, List.setIfInBounds_toArray, List.set_cons_zero, List.set_cons_succ, List.getElem_toArray, List.getElem_cons_zero, List.getElem_cons_succ]
    refine wpAnyH_take (i := 8) (oi := _) (v := undef) rfl (by kernel_rfl) (by kernel_rfl) (by kernel_rfl) (fun _ _ _ h => h) (Or.inr ⟨by rfl, rfl⟩) (by assumption) ?_
    try simp only [Act.put, List.setIfInBounds_toArray, List.set_cons_zero, List.set_cons_succ, List.getElem_toArray, List.getElem_cons_zero, List.getElem_cons_succ]
    refine wpAnyH_take (i := 9) (oi := _) (v := undef) rfl (by kernel_rfl) (by kernel_rfl) (by kernel_rfl) (fun _ _ _ h => h) (Or.inr ⟨by rfl, rfl⟩) (by assumption) ?_
    try simp only [Act.put, List.setIfInBounds_toArray, List.set_cons_zero, List.set_cons_succ, List.getElem_toArray, List.getElem_cons_zero, List.getElem_cons_succ]
    refine wpAnyH_take (i := 10) (oi := _) (v := undef) rfl (by kernel_rfl) (by kernel_rfl) (by kernel_rfl) (fun _ _ _ h => h) (Or.inr ⟨by rfl, rfl⟩) (by assumption) ?_
    try simp only [Act.put, List.setIfInBounds_toArray, List.set_cons_zero, List.set_cons_succ, List.getElem_toArray, List.getElem_cons_zero, List.getElem_cons_succ]
    refine wpAnyH_take (i := 11) (oi := _) (v := undef) rfl (by kernel_rfl) (by kernel_rfl) (by kernel_rfl) (fun _ _ _ h => h) (Or.inr ⟨by rfl, rfl⟩) (by assumption) ?_
    try simp only [Act.put, List.setIfInBounds_toArray, List.set_cons_zero, List.set_cons_succ, List.getElem_toArray, List.getElem_cons_zero, List.getElem_cons_succ]
    refine wpAnyH_take (i := 12) (oi := _) (v := undef) rfl (by kernel_rfl) (by kernel_rfl) (by kernel_rfl) (fun _ _ _ h => h) (Or.inr ⟨by rfl, rfl⟩) (by assumption) ?_
    try simp only [Act.put, List.setIfInBounds_toArray, List.set_cons_zero, List.set_cons_succ, List.getElem_toArray, List.getElem_cons_zero, List.getElem_cons_succ]
    refine wpAnyH_take (i := 13) (oi := _) (v := undef) rfl (by kernel_rfl) (by kernel_rfl) (by kernel_rfl) (fun _ _ _ h => h) (Or.inr ⟨by rfl, rfl⟩) (by assumption) ?_
    try simp only [Act.put, List.setIfInBounds_toArray, List.set_cons_zero, List.set_cons_succ, List.getElem_toArray, List.getElem_cons_zero, List.getElem_cons_succ]
    refine wpAnyH_take (i := 14) (oi := _) (v := undef) rfl (by kernel_rfl) (by kernel_rfl) (by kernel_rfl) (fun _ _ _ h => h) (Or.inr ⟨by rfl, rfl⟩) (by assumption) ?_
    try simp only [Act.put, List.setIfInBounds_toArray, List.set_cons_zero, List.set_cons_succ, List.getElem_toArray, List.getElem_cons_zero, List.getElem_cons_succ]
    refine wpAnyH_take (i := 15) (oi := _) (v := undef) rfl (by kernel_rfl) (by kernel_rfl) (by kernel_rfl) (fun _ _ _ h => h) (Or.inr ⟨by rfl, rfl⟩) (by assumption) ?_
    try simp only [Act.put, List.setIfInBounds_toArray, List.set_cons_zero, List.set_cons_succ, List.getElem_toArray, List.getElem_cons_zero, List.getElem_cons_succ]
    refine wpAnyH_take (i := 16) (oi := _) (v := undef) rfl (by kernel_rfl) (by kernel_rfl) (by kernel_rfl) (fun _ _ _ h => h) (Or.inr ⟨by rfl, rfl⟩) (by assumption) ?_
    try simp only [Act.put, List.setIfInBounds_toArray, List.set_cons_zero, List.set_cons_succ, List.getElem_toArray, List.getElem_cons_zero, List.getElem_cons_succ]
    refine wpAnyH_take (i := 17) (oi := _) (v := ?v16) rfl (by kernel_rfl) (by kernel_rfl) (by kernel_rfl) (fun _ _ _ h => h) (Or.inl ⟨by rfl, ?y16⟩) (by assumption) ?r16
    case y16 => (intro w' hSw; (try dsimp only at hSw); go_simp <;> with_reducible rfl)
    try simp only [Act.put, List.setIfInBounds_toArray, List.set_cons_zero, List.set_cons_succ, List.getElem_toArray, List.getElem_cons_zero, List.getElem_cons_succ]
    refine wpAnyH_take (i := 18) (oi := _) (v := ?v17) rfl (by kernel_rfl) (by kernel_rfl) (by kernel_rfl) (fun _ _ _ h => h) (Or.inl ⟨by rfl, ?y17⟩) (by assumption) ?r17
    case y17 => (intro w' hSw; (try dsimp only at hSw); go_simp <;> with_reducible rfl)
    try simp only [Act.put, List.setIfInBounds_toArray, List.set_cons_zero, List.set_cons_succ, List.getElem_toArray, List.getElem_cons_zero, List.getElem_cons_succ]
    refine wpAnyH_done (by kernel_rfl) ?_ _
    have R := Lib.hid (HD.out.trans (hv1.mono HD.out.size))
    clear S1 Sd hv1
    go_wp2
    go_ret
    exact ⟨rfl, R.out⟩
  · have hf : fineE x = true := by simpa using hf
    rw [hf] at HV
    by_cases hk : k = 0
    · subst hk
      have Sd : MB0 g W.heap.size A n c x W1.drew := MB0.below hM0 hd1
      have HR : Hid (goodAt S 0 = true) := by unfold Hid; rw [goodAt_some hx, hf]; rfl
      rw [HR.out]
      clear hx hL hb hxs hln b0 b1 b2 b3 hB hz hb1 hM0 hd1 hW hf HR
      go_enter Tryz.func68, Tryz.ntmps68
      go_wp2_with fail
      rw [HW.out]
      refine wp_region_held_drew (S := (fun w' => MB0 g W.heap.size A n c x w')) (by kernel_rfl) Sd (fun hHeld => ?_)
      refine wpAnyH_take (i := 0) (oi := _) (v := ?v18) rfl (by kernel_rfl) (by kernel_rfl) (by kernel_rfl) (fun _ _ _ h => h) (Or.inl ⟨by rfl, ?y18⟩) (by assumption) ?r18
      case y18 => (intro w' hSw; (try dsimp only at hSw); go_simp <;> with_reducible rfl)
      try simp only [Act.put, List.setIfInBounds_toArray, List.set_cons_zero, List.set_cons_succ, List.getElem_toArray, List.getElem_cons_zero]
      refine wpAnyH_ready (rs := [1]) (by kernel_rfl) (by simp) ?_
      refine AllReadyH.cons (o := _) rfl (fun K hK => ?_) AllReadyH.nil
      go_simp
      go_at_call 69
      refine HV.out.mono ?_
      rintro e w1 ⟨rfl, hv1⟩
      have S1 := MB0.below Sd hv1
      refine hK.out _ _ S1 (fun hHeld => ?_)
      clear hK K
      try simp only [Act.put, List.setIfInBounds_toArray, List.set_cons_zero, List.set_cons_succ, List.getElem_toArray, List.getElem_cons_zero, List.getElem_cons_succ]
      refine wpAnyH_take (i := 2) (oi := _) (v := ?v19) rfl (by kernel_rfl) (by kernel_rfl) (by kernel_rfl) (fun _ _ _ h => h) (Or.inl ⟨by rfl, ?y19⟩) (by assumption) ?r19
      case y19 => (intro w' hSw; (try dsimp only at hSw); go_simp <;> with_reducible rfl)
      try simp only [Act.put, List.setIfInBounds_toArray, List.set_cons_zero, List.set_cons_succ, List.getElem_toArray, List.getElem_cons_zero, List.getElem_cons_succ]
      refine wpAnyH_take (i := 3) (oi := _) (v := ?v20) rfl (by kernel_rfl) (by kernel_rfl) (by kernel_rfl) (fun _ _ _ h => h) (Or.inl ⟨by rfl, ?y20⟩) (by assumption) ?r20
      case y20 => (intro w' hSw; (try dsimp only at hSw); go_simp <;> with_reducible rfl)
      try simp only [Act.put, List.setIfInBounds_toArray, List.set_cons_zero, List.set_cons_succ, List.getElem_toArray, List.getElem_cons_zero, List.getElem_cons_succ]
      refine wpAnyH_take (i := 4) (oi := _) (v := ?v21) rfl (by kernel_rfl) (by kernel_rfl) (by kernel_rfl) (fun _ _ _ h => h) (Or.inl ⟨by rfl, ?y21⟩) (by assumption) ?r21
      case y21 => (intro w' hSw; (try dsimp only at hSw); go_simp <;> with_reducible rfl)
      try simp only [Act.put, List.setIfInBounds_toArray, List.set_cons_zero, List.set_cons_succ, List.getElem_toArray, List.getElem_cons_zero, List.getElem_cons_succ]
      refine wpAnyH_take (i := 5) (oi := _) (v := ?v22) rfl (by kernel_rfl) (by kernel_rfl) (by kernel_rfl) (fun _ _ _ h => h) (Or.inl ⟨by rfl, ?y22⟩) (by assumption) ?r22
      case y22 => (intro w' hSw; (try dsimp only at hSw); go_simp <;> with_reducible rfl)
      try simp only [Act.put, List.setIfInBounds_toArray, List.set_cons_zero, List.set_cons_succ, List.getElem_toArray, List.getElem_cons_zero, List.getElem_cons_succ]
      refine wpAnyH_take (i := 6) (oi := _) (v := undef) rfl (by kernel_rfl) (by kernel_rfl) (by kernel_rfl) (fun _ _ _ h => h) (Or.inr ⟨by rfl, rfl⟩) (by assumption) ?_
      try simp only [Act.put, List.setIfInBounds_toArray, List.set_cons_zero, List.set_cons_succ, List.getElem_toArray, List.getElem_cons_zero, List.getElem_cons_succ]
      refine wpAnyH_take (i := 7) (oi := _) (v := undef) rfl (by kernel_rfl) (by kernel_rfl) (by kernel_rfl) (fun _ _ _ h => h) (Or.inr ⟨by rfl, rfl⟩) (by assumption) ?_
      try simp only [Act.put, List.setIfInBounds_toArray, List.set_cons_zero, List.set_cons_succ, List.getElem_toArray, List.getElem_cons_zero, List.getElem_cons_succ]
      refine wpAnyH_take (i := 8) (oi := _) (v := undef) rfl (by kernel_rfl) (by kernel_rfl) (by kernel_rfl) (fun _ _ _ h => h) (Or.inr ⟨by rfl, rfl⟩) (by assumption) ?_
      try simp only [Act.put, List.setIfInBounds_toArray, List.set_cons_zero, List.set_cons_succ, List.getElem_toArray, List.getElem_cons_zero, List.getElem_cons_succ]
      refine wpAnyH_take (i := 9) (oi := _) (v := undef) rfl (by kernel_rfl) (by kernel_rfl) (by kernel_rfl) (fun _ _ _ h => h) (Or.inr ⟨by rfl, rfl⟩) (by assumption) ?_
      try simp only [Act.put, List.setIfInBounds_toArray, List.set_cons_zero, List.set_cons_succ, List.getElem_toArray, List.getElem_cons_zero, List.getElem_cons_succ]
      refine wpAnyH_take (i := 10) (oi := _) (v := undef) rfl (by kernel_rfl) (by kernel_rfl) (by kernel_rfl) (fun _ _ _ h => h) (Or.inr ⟨by rfl, rfl⟩) (by assumption) ?_
      try simp only [Act.put, List.setIfInBounds_toArray, List.set_cons_zero, List.set_cons_succ, List.getElem_toArray, List.getElem_cons_zero, List.getElem_cons_succ]
      refine wpAnyH_take (i := 11) (oi := _) (v := undef) rfl (by kernel_rfl) (by kernel_rfl) (by kernel_rfl) (fun _ _ _ h => h) (Or.inr ⟨by rfl, rfl⟩) (by assumption) ?_
      try simp only [Act.put, List.setIfInBounds_toArray, List.set_cons_zero, List.set_cons_succ, List.getElem_toArray, List.getElem_cons_zero, List.getElem_cons_succ]
      refine wpAnyH_take (i := 12) (oi := _) (v := undef) rfl (by kernel_rfl) (by kernel_rfl) (by kernel_rfl) (fun _ _ _ h => h) (Or.inr ⟨by rfl, rfl⟩) (by assumption) ?_
      try simp only [Act.put, List.setIfInBounds_toArray, List.set_cons_zero, List.set_cons_succ, List.getElem_toArray, List.getElem_cons_zero, List.getElem_cons_succ]
      refine wpAnyH_take (i := 13) (oi := _) (v := undef) rfl (by kernel_rfl) (by kernel_rfl) (by kernel_rfl) (fun _ _ _ h => h) (Or.inr ⟨by rfl, rfl⟩) (by assumption) ?_
      try simp only [Act.put, List.setIfInBounds_toArray, List.set_cons_zero, List.set_cons_succ, List.getElem_toArray, List.getElem_cons_zero, List.getElem_cons_succ]
      refine wpAnyH_take (i := 14) (oi := _) (v := undef) rfl (by kernel_rfl) (by kernel_rfl) (by kernel_rfl) (fun _ _ _ h => h) (Or.inr ⟨by rfl, rfl⟩) (by assumption) ?_
      try simp only [Act.put, List.setIfInBounds_toArray, List.set_cons_zero, List.set_cons_succ, List.getElem_toArray, List.getElem_cons_zero, List.getElem_cons_succ]
      refine wpAnyH_take (i := 15) (oi := _) (v := undef) rfl (by kernel_rfl) (by kernel_rfl) (by kernel_rfl) (fun _ _ _ h => h) (Or.inr ⟨by rfl, rfl⟩) (by assumption) ?_
      try simp only [Act.put, List.setIfInBounds_toArray, List.set_cons_zero, List.set_cons_succ, List.getElem_toArray, List.getElem_cons_zero, List.getElem_cons_succ]
      refine wpAnyH_take (i := 16) (oi := _) (v := ?v33) rfl (by kernel_rfl) (by kernel_rfl) (by kernel_rfl) (fun _ _ _ h => h) (Or.inl ⟨by rfl, ?y33⟩) (by assumption) ?r33
      case y33 => (intro w' hSw; (try dsimp only at hSw); go_simp <;> with_reducible rfl)
      try simp only [Act.put, List.setIfInBounds_toArray, List.set_cons_zero, List.set_cons_succ, List.getElem_toArray, List.getElem_cons_zero, List.getElem_cons_succ]
      refine wpAnyH_take (i := 17) (oi := _) (v := ?v34) rfl (by kernel_rfl) (by kernel_rfl) (by kernel_rfl) (fun _ _ _ h => h) (Or.inl ⟨by rfl, ?y34⟩) (by assumption) ?r34
      case y34 => (intro w' hSw; (try dsimp only at hSw); go_simp <;> with_reducible rfl)
      try simp only [Act.put, List.setIfInBounds_toArray, List.set_cons_zero, List.set_cons_succ, List.getElem_toArray, List.getElem_cons_zero, List.getElem_cons_succ]
      refine wpAnyH_take (i := 18) (oi := _) (v := ?v35) rfl (by kernel_rfl) (by kernel_rfl) (by kernel_rfl) (fun _ _ _ h => h) (Or.inl ⟨by rfl, ?y35⟩) (by assumption) ?r35
      case y35 => (intro w' hSw; (try dsimp only at hSw); go_simp <;> with_reducible rfl)
      try simp only [Act.put, List.setIfInBounds_toArray, List.set_cons_zero, List.set_cons_succ, List.getElem_toArray, List.getElem_cons_zero, List.getElem_cons_succ]
      refine wpAnyH_done (by kernel_rfl) ?_ _
      have R := Lib.hid (HD.out.trans (hv1.mono HD.out.size))
      clear S1 Sd hv1
      go_wp2
      go_ret
      exact ⟨rfl, R.out⟩
    · obtain ⟨j, rfl⟩ : ∃ j, k = j + 1 := ⟨k - 1, by omega⟩
      obtain ⟨y, hy⟩ : ∃ y, S[j]? = some y := ⟨S[j]'(by omega), List.getElem?_eq_getElem _⟩
      obtain ⟨b, o, y', rfl, hbB, hu, c0, c1, c2, c3⟩ := hL.lies.entry (i := j) (by omega)
      rw [hy] at hu
      injection hu with hu
      subst hu
      have hbs : b < W.heap.size := Nat.lt_of_lt_of_le hbB hL.B
      have hM : MB g W.heap.size b (o + j * 4) (some ⟨b, o, none⟩) n c x y.m W1 := ⟨b0, b1, b2, b3, hb1.cell, (hB.cell (p := ⟨b, o + j * 4, none⟩) hbs).trans c0, (hB.cell (p := ⟨b, o + j * 4 + 1, none⟩) hbs).trans c1, (hB.cell (p := ⟨b, o + j * 4 + 2, none⟩) hbs).trans c2⟩
      have Sd : MB g W.heap.size b (o + j * 4) (some ⟨b, o, none⟩) n c x y.m W1.drew := MB.below hM hd1
      have HR : Hid (goodAt S (j + 1) = decide (cmpM y.m x.m < 0)) := by
        unfold Hid; rw [goodAt_some hx, hf]; simp [hy]
      rw [HR.out]
      have HC : Hid (∀ W', Calls Tryz.prog 20 #[y.m.v, x.m.v] W' fun e w' => e = .returned (.int .i64 (cmpM y.m x.m)) ∧ Below W'.heap.size W' w') := fun W' => cmp_any y.m x.m W'
      unfold Mk.v at HC
      have hmx := hL.cc
      have hnc := hL.nc
      unfold maxLen at hmx
      have hwr : IntKind.i64.wrap (((j + 1 : Nat) : Int) - 1) = (j : Int) := by rw [IntWalk.i64_in] <;> omega
      have hk0 : ((((j + 1 : Nat) : Int)) == 0) = false := by simp; omega
      have hj0 : (0 : Int) ≤ (j : Int) := by omega
      have hjn : (j : Int) < (n : Int) := by omega
      have hjt : (j : Int).toNat = j := by simp
      obtain ⟨q, hq⟩ : ∃ q : Int, ((j + 1 : Nat) : Int) = q := ⟨_, rfl⟩
      rw [hq] at hwr hk0 ⊢
      obtain ⟨z, hzz⟩ : ∃ z, cmpM y.m x.m = z := ⟨_, rfl⟩
      rw [hzz] at HC ⊢
      clear hx hL hb hxs hln b0 b1 b2 b3 hB hz hb1 hM0 hd1 hW hf HR hy hk hkn hM c0 c1 c2 c3 hmx hnc hq hzz
      go_enter Tryz.func68, Tryz.ntmps68
      go_wp2_with fail
      rw [HW.out]
      refine wp_region_held_drew (S := (fun w' => MB g W.heap.size b (o + j * 4) (some ⟨b, o, none⟩) n c x y.m w')) (by kernel_rfl) Sd (fun hHeld => ?_)
      refine wpAnyH_take (i := 0) (oi := _) (v := ?v36) rfl (by kernel_rfl) (by kernel_rfl) (by kernel_rfl) (fun _ _ _ h => h) (Or.inl ⟨by rfl, ?y36⟩) (by assumption) ?r36
      case y36 => (intro w' hSw; (try dsimp only at hSw); go_simp <;> with_reducible rfl)
      try simp only [Act.put, List.setIfInBounds_toArray, List.set_cons_zero, List.set_cons_succ, List.getElem_toArray, List.getElem_cons_zero]
      refine wpAnyH_ready (rs := [1]) (by kernel_rfl) (by simp) ?_
      refine AllReadyH.cons (o := _) rfl (fun K hK => ?_) AllReadyH.nil
      go_simp
      go_at_call 69
      refine HV.out.mono ?_
      rintro e w1 ⟨rfl, hv1⟩
      have S1 := MB.below Sd hv1
      refine hK.out _ _ S1 (fun hHeld => ?_)
      clear hK K
      try simp only [Act.put, List.setIfInBounds_toArray, List.set_cons_zero, List.set_cons_succ, List.getElem_toArray, List.getElem_cons_zero, List.getElem_cons_succ]
      refine wpAnyH_take (i := 2) (oi := _) (v := ?v37) rfl (by kernel_rfl) (by kernel_rfl) (by kernel_rfl) (fun _ _ _ h => h) (Or.inl ⟨by rfl, ?y37⟩) (by assumption) ?r37
      case y37 => (intro w' hSw; (try dsimp only at hSw); go_simp <;> with_reducible rfl)
      try simp only [Act.put, List.setIfInBounds_toArray, List.set_cons_zero, List.set_cons_succ, List.getElem_toArray, List.getElem_cons_zero, List.getElem_cons_succ]
      refine wpAnyH_take (i := 3) (oi := _) (v := ?v38) rfl (by kernel_rfl) (by kernel_rfl) (by kernel_rfl) (fun _ _ _ h => h) (Or.inl ⟨by rfl, ?y38⟩) (by assumption) ?r38
      case y38 => (intro w' hSw; (try dsimp only at hSw); go_simp <;> with_reducible rfl)
      try simp only [Act.put, List.setIfInBounds_toArray, List.set_cons_zero, List.set_cons_succ, List.getElem_toArray, List.getElem_cons_zero, List.getElem_cons_succ]
      refine wpAnyH_take (i := 4) (oi := _) (v := ?v39) rfl (by kernel_rfl) (by kernel_rfl) (by kernel_rfl) (fun _ _ _ h => h) (Or.inl ⟨by rfl, ?y39⟩) (by assumption) ?r39
      case y39 => (intro w' hSw; (try dsimp only at hSw); go_simp <;> with_reducible rfl)
      try simp only [Act.put, List.setIfInBounds_toArray, List.set_cons_zero, List.set_cons_succ, List.getElem_toArray, List.getElem_cons_zero, List.getElem_cons_succ]
      refine wpAnyH_take (i := 5) (oi := _) (v := ?v40) rfl (by kernel_rfl) (by kernel_rfl) (by kernel_rfl) (fun _ _ _ h => h) (Or.inl ⟨by rfl, ?y40⟩) (by assumption) ?r40
      case y40 => (intro w' hSw; (try dsimp only at hSw); go_simp <;> with_reducible rfl)
      try simp only [Act.put, List.setIfInBounds_toArray, List.set_cons_zero, List.set_cons_succ, List.getElem_toArray, List.getElem_cons_zero, List.getElem_cons_succ]
      refine wpAnyH_take (i := 6) (oi := _) (v := ?v41) rfl (by kernel_rfl) (by kernel_rfl) (by kernel_rfl) (fun _ _ _ h => h) (Or.inl ⟨by rfl, ?y41⟩) (by assumption) ?r41
      case y41 => (intro w' hSw; (try dsimp only at hSw); go_simp <;> with_reducible rfl)
      try simp only [Act.put, List.setIfInBounds_toArray, List.set_cons_zero, List.set_cons_succ, List.getElem_toArray, List.getElem_cons_zero, List.getElem_cons_succ]
      refine wpAnyH_take (i := 7) (oi := _) (v := ?v42) rfl (by kernel_rfl) (by kernel_rfl) (by kernel_rfl) (fun _ _ _ h => h) (Or.inl ⟨by rfl, ?y42⟩) (by assumption) ?r42
      case y42 => (intro w' hSw; (try dsimp only at hSw); go_simp <;> with_reducible rfl)
      try simp only [Act.put, List.setIfInBounds_toArray, List.set_cons_zero, List.set_cons_succ, List.getElem_toArray, List.getElem_cons_zero, List.getElem_cons_succ]
      refine wpAnyH_take (i := 8) (oi := _) (v := ?v43) rfl (by kernel_rfl) (by kernel_rfl) (by kernel_rfl) (fun _ _ _ h => h) (Or.inl ⟨by rfl, ?y43⟩) (by assumption) ?r43
      case y43 => (intro w' hSw; (try dsimp only at hSw); go_simp <;> with_reducible rfl)
      try simp only [Act.put, List.setIfInBounds_toArray, List.set_cons_zero, List.set_cons_succ, List.getElem_toArray, List.getElem_cons_zero, List.getElem_cons_succ]
      refine wpAnyH_take (i := 9) (oi := _) (v := ?v44) rfl (by kernel_rfl) (by kernel_rfl) (by kernel_rfl) (fun _ _ _ h => h) (Or.inl ⟨by rfl, ?y44⟩) (by assumption) ?r44
      case y44 => (intro w' hSw; (try dsimp only at hSw); go_simp <;> with_reducible rfl)
      try simp only [Act.put, List.setIfInBounds_toArray, List.set_cons_zero, List.set_cons_succ, List.getElem_toArray, List.getElem_cons_zero, List.getElem_cons_succ]
      refine wpAnyH_take (i := 10) (oi := _) (v := ?v45) rfl (by kernel_rfl) (by kernel_rfl) (by kernel_rfl) (fun _ _ _ h => h) (Or.inl ⟨by rfl, ?y45⟩) (by assumption) ?r45
      case y45 => (intro w' hSw; (try dsimp only at hSw); go_simp <;> with_reducible rfl)
      try simp only [Act.put, List.setIfInBounds_toArray, List.set_cons_zero, List.set_cons_succ, List.getElem_toArray, List.getElem_cons_zero, List.getElem_cons_succ]
      refine wpAnyH_take (i := 11) (oi := _) (v := ?v46) rfl (by kernel_rfl) (by kernel_rfl) (by kernel_rfl) (fun _ _ _ h => h) (Or.inl ⟨by rfl, ?y46⟩) (by assumption) ?r46
      case y46 => (intro w' hSw; (try dsimp only at hSw); go_simp <;> with_reducible rfl)
      try simp only [Act.put, List.setIfInBounds_toArray, List.set_cons_zero, List.set_cons_succ, List.getElem_toArray, List.getElem_cons_zero, List.getElem_cons_succ]
      refine wpAnyH_take (i := 12) (oi := _) (v := ?v47) rfl (by kernel_rfl) (by kernel_rfl) (by kernel_rfl) (fun _ _ _ h => h) (Or.inl ⟨by rfl, ?y47⟩) (by assumption) ?r47
      case y47 => (intro w' hSw; (try dsimp only at hSw); go_simp <;> with_reducible rfl)
      try simp only [Act.put, List.setIfInBounds_toArray, List.set_cons_zero, List.set_cons_succ, List.getElem_toArray, List.getElem_cons_zero, List.getElem_cons_succ]
      refine wpAnyH_take (i := 13) (oi := _) (v := ?v48) rfl (by kernel_rfl) (by kernel_rfl) (by kernel_rfl) (fun _ _ _ h => h) (Or.inl ⟨by rfl, ?y48⟩) (by assumption) ?r48
      case y48 => (intro w' hSw; (try dsimp only at hSw); go_simp <;> with_reducible rfl)
      try simp only [Act.put, List.setIfInBounds_toArray, List.set_cons_zero, List.set_cons_succ, List.getElem_toArray, List.getElem_cons_zero, List.getElem_cons_succ]
      refine wpAnyH_ready (rs := [14]) (by kernel_rfl) (by simp) ?_
      refine AllReadyH.cons (o := _) rfl (fun K hK => ?_) AllReadyH.nil
      go_simp
      go_at_call 20
      refine (HC.out _).mono ?_
      rintro e w2 ⟨rfl, hv2⟩
      have S2 := MB.below S1 hv2
      refine hK.out _ _ S2 (fun hHeld => ?_)
      clear hK K
      try simp only [Act.put, List.setIfInBounds_toArray, List.set_cons_zero, List.set_cons_succ, List.getElem_toArray, List.getElem_cons_zero, List.getElem_cons_succ]
      refine wpAnyH_take (i := 15) (oi := _) (v := ?v49) rfl (by kernel_rfl) (by kernel_rfl) (by kernel_rfl) (fun _ _ _ h => h) (Or.inl ⟨by rfl, ?y49⟩) (by assumption) ?r49
      case y49 => (intro w' hSw; (try dsimp only at hSw); go_simp <;> with_reducible rfl)
      try simp only [Act.put, List.setIfInBounds_toArray, List.set_cons_zero, List.set_cons_succ, List.getElem_toArray, List.getElem_cons_zero, List.getElem_cons_succ]
      refine wpAnyH_take (i := 16) (oi := _) (v := ?v50) rfl (by kernel_rfl) (by kernel_rfl) (by kernel_rfl) (fun _ _ _ h => h) (Or.inl ⟨by rfl, ?y50⟩) (by assumption) ?r50
      case y50 => (intro w' hSw; (try dsimp only at hSw); go_simp <;> with_reducible rfl)
      try simp only [Act.put, List.setIfInBounds_toArray, List.set_cons_zero, List.set_cons_succ, List.getElem_toArray, List.getElem_cons_zero, List.getElem_cons_succ]
      refine wpAnyH_take (i := 17) (oi := _) (v := ?v51) rfl (by kernel_rfl) (by kernel_rfl) (by kernel_rfl) (fun _ _ _ h => h) (Or.inl ⟨by rfl, ?y51⟩) (by assumption) ?r51
      case y51 => (intro w' hSw; (try dsimp only at hSw); go_simp <;> with_reducible rfl)
      try simp only [Act.put, List.setIfInBounds_toArray, List.set_cons_zero, List.set_cons_succ, List.getElem_toArray, List.getElem_cons_zero, List.getElem_cons_succ]
      refine wpAnyH_take (i := 18) (oi := _) (v := ?v52) rfl (by kernel_rfl) (by kernel_rfl) (by kernel_rfl) (fun _ _ _ h => h) (Or.inl ⟨by rfl, ?y52⟩) (by assumption) ?r52
      case y52 => (intro w' hSw; (try dsimp only at hSw); go_simp <;> with_reducible rfl)
      try simp only [Act.put, List.setIfInBounds_toArray, List.set_cons_zero, List.set_cons_succ, List.getElem_toArray, List.getElem_cons_zero, List.getElem_cons_succ]
      refine wpAnyH_done (by kernel_rfl) ?_ _
      have R := Lib.hid (HD.out.trans ((hv1.trans (hv2.mono hv1.size)).mono HD.out.size))
      clear S1 S2 Sd hv1 hv2
      go_wp2
      go_ret
      exact ⟨rfl, R.out⟩
end Go.Proofs.YtbbimfbkllellaaGreatDoor

namespace Go.Proofs.YtbbimfbkllellaaGreatDoor
open Go.RowKit
set_option linter.unusedVariables false
set_option maxRecDepth 100000

/-- what makeBlock's visit keeps -/
def MbR (w0 : World) (g B : Nat) (A : Option Addr) (n c : Nat) (S : List En) (W : World) : Prop := Below w0.heap.size w0 W ∧ LBox W g A n c ∧ EL W B A n c S
theorem mb_vis (w0 : World) (g B : Nat) (A : Option Addr) (n c : Nat) (S : List En) :
    Vis (S.map En.v) 68 #[.pointer (some ⟨g, 0, none⟩)] (goodAt S) (fun _ => MbR w0 g B A n c S) (MbR w0 g B A n c S) where
  ent := enters_of Tryz.func68 (by kernel_rfl) rfl
  go k v W hv hR := by
    rw [List.getElem?_map] at hv
    obtain ⟨x, hx, rfl⟩ : ∃ x, S[k]? = some x ∧ v = x.v := by
      cases h : S[k]? with
      | none => rw [h] at hv; cases hv
      | some x => rw [h] at hv; injection hv with hv; exact ⟨x, rfl, hv.symm⟩
    refine (mb1_any S k x hx g A n c B W hR.2.2 hR.2.1).mono fun e W' ⟨he, hb⟩ => ?_
    have h : MbR w0 g B A n c S W' := ⟨hR.1.trans (hb.mono hR.1.size), hR.2.1.below hb hR.2.1.lt, hR.2.2.below hb⟩
    exact ⟨he, fun _ => h, fun _ => h⟩
  up k W W' hR hb := ⟨hR.1.trans (hb.mono hR.1.size), hR.2.1.below hb hR.2.1.lt, hR.2.2.below hb⟩

/-- the answer of makeBlock -/
theorem vis_ok {S : List En} {n : Nat} {e : Ending} {w' w0 : World} {g B c : Nat} {A : Option Addr} (hn : S.length = n) (h1 : 1 ≤ n) (h2 : n ≤ 64) (h : VisP n (goodAt S) (fun _ => MbR w0 g B A n c S) (MbR w0 g B A n c S) e w') :
    ∃ k : Nat, e = .returned (.int .i64 (k : Int)) ∧ okB S = decide (k = n) ∧ MbR w0 g B A n c S w' := by
  obtain ⟨k, hk, he, hz, h3⟩ := h
  refine ⟨k, he, ?_, ?_⟩
  · rcases h3 with ⟨rfl, _⟩ | ⟨hlt, hg, _⟩
    · rw [decide_eq_true rfl]
      exact (okB_good S (by omega) (by omega)).2 fun j hj => hz j (by omega)
    · rw [decide_eq_false (by omega)]
      cases hq : okB S with
      | false => rfl
      | true => have := (okB_good S (by omega) (by omega)).1 hq k (by omega); rw [this] at hg; cases hg
  · rcases h3 with ⟨_, h⟩ | ⟨_, _, h⟩ <;> exact h

set_option maxHeartbeats 1000000 in
theorem make_any (S : List En) (A : Option Addr) (n c B : Nat) (w : World) (hL : EL w B A n c S) :
    Calls Tryz.prog 15 #[.slice A n c] w fun e w' => e = .returned (.bool (okB S)) ∧ Below w.heap.size w w' := by
  have hln := hL.lies.elen
  have hB : Below w.heap.size w (w.alloc (.cells #[.slice A n c] 27)) := (Below.refl _ _).alloc (Nat.le_refl _) _
  have hbx : LBox (w.alloc (.cells #[.slice A n c] 27)) w.heap.size A n c := Box.new w _ _
  have hcell := hbx.cell
  have hR : MbR w w.heap.size B A n c S (w.alloc (.cells #[.slice A n c] 27)) := ⟨hB, hbx, hL.below hB⟩
  have hmx := hL.cc
  have hnc := hL.nc
  unfold maxLen at hmx
  have HVI := Lib.hid (visitE_any S A n c B 68 #[.pointer (some ⟨w.heap.size, 0, none⟩)] (goodAt S) (fun _ => MbR w w.heap.size B A n c S) (MbR w w.heap.size B A n c S) (w.alloc (.cells #[.slice A n c] 27))
    (mb_vis w w.heap.size B A n c S) (fun _ W h => ⟨h.2.2.B, h.2.2.lies⟩) (by omega) hR)
  have HL := Lib.hid hln; have HB := Lib.hid hB
  have hmf : ∀ (fn : Fn) (first cap : Array Value) (w : World), (Instr.makeFunc fn first cap).run Tryz.prog w = .ok (.func fn first cap) w := fun _ _ _ _ => rfl
  clear hB hbx hR hL hln hmx hnc
  by_cases h1 : n < 1
  · have HR : Hid (okB S = false) := by unfold Hid okB; rw [decide_eq_false (by have := HL.out; omega)]; rfl
    have h1' : (n : Int) < 1 := by omega
    rw [HR.out]
    go_enter Tryz.func15, Tryz.ntmps15
    go_wp2
    go_ret
    exact ⟨rfl, HB.out⟩
  · have h1' : ¬ (n : Int) < 1 := by omega
    by_cases h2 : 64 < n
    · have HR : Hid (okB S = false) := by unfold Hid okB; rw [decide_eq_false (p := S.length ≤ 64) (by have := HL.out; omega)]; simp
      have h2' : (64 : Int) < (n : Int) := by omega
      rw [HR.out]
      go_enter Tryz.func15, Tryz.ntmps15
      go_wp2
      go_ret
      exact ⟨rfl, HB.out⟩
    · have h2' : ¬ (64 : Int) < (n : Int) := by omega
      go_enter Tryz.func15, Tryz.ntmps15
      go_wp2_with fail
      refine HVI.out.mono ?_
      rintro e w1 hv
      obtain ⟨k, rfl, hok, hR⟩ := vis_ok HL.out (by omega) (by omega) hv
      have hc1 := hR.2.1.cell
      have HR := Lib.hid hR.1
      have HO := Lib.hid hok
      have hkd : ((k : Int) == (n : Int)) = decide (k = n) := by
        rw [Bool.eq_iff_iff, beq_iff_eq, decide_eq_true_eq]; omega
      clear hv hR hok hcell
      go_wp2
      go_ret
      exact ⟨by rw [HO.out]; rfl, HR.out⟩

/-! commonPrefix -/
abbrev SBox (w : World) (g : Nat) (s : ByteArray) : Prop := Box w g 9 (.string s)
/-- do two keys agree at a place? -/
def alikeAt (a b : ByteArray) (k : Nat) : Bool := decide (k < b.size) && decide (a.data.toList[k]? = b.data.toList[k]?)
set_option maxHeartbeats 1000000 in
theorem cp1_any (a b : ByteArray) (k : Nat) (x : UInt8) (hx : a.data.toList[k]? = some x) (g : Nat) (W : World) (hb : SBox W g b) (hs : b.size ≤ 140737488351232) (hk : k < 9223372036854775807) :
    Calls Tryz.prog 131 #[.int .i64 (k : Int), bv x, .pointer (some ⟨g, 0, none⟩)] W fun e W' => e = .returned (.bool (alikeAt a b k)) ∧ W = W' := by
  have hc := hb.cell
  clear hb
  by_cases h1 : k < b.size
  · have h1' : (k : Int) < (b.size : Int) := by omega
    have hbk : b.data.toList[k]? = some b[k] := by
      rw [Array.getElem?_toList, Array.getElem?_eq_getElem h1]; rfl
    have HR : Hid (alikeAt a b k = decide (x = b[k])) := by
      unfold Hid alikeAt; rw [decide_eq_true h1, hx, hbk]; simp
    have HE : Hid (((x.toNat : Int) == (b[k].toNat : Int)) = decide (x = b[k])) := by
      unfold Hid
      rw [Bool.eq_iff_iff, beq_iff_eq, decide_eq_true_eq, ← UInt8.toNat_inj]; omega
    clear hx hbk
    go_enter Tryz.func131, Tryz.ntmps131
    go_wp2
    go_ret
    exact ⟨by rw [HR.out, ← HE.out]; rfl, rfl⟩
  · have h1' : ¬ (k : Int) < (b.size : Int) := by omega
    have HR : Hid (alikeAt a b k = false) := by
      unfold Hid alikeAt; rw [decide_eq_false h1]; rfl
    clear hx
    go_enter Tryz.func131, Tryz.ntmps131
    go_wp2
    go_ret
    exact ⟨by rw [HR.out]; rfl, rfl⟩
def CpR (w0 : World) (g : Nat) (a b : ByteArray) (n B : Nat) (A : Option Addr) (W : World) : Prop := Below w0.heap.size w0 W ∧ SBox W g b ∧ Lies W B 1 A n (a.data.toList.map bv) ∧ B ≤ W.heap.size
def CpF (w0 : World) (W : World) : Prop := Below w0.heap.size w0 W
theorem cp_vis (a b : ByteArray) (g : Nat) (w0 : World) (n B : Nat) (A : Option Addr) (hs : b.size ≤ 140737488351232) (ha : a.size ≤ 140737488351232) :
    Vis (a.data.toList.map bv) 131 #[.pointer (some ⟨g, 0, none⟩)] (alikeAt a b) (fun _ => CpR w0 g a b n B A) (CpF w0) where
  ent := enters_of Tryz.func131 (by kernel_rfl) rfl
  go k v W hv hR := by
    rw [List.getElem?_map] at hv
    obtain ⟨x, hx, rfl⟩ : ∃ x, a.data.toList[k]? = some x ∧ v = bv x := by
      cases h : a.data.toList[k]? with
      | none => rw [h] at hv; cases hv
      | some x => rw [h] at hv; injection hv with hv; exact ⟨x, rfl, hv.symm⟩
    have hk := (List.getElem?_eq_some_iff.1 hx).1
    rw [slen] at hk
    refine (cp1_any a b k x hx g W hR.2.1 hs (by omega)).mono fun e W' ⟨he, hb⟩ => ?_
    subst hb
    exact ⟨he, fun _ => hR, fun _ => hR.1⟩
  up k W W' hR hb := ⟨hR.1.trans (hb.mono hR.1.size), hR.2.1.below hb hR.2.1.lt, hR.2.2.1.keep fun p hp => hb.cell (Nat.lt_of_lt_of_le hp hR.2.2.2), Nat.le_trans hR.2.2.2 hb.size⟩
theorem alike_cp {a b : ByteArray} {k : Nat} (hk : k ≤ a.size) (hz : ∀ j, j < k → alikeAt a b j = true) (hf : k < a.size → alikeAt a b k = false) : cpK a b = k := by
  refine cpl_eq _ _ k (by rw [slen]; exact hk) (fun j hj => ?_) (fun hl => ?_)
  · have := hz j hj
    unfold alikeAt at this
    simp only [Bool.and_eq_true, decide_eq_true_eq] at this
    rw [slen]; exact this
  · rw [slen] at hl ⊢
    rintro ⟨h1, h2⟩
    have := hf hl
    unfold alikeAt at this
    rw [decide_eq_true h1, decide_eq_true h2] at this
    cases this
set_option maxHeartbeats 1000000 in
theorem common_any (a b : ByteArray) (w : World) (ha : a.size ≤ 140737488351232) (hs : b.size ≤ 140737488351232) :
    Calls Tryz.prog 116 #[.string a, .string b] w fun e w' => e = .returned (.int .i64 (cpK a b : Int)) ∧ Below w.heap.size w w' := by
  have hB : Below w.heap.size w (w.alloc (.cells #[.string b] 9)) := (Below.refl _ _).alloc (Nat.le_refl _) _
  have hbx : SBox (w.alloc (.cells #[.string b] 9)) w.heap.size b := Box.new w _ _
  obtain ⟨w1, c1, hrun, hb1, hl1⟩ := conv_bytes (w.alloc (.cells #[.string b] 9)) a
  have hbx1 : SBox w1 w.heap.size b := hbx.below hb1 hbx.lt
  have hz : (w.alloc (.cells #[.string b] 9)).heap.size = w.heap.size + 1 := by simp
  have hbw := hB.trans (hb1.mono hB.size)
  rw [hz] at hrun hl1
  have HVI := Lib.hid (visitB_any a.data.toList (some ⟨w.heap.size + 1, 0, none⟩) a.size c1 w1.heap.size 131 #[.pointer (some ⟨w.heap.size, 0, none⟩)] (alikeAt a b)
    (fun _ => CpR w w.heap.size a b a.size w1.heap.size (some ⟨w.heap.size + 1, 0, none⟩)) (CpF w) w1
    (cp_vis a b w.heap.size w a.size w1.heap.size _ hs ha) (fun _ W h => h.2.2.1) (by omega) ⟨hbw, hbx1, hl1, Nat.le_refl _⟩)
  have hmf : ∀ (fn : Fn) (first cap : Array Value) (w : World), (Instr.makeFunc fn first cap).run Tryz.prog w = .ok (.func fn first cap) w := fun _ _ _ _ => rfl
  clear hB hbx hb1 hl1 hbx1 hbw hz
  go_enter Tryz.func116, Tryz.ntmps116
  go_wp2_with fail
  refine HVI.out.mono ?_
  rintro e w2 ⟨k, hk, rfl, hz, h3⟩
  have HR : Hid (cpK a b = k ∧ Below w.heap.size w w2) := by
    rcases h3 with ⟨rfl, h⟩ | ⟨hlt, hg, h⟩
    · exact ⟨alike_cp hk hz (fun h => by omega), h.1⟩
    · exact ⟨alike_cp hk hz (fun _ => hg), h⟩
  clear hz h3 hrun
  go_wp2
  go_ret
  exact ⟨by rw [HR.out.1]; rfl, HR.out.2⟩
end Go.Proofs.YtbbimfbkllellaaGreatDoor

