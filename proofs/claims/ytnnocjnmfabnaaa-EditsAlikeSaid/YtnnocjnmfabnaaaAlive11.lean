/-
  bucketlinelaw11's file; its alive answers true.
-/
import Derived.Test.YtnnocjnmfabnaaaEdG
import Derived.Test.YtnnocjnmfabnaaaEdQ
import Derived.Test.YtnnocjnmfabnaaaEdW
import Derived.Test.YtnnocjnmfabnaaaInA
import Derived.Deep.RegionHeld3
namespace Go.Proofs.Ytnnocjnmfabnaaa
open Go.RowKit
set_option linter.unusedVariables false
set_option maxRecDepth 100000

theorem file11_any (f : Fi) (w : World) :
    Calls Try.prog 9 #[.int .u32 (f.num : Int), .int .i64 f.lv, .string f.a, .string f.z] w fun e w' => e = .returned (.agg #[.int .u32 (f.num : Int), .int .i64 f.lv, .string f.a, .string f.z]) ∧ Below w.heap.size w w' := by
  go_enter Try.func9, Try.ntmps9
  go_wp2
  have h := FiAt.new w f
  have hb := fiW_below w f
  revert h hb
  unfold fiW
  generalize w.alloc (.cells #[.int .u32 (f.num : Int), .int .i64 f.lv, .string f.a, .string f.z] 37) = W
  intro h hb
  obtain ⟨z0, z1, z2, z3⟩ := h.cells
  exact bodyPost_ret (v := .agg #[.int .u32 (f.num : Int), .int .i64 f.lv, .string f.a, .string f.z]) (by simp [results, Try.results9, go_sem, z0, z1, z2, z3]) rfl ⟨rfl, hb⟩

def F300 : Fi := ⟨300, 1, ⟨#[97]⟩, ⟨#[98, 99]⟩⟩
def F5 : Fi := ⟨5, 0, ⟨#[97]⟩, ⟨#[98]⟩⟩
def F3 : Fi := ⟨3, 1, ⟨#[97]⟩, ⟨#[99]⟩⟩
def F51 : Fi := ⟨5, 1, ⟨#[97]⟩, ⟨#[98]⟩⟩
def F14 : Fi := ⟨1, 4, ⟨#[97]⟩, ⟨#[98]⟩⟩
def FBA : Fi := ⟨1, 0, ⟨#[98]⟩, ⟨#[97]⟩⟩
theorem sz_lit {f : Fi} (h : f = F300 ∨ f = F5 ∨ f = F3 ∨ f = F51 ∨ f = F14 ∨ f = FBA) : szFi f := by
  rcases h with rfl | rfl | rfl | rfl | rfl | rfl <;> exact ⟨by decide, by decide, by decide, by decide⟩
def X0 : Edt := ⟨[F300], [5], 6, 7, 200⟩
theorem x0_ok : okEd X0 = true := by decide +kernel
theorem x0_enc : encEd X0 = [1, 172, 2, 1, 1, 97, 2, 98, 99, 1, 5, 6, 7, 200, 1] := by decide +kernel
theorem x0_sz : SzEd X0 := ⟨by decide, by decide, by decide, by decide, by decide, by decide, by decide⟩
theorem do0_ok : DoOk [F5, F3] [F300] [5] := by
  refine ⟨⟨by decide +kernel, by decide +kernel⟩, ⟨by decide +kernel, by decide +kernel⟩, ⟨by decide +kernel, by decide +kernel⟩⟩
theorem do0_up {L : List Fi} (h : L.Perm (left [F5, F3] [5] ++ [F300])) (hu : UpFi L) : L = [F3, F300] :=
  up_one hu (List.pairwise_cons.2 ⟨(fun a ha => by
    have e : a = F300 := by simpa using ha
    subst e
    exact .inr ⟨rfl, by decide⟩), List.pairwise_cons.2 ⟨(fun a ha => by cases ha), List.Pairwise.nil⟩⟩) h
theorem do1_no : ¬ DoOk [] [] [5] := fun h => by
  have := h.2.1.2 5 (by simp)
  simp [nms] at this
theorem do2_no : ¬ DoOk [F5] [F51] [] := fun h => by
  have := h.2.2.2
  revert this
  decide +kernel
theorem p14_no : okEd ⟨[F14], [], 0, 0, 0⟩ = false := by decide +kernel
theorem pba_no : okEd ⟨[FBA], [], 0, 0, 0⟩ = false := by decide +kernel
theorem got0 : gotEd [0, 0, 0, 0] = none := by kernel_rfl
/-- the worlds behind literals -/
theorem fi1_lit (w : World) (f : Fi) : Lies (fiW w f) (fiW w f).heap.size 4 (some ⟨w.heap.size, 0, none⟩) 1 (fcs [f]) := by
  have := fi_lies w f
  rw [fiW_size]; exact this
theorem k1_lit (w : World) (k : Nat) : Lies (w.alloc (.cells #[.int .u32 (k : Int)] 24)) (w.alloc (.cells #[.int .u32 (k : Int)] 24)).heap.size 1 (some ⟨w.heap.size, 0, none⟩) 1 (kvs [k]) := by
  have := one_lies (w := w) rfl (.int .u32 (k : Int)) 24
  rw [World.size_alloc]; exact this
theorem fi2_lit (w : World) (f h : Fi) : Lies (w.alloc (.cells #[.int .u32 (f.num : Int), .int .i64 f.lv, .string f.a, .string f.z, .int .u32 (h.num : Int), .int .i64 h.lv, .string h.a, .string h.z] 37)) (w.heap.size + 1) 4 (some ⟨w.heap.size, 0, none⟩) 2 (fcs [f, h]) := by
  have hh : (w.alloc (.cells #[.int .u32 (f.num : Int), .int .i64 f.lv, .string f.a, .string f.z, .int .u32 (h.num : Int), .int .i64 h.lv, .string h.a, .string h.z] 37)).heap[w.heap.size]? = some (.cells #[.int .u32 (f.num : Int), .int .i64 f.lv, .string f.a, .string f.z, .int .u32 (h.num : Int), .int .i64 h.lv, .string h.a, .string h.z] 37 (0, 0)) := heap_alloc_new w _
  have e : fcs [f, h] = [.int .u32 (f.num : Int), .int .i64 f.lv, .string f.a, .string f.z, .int .u32 (h.num : Int), .int .i64 h.lv, .string h.a, .string h.z] := by simp [fcs, Fi.cs]
  rw [e]
  refine ⟨rfl, fun j hj => ?_⟩
  have hj8 : j < 8 := hj
  refine ⟨_, _, rfl, Nat.lt_succ_self _, List.getElem?_eq_getElem hj8, ?_⟩
  rw [add_lit, Nat.zero_add, cell_of_row _ _ j _ _ (0, 0) hh]
  rw [List.getElem?_toArray]
  exact List.getElem?_eq_getElem hj8
theorem up_lies {w w' : World} {k n : Nat} {A : Option Addr} {xs : List Value} (h : Lies w w.heap.size k A n xs) (hb : Below w.heap.size w w') : Lies w' w'.heap.size k A n xs := (h.below hb).more hb.size
theorem al_below (w : World) (o : Obj) : Below w.heap.size w (w.alloc o) := (Below.refl _ _).alloc (Nat.le_refl _) _
theorem be_trans {a b c : World} (h : Below a.heap.size a b) (k : Below b.heap.size b c) : Below a.heap.size a c := h.trans (k.mono h.size)

set_option maxHeartbeats 4000000 in
theorem alive11_any (w : World) : Calls Try.prog 4 #[] w fun e w' => e = .returned (.bool true) ∧ Below w.heap.size w w' := by
  go_enter Try.func4, Try.ntmps4
  go_wp2_with fail
  refine (file11_any F300 _).mono ?_
  rintro e w1 ⟨rfl, hb⟩
  have H := Lib.hid hb; clear hb
  go_wp2_with fail
  obtain ⟨b1, hb1⟩ : ∃ b, w1.heap.size = b := ⟨_, rfl⟩
  have q1 := fi1_lit w1 F300
  have q2 := k1_lit (fiW w1 F300) 5
  have q3 := al_below (fiW w1 F300) (.cells #[.int .u32 (5 : Nat)] 24)
  have q4 := al_below ((fiW w1 F300).alloc (.cells #[.int .u32 (5 : Nat)] 24)) (.cells #[.slice (some ⟨w1.heap.size, 0, none⟩) 1 1, .slice (some ⟨w1.heap.size + 1, 0, none⟩) 1 1, .int .u32 6, .int .u32 7, .int .u64 200] 27)
  have q5 := heap_alloc_new ((fiW w1 F300).alloc (.cells #[.int .u32 (5 : Nat)] 24)) (.cells #[.slice (some ⟨w1.heap.size, 0, none⟩) 1 1, .slice (some ⟨w1.heap.size + 1, 0, none⟩) 1 1, .int .u32 6, .int .u32 7, .int .u64 200] 27)
  have q6 : ((fiW w1 F300).alloc (.cells #[.int .u32 (5 : Nat)] 24)).heap.size = w1.heap.size + 2 := by simp
  have L1 := up_lies (up_lies q1 q3) q4
  have L2 := up_lies q2 q4
  have B1 := be_trans (fiW_below w1 F300) (be_trans q3 q4)
  rw [q6] at q5
  rw [fiW_size] at L2
  obtain ⟨u, hu⟩ : ∃ u, ((fiW w1 F300).alloc (.cells #[.int .u32 (5 : Nat)] 24)).alloc (.cells #[.slice (some ⟨w1.heap.size, 0, none⟩) 1 1, .slice (some ⟨w1.heap.size + 1, 0, none⟩) 1 1, .int .u32 6, .int .u32 7, .int .u64 200] 27) = u := ⟨_, rfl⟩
  rw [hu] at q5 L1 L2 B1
  have hu2 : ((w1.alloc (.cells #[.int .u32 (F300.num : Int), .int .i64 F300.lv, .string F300.a, .string F300.z] 37)).alloc (.cells #[.int .u32 5] 24)).alloc (.cells #[.slice (some ⟨w1.heap.size, 0, none⟩) 1 1, .slice (some ⟨w1.heap.size + 1, 0, none⟩) 1 1, .int .u32 6, .int .u32 7, .int .u64 200] 27) = u := hu
  rw [hu2]
  have EA : EtAt u (w1.heap.size + 2) (some ⟨w1.heap.size, 0, none⟩) 1 1 (some ⟨w1.heap.size + 1, 0, none⟩) 1 1 6 7 200 := q5
  rw [hb1] at L1 L2 EA ⊢
  have HL1 := Lib.hid L1; have HL2 := Lib.hid L2; have HE := Lib.hid EA; have HU := Lib.hid (be_trans H.out B1)
  clear q1 q2 q3 q4 q5 q6 hu hu2 L1 L2 B1 EA H
  refine (edPut_any X0 1 1 1 1 _ _ u HL1.out HL2.out (fun f hf => sz_lit (.inl (by simpa [X0] using hf))) x0_sz (by decide) (by decide)).mono ?_
  rintro e w2 ⟨hb2, (⟨_, A2, c2, rfl, hc21, hc22, ho2⟩ | ⟨hno, _⟩)⟩
  case inr => rw [x0_ok] at hno; cases hno
  rw [x0_enc] at ho2 hc21
  rw [x0_enc]
  have HL1 := Lib.hid (up_lies HL1.out hb2); have HL2 := Lib.hid (up_lies HL2.out hb2); have HE := Lib.hid (HE.out.below hb2 HE.out.lt)
  have H2 := Lib.hid (be_trans HU.out hb2)
  have O2 := Lib.hid ho2
  clear hb2 ho2 HU
  have C5 : Hid (∀ W, Calls Try.prog 9 #[.int .u32 5, .int .i64 0, .string ⟨#[97]⟩, .string ⟨#[98]⟩] W fun e w' => e = .returned (.agg #[.int .u32 5, .int .i64 0, .string ⟨#[97]⟩, .string ⟨#[98]⟩]) ∧ Below W.heap.size W w') := fun W => file11_any F5 W
  have C3 : Hid (∀ W, Calls Try.prog 9 #[.int .u32 3, .int .i64 1, .string ⟨#[97]⟩, .string ⟨#[99]⟩] W fun e w' => e = .returned (.agg #[.int .u32 3, .int .i64 1, .string ⟨#[97]⟩, .string ⟨#[99]⟩]) ∧ Below W.heap.size W w') := fun W => file11_any F3 W
  have HDo : Hid (∀ W, Below w2.heap.size w2 W → Calls Try.prog 6 #[.slice (some ⟨W.heap.size, 0, none⟩) 2 2, .agg #[.slice (some ⟨b1, 0, none⟩) 1 1, .slice (some ⟨b1 + 1, 0, none⟩) 1 1, .int .u32 6, .int .u32 7, .int .u64 200]] (W.alloc (.cells #[.int .u32 5, .int .i64 0, .string ⟨#[97]⟩, .string ⟨#[98]⟩, .int .u32 3, .int .i64 1, .string ⟨#[97]⟩, .string ⟨#[99]⟩] 37)) fun e w' =>
      ∃ g c, e = .returned (.tuple #[.slice (some ⟨g, 0, none⟩) 2 c, .int .i64 0]) ∧ w'.ownsRow w2.heap.size 37 4 (.slice (some ⟨g, 0, none⟩) 2 c) 2 (fcs [F3, F300]) ∧ Below W.heap.size W w') := by
    intro W hb
    have q1 := fi2_lit W F5 F3
    have q2 := al_below W (.cells #[.int .u32 (F5.num : Int), .int .i64 F5.lv, .string F5.a, .string F5.z, .int .u32 (F3.num : Int), .int .i64 F3.lv, .string F3.a, .string F3.z] 37)
    have hz : (W.alloc (.cells #[.int .u32 (F5.num : Int), .int .i64 F5.lv, .string F5.a, .string F5.z, .int .u32 (F3.num : Int), .int .i64 F3.lv, .string F3.a, .string F3.z] 37)).heap.size = W.heap.size + 1 := by simp
    have hb2 := be_trans hb q2
    refine (do_any 2 1 1 _ _ _ 2 1 1 [F5, F3] [F300] [5] 6 7 200 _ (by rw [hz]; exact q1) (up_lies HL1.out hb2) (up_lies HL2.out hb2) (fun f hf => sz_lit (by simp at hf; rcases hf with rfl | rfl <;> simp)) (fun f hf => sz_lit (by simp at hf; simp [hf])) (fun k hk => by simp at hk; omega) (by decide) (by decide) (by decide)).mono ?_
    rintro e w' ⟨hb3, (⟨_, A, n, c, L, rfl, hp, hu, hn, ho⟩ | ⟨hno, _⟩)⟩
    · have hL := do0_up hp hu
      subst hL
      have hn2 : n = 2 := hn.symm
      subst hn2
      rcases ho.2 with ⟨hv, h0⟩ | ⟨g, cap, cur, hv, r⟩
      · cases h0
      · injection hv with e1 _ e3
        subst e1 e3
        exact ⟨g, c, rfl, own_base ho hb2.size, be_trans q2 hb3⟩
    · exact (hno do0_ok).elim
  have KE : Hid (∀ W, Below w2.heap.size w2 W → W.cell? ⟨b1 + 2, 0, none⟩ = some (.slice (some ⟨b1, 0, none⟩) 1 1) ∧ W.cell? ⟨b1 + 2, 1, none⟩ = some (.slice (some ⟨b1 + 1, 0, none⟩) 1 1) ∧ W.cell? ⟨b1 + 2, 2, none⟩ = some (.int .u32 6) ∧ W.cell? ⟨b1 + 2, 3, none⟩ = some (.int .u32 7) ∧ W.cell? ⟨b1 + 2, 4, none⟩ = some (.int .u64 200)) := fun W hb => (HE.out.below hb HE.out.lt).cells
  have E0 : Below w2.heap.size w2 w2.drew := (Below.refl _ _).drew
  clear hb1
  go_wp2_with fail
  go_region_held3 (fun W => W.cell? ⟨b1 + 2, 0, none⟩ = some (.slice (some ⟨b1, 0, none⟩) 1 1) ∧ W.cell? ⟨b1 + 2, 1, none⟩ = some (.slice (some ⟨b1 + 1, 0, none⟩) 1 1) ∧ W.cell? ⟨b1 + 2, 2, none⟩ = some (.int .u32 6) ∧ W.cell? ⟨b1 + 2, 3, none⟩ = some (.int .u32 7) ∧ W.cell? ⟨b1 + 2, 4, none⟩ = some (.int .u64 200))
    (first | exact KE.out _ E0 | exact KE.out _ B3 | exact KE.out _ B4 | exact KE.out _ (B4.alloc B4.size _) | exact KE.out _ B5 | fail)
    (first
    | (go_at_call 9; (with_reducible refine Calls.mono (C5.out _) ?_); rintro e w3 ⟨rfl, hb3⟩; have B3 := E0.trans (hb3.mono E0.size))
    | (go_at_call 9; (with_reducible refine Calls.mono (C3.out _) ?_); rintro e w4 ⟨rfl, hb4⟩; have B4 := B3.trans (hb4.mono B3.size))
    | (go_at_call 6; refine (HDo.out _ B4).mono ?_; rintro e w5 ⟨g5, c5, rfl, ho5, hb5⟩; have B5 := B4.trans (hb5.mono B4.size))
    | fail)
  have H5 := Lib.hid (be_trans H2.out B5)
  have O5 := Lib.hid ho5
  have O2 := Lib.hid (own_below O2.out B5)
  clear hb3 hb4 hb5 B3 B4 B5 E0 KE HDo HL1 HL2 HE ho5 C3 H2
  clear C5
  go_wp2_with fail
  -- a number that isn't there
  have k5 := k1_lit w5 5
  have a5 := al_below w5 (.cells #[.int .u32 (5 : Nat)] 24)
  have D1 := Lib.hid (do_any 0 0 1 none none _ 0 0 1 [] [] [5] 0 0 0 _ (Lies.none_ _ _ _ _) (Lies.none_ _ _ _ _) k5 (fun f hf => by cases hf) (fun f hf => by cases hf) (fun k hk => by simp at hk; omega) (by decide) (by decide) (by decide))
  have A5 := Lib.hid a5
  clear k5 a5
  refine Calls.mono D1.out ?_
  rintro e w6 ⟨hb6, (⟨hyes, _⟩ | ⟨_, rfl⟩)⟩
  case inl => exact (do1_no hyes).elim
  have B6 := be_trans A5.out hb6
  have H6 := Lib.hid (be_trans H5.out B6); have O6 := Lib.hid (own_below O5.out B6); have O26 := Lib.hid (own_below O2.out B6)
  clear D1 A5 hb6 B6 H5 O5 O2
  go_wp2_with fail
  -- a number twice
  refine (file11_any F5 _).mono ?_
  rintro e w7 ⟨rfl, hb7⟩
  have a7 := fiW_below w7 F5
  have f7 := fi1_lit w7 F5
  have H7 := Lib.hid (be_trans H6.out (be_trans hb7 a7)); have O7 := Lib.hid (own_below O6.out (be_trans hb7 a7)); have O27 := Lib.hid (own_below O26.out (be_trans hb7 a7))
  go_wp2_with fail
  obtain ⟨u7, hu7⟩ : ∃ u, fiW w7 F5 = u := ⟨_, rfl⟩
  rw [hu7] at a7 f7 H7 O7 O27
  rw [show w7.alloc (.cells #[.int .u32 (F5.num : Int), .int .i64 F5.lv, .string F5.a, .string F5.z] 37) = u7 from hu7]
  obtain ⟨b7, hb7'⟩ : ∃ b, w7.heap.size = b := ⟨_, rfl⟩
  rw [hb7'] at f7 ⊢
  have F7 := Lib.hid f7
  clear hb7 a7 f7 hu7 H6 O6 O26 hb7'
  refine (file11_any F51 _).mono ?_
  rintro e w8 ⟨rfl, hb8⟩
  have a8 := fiW_below w8 F51
  have f8 := fi1_lit w8 F51
  have g8 := up_lies (up_lies F7.out hb8) a8
  have H8 := Lib.hid (be_trans H7.out (be_trans hb8 a8)); have O8 := Lib.hid (own_below O7.out (be_trans hb8 a8)); have O28 := Lib.hid (own_below O27.out (be_trans hb8 a8))
  have D2 := Lib.hid (do_any 1 1 0 _ _ none 1 1 0 [F5] [F51] [] 0 0 0 _ g8 f8 (Lies.none_ _ _ _ _) (fun f hf => sz_lit (by simp at hf; simp [hf])) (fun f hf => sz_lit (by simp at hf; simp [hf])) (fun k hk => by cases hk) (by decide) (by decide) (by decide))
  clear hb8 a8 f8 g8 H7 O7 O27 F7
  go_wp2_with fail
  refine Calls.mono D2.out ?_
  rintro e w9 ⟨hb9, (⟨hyes, _⟩ | ⟨_, rfl⟩)⟩
  case inl => exact (do2_no hyes).elim
  have H9 := Lib.hid (be_trans H8.out hb9); have O9 := Lib.hid (own_below O8.out hb9); have O29 := Lib.hid (own_below O28.out hb9)
  clear D2 hb9 H8 O8 O28
  go_wp2_with fail
  -- a level that isn't
  refine (file11_any F14 _).mono ?_
  rintro e w10 ⟨rfl, hb10⟩
  have a10 := fiW_below w10 F14
  have f10 := fi1_lit w10 F14
  have H10 := Lib.hid (be_trans H9.out (be_trans hb10 a10)); have O10 := Lib.hid (own_below O9.out (be_trans hb10 a10)); have O210 := Lib.hid (own_below O29.out (be_trans hb10 a10))
  have D3 := Lib.hid (edPut_any ⟨[F14], [], 0, 0, 0⟩ 1 0 1 0 _ none _ f10 (Lies.none_ _ _ _ _) (fun f hf => sz_lit (by simp at hf; simp [hf])) ⟨by decide, by decide, by decide, by decide, by decide, by decide, by decide⟩ (by decide) (by decide))
  clear hb10 a10 f10 H9 O9 O29
  go_wp2_with fail
  refine Calls.mono D3.out ?_
  rintro e w11 ⟨hb11, (⟨hyes, _⟩ | ⟨_, rfl⟩)⟩
  case inl => rw [p14_no] at hyes; cases hyes
  have H11 := Lib.hid (be_trans H10.out hb11); have O11 := Lib.hid (own_below O10.out hb11); have O211 := Lib.hid (own_below O210.out hb11)
  clear D3 hb11 H10 O10 O210
  go_wp2_with fail
  -- keys the wrong way round
  refine (file11_any FBA _).mono ?_
  rintro e w12 ⟨rfl, hb12⟩
  have a12 := fiW_below w12 FBA
  have f12 := fi1_lit w12 FBA
  have H12 := Lib.hid (be_trans H11.out (be_trans hb12 a12)); have O12 := Lib.hid (own_below O11.out (be_trans hb12 a12)); have O212 := Lib.hid (own_below O211.out (be_trans hb12 a12))
  have D4 := Lib.hid (edPut_any ⟨[FBA], [], 0, 0, 0⟩ 1 0 1 0 _ none _ f12 (Lies.none_ _ _ _ _) (fun f hf => sz_lit (by simp at hf; simp [hf])) ⟨by decide, by decide, by decide, by decide, by decide, by decide, by decide⟩ (by decide) (by decide))
  clear hb12 a12 f12 H11 O11 O211
  go_wp2_with fail
  refine Calls.mono D4.out ?_
  rintro e w13 ⟨hb13, (⟨hyes, _⟩ | ⟨_, rfl⟩)⟩
  case inl => rw [pba_no] at hyes; cases hyes
  have H13 := Lib.hid (be_trans H12.out hb13); have O13 := Lib.hid (own_below O12.out hb13); have O213 := Lib.hid (own_below O212.out hb13)
  clear D4 hb13 H12 O12 O212
  have l14 := lits_lie (w := w13) rfl (([0, 0, 0, 0] : List UInt8).map bv) 5
  have a14 := al_below w13 (.cells (([0, 0, 0, 0] : List UInt8).map bv).toArray 5)
  have D5 := Lib.hid (edGet_any (some ⟨w13.heap.size, 0, none⟩) 4 4 [0, 0, 0, 0] (w13.alloc (.cells (([0, 0, 0, 0] : List UInt8).map bv).toArray 5)) (by rw [World.size_alloc]; exact l14) (by decide) (by unfold maxLen; omega) (by decide))
  have H14 := Lib.hid (be_trans H13.out a14); have O14 := Lib.hid (own_below O13.out a14); have O214 := Lib.hid (own_below O213.out a14)
  clear l14 a14 H13 O13 O213
  go_wp2_with fail
  refine Calls.mono D5.out ?_
  rintro e w15 ⟨hb15, _, hno⟩
  obtain rfl := hno got0
  have H15 := Lib.hid (be_trans H14.out hb15); have O15 := Lib.hid (own_below O14.out hb15); have O215 := Lib.hid (own_below O214.out hb15)
  clear D5 hb15 hno H14 O14 O214
  have a16 := al_below w15 (.cells #[.slice none 0 0, .slice none 0 0, .int .u32 0, .int .u32 0, .int .u64 0] 27)
  have O16 := own_below O15.out a16
  have O216 := own_below O215.out a16
  have HF := Lib.hid (be_trans H15.out a16)
  have hl16 := Lies.of_own O16
  have hb16 : Lies (w15.alloc (.cells #[.slice none 0 0, .slice none 0 0, .int .u32 0, .int .u32 0, .int .u64 0] 27)) _ 1 A2 15 (([1, 172, 2, 1, 1, 97, 2, 98, 99, 1, 5, 6, 7, 200, 1] : List UInt8).map bv) := Lies.of_own O216
  have hstr := run_str (P := Try.prog) (w15.alloc (.cells #[.slice none 0 0, .slice none 0 0, .int .u32 0, .int .u32 0, .int .u64 0] 27)) 39 9 5 Try.underlying39 Try.underlying5 Try.underlying9 c2 hb16
  have hseq : ((⟨[1, 172, 2, 1, 1, 97, 2, 98, 99, 1, 5, 6, 7, 200, 1].toArray⟩ : ByteArray).toList == (⟨#[1, 172, 2, 1, 1, 97, 2, 98, 99, 1, 5, 6, 7, 200, 1]⟩ : ByteArray).toList) = true := by decide +kernel
  have v0 : (w15.alloc (.cells #[.slice none 0 0, .slice none 0 0, .int .u32 0, .int .u32 0, .int .u64 0] 27)).cell? ⟨g5, 0, none⟩ = some (.int .u32 3) := by
    obtain ⟨b, o, x, hA, _, hx, c0, _⟩ := hl16.file (i := 0) (by decide)
    injection hA with hA
    injection hA with e1 e2 _
    subst e1 e2
    have hx : x = F3 := by simpa using hx.symm
    subst hx
    exact c0
  have v1 : (w15.alloc (.cells #[.slice none 0 0, .slice none 0 0, .int .u32 0, .int .u32 0, .int .u64 0] 27)).cell? ⟨g5, 4, none⟩ = some (.int .u32 300) := by
    obtain ⟨b, o, x, hA, _, hx, c0, _⟩ := hl16.file (i := 1) (by decide)
    injection hA with hA
    injection hA with e1 e2 _
    subst e1 e2
    have hx : x = F300 := by simpa using hx.symm
    subst hx
    exact c0
  clear a16 O16 O216 hl16 hb16 H15 O15 O215
  go_wp2
  go_ret
  exact ⟨rfl, HF.out⟩
end Go.Proofs.Ytnnocjnmfabnaaa
