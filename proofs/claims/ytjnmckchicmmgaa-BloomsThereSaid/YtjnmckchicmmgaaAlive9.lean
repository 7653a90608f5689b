/-
  bucketlinelaw09's may; its alive answers true.
-/
import Derived.Test.YtjnmckchicmmgaaBlmC
import Derived.Test.YtjnmckchicmmgaaMkZ
import Derived.ArgAppend
namespace Go.Proofs.Ytjnmckchicmmgaa
open Go.RowKit
set_option linter.unusedVariables false
set_option maxRecDepth 100000

theorem Blm.may_zero {b s : List UInt8} (h : (Blm.may b s).1 = true) : (Blm.may b s).2 = 0 := by
  unfold Blm.may at h ⊢
  split at h
  · cases h
  · rename_i h2; rw [if_neg h2]
theorem may9_any (A : Option Addr) (n c B : Nat) (b : List UInt8) (key : ByteArray) (w : World) (h : Lies w B 1 A n (b.map bv)) (hB : B ≤ w.heap.size) (hnc : n ≤ c) (hn : n ≤ 140737488355328) (hs : key.size ≤ 1099511627776) :
    Calls Try.prog 15 #[.slice A n c, .string key] w fun e w' => e = .returned (.bool (Blm.may b key.data.toList).1) ∧ Below w.heap.size w w' := by
  have H := Lib.hid (blMay_any A n c B b key w h hB hnc hn hs)
  have hz := @Blm.may_zero b key.data.toList
  rcases hm : Blm.may b key.data.toList with ⟨a, er⟩
  rw [hm] at H hz
  have H2 : Hid (Calls Try.prog 9 #[.slice A n c, .string key] w fun e w' => e = .returned (.tuple #[.bool a, .int .i64 (er : Nat)]) ∧ Below w.heap.size w w') := H.out
  clear H h hm
  show Calls _ _ _ _ fun e w' => e = .returned (.bool a) ∧ _
  cases a with
  | false =>
    clear hz
    go_enter Try.func15, Try.ntmps15
    go_wp2_with fail
    refine H2.out.mono ?_
    rintro e w1 ⟨rfl, hb⟩
    have HB := Lib.hid hb; clear hb
    go_wp2
    go_ret
    exact ⟨rfl, HB.out⟩
  | true =>
    obtain rfl : er = 0 := hz rfl
    clear hz
    go_enter Try.func15, Try.ntmps15
    go_wp2_with fail
    refine H2.out.mono ?_
    rintro e w1 ⟨rfl, hb⟩
    have HB := Lib.hid hb; clear hb
    go_wp2
    go_ret
    exact ⟨rfl, HB.out⟩

theorem put9_any (n N : Nat) (hN : Blm.size n + 1 = N) (A : Option Addr) (c B : Nat) (T : List ByteArray) (w : World) (h : Lies w B 1 A n (T.map Value.string)) (hB : B ≤ w.heap.size) (hT : ∀ s ∈ T, s.size ≤ 1099511627776) (hn : n ≤ 1048576) :
    Calls Try.prog 14 #[.slice A n c] w fun e w' => Got w N (Blm.filt (kys T)) e w' := by
  subst hN; exact blPut_any A n c B T w h hB hT hn
theorem strs_info : (Try.prog.info? 9).map (fun i => (i.zero, i.size, i.bytes)) = some (some (.string ByteArray.empty), 1, 16) := by kernel_rfl
theorem sv_one (T : List ByteArray) : ∀ u ∈ T.map Value.string, u.oneCell' = true := by
  intro u hu
  obtain ⟨c, _, rfl⟩ := List.mem_map.1 hu
  rfl
/-- append onto a full list of strings that is read still; its operation may stand behind a guard -/
theorem wpList_app9 (w : World) {ops : Array Oper} {rest : List Oper} {o : Oper} {a : Act} {Q : Exit → Act → World → Prop} (hw : Region.wanted o (yielded ops a.tmps) = true) (s x : Operand)
    (ho : o.op = .call { callee := .builtin .append, args := #[s, x], argTypes := #[29, 29] })
    (B g n : Nat) (T : List ByteArray) (hs : a.eval s = .slice (some ⟨g, 0, none⟩) n n) (hl : Lies w B 1 (some ⟨g, 0, none⟩) n (T.map Value.string))
    (B2 : Nat) (ad : Addr) (m c2 : Nat) (T2 : List ByteArray) (hx : a.eval x = .slice (some ad) m c2) (hl2 : Lies w B2 1 (some ad) m (T2.map Value.string)) (hm : 0 < m)
    (h63 : n + m ≤ 1000000)
    (h : ∀ A' c' w', w'.ownsRow w.heap.size 9 1 (.slice A' (n + m) c') (n + m) ((T ++ T2).map Value.string) → Below w.heap.size w w' →
      wpList Try.prog ops Q rest (a.put o.dst (.slice A' (n + m) c')) w') : wpList Try.prog ops Q (o :: rest) a w := by
  obtain ⟨i0, hi, hz0, hz1, hz2⟩ := info_parts strs_info
  have at_ : ∀ {B : Nat} {ad : Addr} {m : Nat} {T : List ByteArray}, Lies w B 1 (some ad) m (T.map Value.string) → ∀ j u, (T.map Value.string)[j]? = some u → w.cell? (ad.add j) = some u := by
    intro B ad m T hl j u hu
    obtain ⟨ad', u', e', _, hx', hc'⟩ := hl.spot j (List.getElem?_eq_some_iff.1 hu).1
    injection e' with e'
    subst e'
    rw [hu] at hx'
    injection hx' with hx'
    subst hx'
    exact hc'
  have l1 := hl.len
  have l2 := hl2.len
  obtain ⟨v', w', hrun, ho', hg'⟩ := run_append_arg_grows (P := Try.prog) w 29 o.type 9 i0 _ 1 16 Try.underlying29 hi hz0 hz1 hz2 rfl (by decide) ⟨g, 0, none⟩ n n (T.map Value.string) (by omega) (at_ hl) ad m c2 (T2.map Value.string) (by omega) (at_ hl2) (by omega) (by unfold maxLen; omega) (by omega)
  obtain ⟨A', c', rfl, hn', hc', _⟩ := own_shape ho'
  unfold wpList
  rw [if_pos hw]
  refine .inl ?_
  unfold Oper.wp execOp
  simp only [ho, resolve, invoke, builtin, Sem.run_bind, Sem.run_pure, Result.andThen_ok, List.map_toArray, List.map_cons, List.map_nil, hs, hx, hrun]
  exact h A' c' w' (by rw [List.map_append]; exact ho') ⟨hg'.os, hg'.tape, hg'.output, hg'.size, fun k hk => hg'.block k hk (by simp)⟩

/-- the literal of seven keys -/
def T7 : List ByteArray := [⟨#[49]⟩, ⟨#[50]⟩, ⟨#[51]⟩, ⟨#[52]⟩, ⟨#[53]⟩, ⟨#[54]⟩, ⟨#[55]⟩]
theorem small_T (T : List ByteArray) (h : T.all (fun s => s.size ≤ 1000) = true) : ∀ s ∈ T, s.size ≤ 1099511627776 := fun s hs => by
  have := List.all_eq_true.1 h s hs
  simp at this
  omega

/-- where alive stands: the seven keys lie there -/
def S7 (w W : World) : Prop := Below w.heap.size w W ∧ Lies W W.heap.size 1 (some ⟨w.heap.size, 0, none⟩) 7 (T7.map Value.string)
theorem S7.below {w W W' : World} (h : S7 w W) (hb : Below W.heap.size W W') : S7 w W' := ⟨h.1.trans (hb.mono h.1.size), (h.2.below hb).more hb.size⟩
theorem S7.alloc {w W : World} (h : S7 w W) (o : Obj) : S7 w (W.alloc o) := h.below ((Below.refl _ _).alloc (Nat.le_refl _) o)
theorem S7.start (w : World) : S7 w (w.alloc (.cells (T7.map Value.string).toArray 9)) := by
  refine ⟨(Below.refl _ _).alloc (Nat.le_refl _) _, ?_⟩
  have h := lits_lie (w := w) rfl (T7.map Value.string) 9
  simp at h ⊢
  exact h
theorem may8_no (w W : World) (h : S7 w W) : Calls Try.prog 9 #[.slice (some ⟨W.heap.size, 0, none⟩) 8 8, .string ⟨#[97]⟩] (mkZ W 8) fun e w' => e = .returned (.tuple #[.bool false, .int .i64 4]) ∧ S7 w w' := by
  obtain ⟨_, hl, hb⟩ := mkZ_is W 8 (by decide)
  have hc := blMay_any _ 8 8 _ (List.replicate 8 0) ⟨#[97]⟩ (mkZ W 8) hl (Nat.le_refl _) (Nat.le_refl _) (by decide) (by decide)
  have e : Blm.may (List.replicate 8 0) [97] = (false, 4) := rfl
  exact hc.mono fun e' w' ⟨he, hb2⟩ => ⟨he, (h.below hb).below hb2⟩
theorem may9_no (w W : World) (h : S7 w W) : Calls Try.prog 9 #[.slice (some ⟨W.heap.size, 0, none⟩) 9 9, .string ⟨#[97]⟩] (mkZ W 9) fun e w' => e = .returned (.tuple #[.bool false, .int .i64 4]) ∧ S7 w w' := by
  obtain ⟨_, hl, hb⟩ := mkZ_is W 9 (by decide)
  have hc := blMay_any _ 9 9 _ (List.replicate 9 0) ⟨#[97]⟩ (mkZ W 9) hl (Nat.le_refl _) (Nat.le_refl _) (by decide) (by decide)
  exact hc.mono fun e' w' ⟨he, hb2⟩ => ⟨he, (h.below hb).below hb2⟩
/-- an answer of Put, as alive uses it -/
def P7 (w : World) (n : Nat) (l : List UInt8) (e : Ending) (w' : World) : Prop := ∃ A c, e = .returned (.slice A n c) ∧ n ≤ c ∧ Lies w' w'.heap.size 1 A n (l.map bv) ∧ S7 w w'
theorem p7_of {w W w' : World} (h : S7 w W) {n : Nat} {l : List UInt8} {e : Ending} (g : Got W n l e w') : P7 w n l e w' := by
  obtain ⟨A, c, he, h1, h2, ho, hb⟩ := g
  exact ⟨A, c, he, h1, Lies.of_own ho, h.below hb⟩
theorem putNil (w W : World) (h : S7 w W) : Calls Try.prog 14 #[.slice none 0 0] W fun e w' => P7 w 9 (Blm.filt []) e w' :=
  (put9_any 0 9 (by decide) none 0 _ [] W (Lies.none_ _ _ _ _) (Nat.le_refl _) (fun s hs => by cases hs) (by decide)).mono fun e w' g => p7_of h g
theorem mayNil (w W : World) (h : S7 w W) (A : Option Addr) (c : Nat) (hc : 9 ≤ c) (hl : Lies W W.heap.size 1 A 9 ((Blm.filt []).map bv)) :
    Calls Try.prog 9 #[.slice A 9 c, .string ⟨#[97]⟩] W fun e w' => e = .returned (.tuple #[.bool false, .int .i64 0]) ∧ S7 w w' := by
  have hc := blMay_any A 9 c _ (Blm.filt []) ⟨#[97]⟩ W hl (Nat.le_refl _) hc (by decide) (by decide)
  have e : Blm.may (Blm.filt []) [97] = (false, 0) := by
    rw [Blm.may_filt]
    have e2 := Blm.hasK_zero 8 [97]
    show (Blm.hasK (List.replicate 8 0) [97] 6, 0) = _
    rw [e2]
  rw [show (⟨#[97]⟩ : ByteArray).data.toList = [97] from rfl, e] at hc
  exact hc.mono fun e' w' ⟨he, hb2⟩ => ⟨he, h.below hb2⟩
theorem put7s (w W : World) (h : S7 w W) : Calls Try.prog 14 #[.slice (some ⟨w.heap.size, 0, none⟩) 7 7] W fun e w' => P7 w 10 (Blm.filt (kys T7)) e w' :=
  (put9_any 7 10 (by decide) _ 7 _ T7 W h.2 (Nat.le_refl _) (small_T _ (by decide)) (by decide)).mono fun e w' g => p7_of h g
theorem putOwn (w W : World) (h : S7 w W) (n N : Nat) (hN : Blm.size n + 1 = N) (hn : n ≤ 100) (A : Option Addr) (c B : Nat) (T : List ByteArray) (hT : T.all (fun s => s.size ≤ 1000) = true) (hl : Lies W W.heap.size 1 A n (T.map Value.string)) :
    Calls Try.prog 14 #[.slice A n c] W fun e w' => P7 w N (Blm.filt (kys T)) e w' :=
  (put9_any n N hN A c _ T W hl (Nat.le_refl _) (small_T _ hT) (by omega)).mono fun e w' g => p7_of h g
theorem mayAB (w W : World) (h : S7 w W) (A : Option Addr) (c : Nat) (hc : 9 ≤ c) (hl : Lies W W.heap.size 1 A 9 ((Blm.filt (kys [⟨#[97]⟩, ⟨#[98]⟩])).map bv)) :
    Calls Try.prog 15 #[.slice A 9 c, .string ⟨#[97]⟩] W fun e w' => e = .returned (.bool true) ∧ S7 w w' := by
  have hc := may9_any A 9 c _ _ ⟨#[97]⟩ W hl (Nat.le_refl _) hc (by decide) (by decide)
  rw [Blm.may_there (l := kys [⟨#[97]⟩, ⟨#[98]⟩]) (s := (⟨#[97]⟩ : ByteArray).data.toList) (List.mem_cons_self)] at hc
  exact hc.mono fun e' w' ⟨he, hb2⟩ => ⟨he, h.below hb2⟩
theorem may255 (w W : World) (h : S7 w W) : Calls Try.prog 15 #[.slice (some ⟨W.heap.size, 0, none⟩) 9 9, .string ⟨#[97]⟩] (W.alloc (.cells #[.int .u8 255, .int .u8 255, .int .u8 255, .int .u8 255, .int .u8 255, .int .u8 255, .int .u8 255, .int .u8 255, .int .u8 6] 5)) fun e w' => e = .returned (.bool true) ∧ S7 w w' := by
  have hl := lit_lies W [255, 255, 255, 255, 255, 255, 255, 255, 6]
  have hc := may9_any _ 9 9 _ [255, 255, 255, 255, 255, 255, 255, 255, 6] ⟨#[97]⟩ _ hl (Nat.le_refl _) (Nat.le_refl _) (by decide) (by decide)
  rw [show (Blm.may [255, 255, 255, 255, 255, 255, 255, 255, 6] (⟨#[97]⟩ : ByteArray).data.toList).1 = true by decide +kernel] at hc
  exact hc.mono fun e' w' ⟨he, hb2⟩ => ⟨he, (h.alloc _).below hb2⟩

set_option maxHeartbeats 8000000 in
theorem alive9_any (w : World) : Calls Try.prog 12 #[] w fun e w' => e = .returned (.bool true) ∧ Below w.heap.size w w' := by
  have hm1 : ∀ w, (Instr.makeSlice 22 (.int .i64 8) (.int .i64 8)).run Try.prog w = .ok (.slice (some ⟨w.heap.size, 0, none⟩) 8 8) (mkZ w 8) := fun w => (mkZ_is w 8 (by decide)).1
  have hm2 : ∀ w, (Instr.makeSlice 22 (.int .i64 9) (.int .i64 9)).run Try.prog w = .ok (.slice (some ⟨w.heap.size, 0, none⟩) 9 9) (mkZ w 9) := fun w => (mkZ_is w 9 (by decide)).1
  have M1 := may8_no w _ (S7.start w)
  have e0 : (w.alloc (.cells (T7.map Value.string).toArray 9)).heap.size = w.heap.size + 1 := by simp
  rw [e0] at M1
  have HM1 := Lib.hid M1
  clear M1 e0
  go_enter Try.func12, Try.ntmps12
  go_wp2_with fail
  refine HM1.out.mono ?_
  rintro e w1 ⟨rfl, h1⟩
  have H1 := Lib.hid h1; clear h1 HM1
  go_wp2_with fail
  refine (may9_no w w1 H1.out).mono ?_
  rintro e w2 ⟨rfl, h2⟩
  have H2 := Lib.hid h2; clear h2 H1
  go_wp2_with fail
  refine (putNil w w2 H2.out).mono ?_
  rintro e w3 ⟨A3, c3, rfl, hc3, hl3, h3⟩
  have HM3 := Lib.hid (mayNil w w3 h3 A3 c3 hc3 hl3); clear hc3 hl3 H2 h3
  go_wp2_with fail
  refine HM3.out.mono ?_
  rintro e w4 ⟨rfl, h4⟩
  have H4 := Lib.hid h4; clear h4 HM3
  go_wp2_with fail
  refine (putNil w w4 H4.out).mono ?_
  rintro e w5 ⟨A5, c5, rfl, _, _, h5⟩
  have H5 := Lib.hid h5; clear h5 H4
  go_wp2_with fail
  refine (put7s w w5 H5.out).mono ?_
  rintro e w6 ⟨A6, c6, rfl, _, _, h6⟩
  have H6 := Lib.hid h6; clear h6 H5
  go_wp2_with (at_builtin; refine wpList_app9 _ (by rfl) (.tmp 34) (.tmp 35) rfl (w6.heap.size) w.heap.size 7 T7 rfl ((H6.out.2).alloc (Nat.le_refl _) _) (w6.heap.size + 1) ⟨w6.heap.size, 0, none⟩ 1 1 [(⟨#[56]⟩ : ByteArray)] rfl (one_lies rfl _ _) (by decide) (by decide) ?_)
  intro A7 c7 w7 ho7 hb7
  have H7 : Hid (S7 w w7) := (H6.out.alloc (.cells #[.string ⟨#[56]⟩] 9)).below (by rw [World.size_alloc]; exact hb7)
  have L7 : Hid (Lies w7 w7.heap.size 1 A7 8 ((T7 ++ [(⟨#[56]⟩ : ByteArray)]).map Value.string)) := Lies.of_own ho7
  clear ho7 hb7 H6
  go_wp2_with fail
  refine (putOwn w w7 H7.out 8 11 (by decide) (by decide) A7 c7 w7.heap.size _ (by decide) L7.out).mono ?_
  rintro e w8 ⟨A8, c8, rfl, _, _, h8⟩
  have H8 := Lib.hid h8; clear h8 H7 L7
  go_wp2_with (at_builtin; refine wpList_app9 _ (by rfl) (.tmp 42) (.tmp 43) rfl (w8.heap.size) w.heap.size 7 T7 rfl ((H8.out.2).alloc (Nat.le_refl _) _) (w8.heap.size + 1) ⟨w8.heap.size, 0, none⟩ 2 2 [(⟨#[56]⟩ : ByteArray), ⟨#[57]⟩] rfl (lits_lie (w := w8) rfl [.string ⟨#[56]⟩, .string ⟨#[57]⟩] _) (by decide) (by decide) ?_)
  intro A9 c9 w9 ho9 hb9
  have H9 : Hid (S7 w w9) := (H8.out.alloc (.cells #[.string ⟨#[56]⟩, .string ⟨#[57]⟩] 9)).below (by rw [World.size_alloc]; exact hb9)
  have L9 : Hid (Lies w9 w9.heap.size 1 A9 9 ((T7 ++ [(⟨#[56]⟩ : ByteArray), ⟨#[57]⟩]).map Value.string)) := Lies.of_own ho9
  clear ho9 hb9 H8
  go_wp2_with fail
  refine (putOwn w w9 H9.out 9 13 (by decide) (by decide) A9 c9 w9.heap.size _ (by decide) L9.out).mono ?_
  rintro e w10 ⟨A10, c10, rfl, _, _, h10⟩
  have h11 := h10.alloc (.cells #[.string ⟨#[97]⟩, .string ⟨#[98]⟩] 9)
  have l11 : Lies (w10.alloc (.cells #[.string ⟨#[97]⟩, .string ⟨#[98]⟩] 9)) (w10.alloc (.cells #[.string ⟨#[97]⟩, .string ⟨#[98]⟩] 9)).heap.size 1 (some ⟨w10.heap.size, 0, none⟩) 2 (List.map Value.string [⟨#[97]⟩, ⟨#[98]⟩]) := by
    have h := lits_lie (w := w10) rfl [Value.string ⟨#[97]⟩, .string ⟨#[98]⟩] 9
    rw [World.size_alloc]; exact h
  have HM11 := Lib.hid (putOwn w _ h11 2 9 (by decide) (by decide) (some ⟨w10.heap.size, 0, none⟩) 2 w10.heap.size _ (by decide) l11)
  clear h10 h11 l11 H9 L9
  go_wp2_with fail
  refine HM11.out.mono ?_
  rintro e w11 ⟨A11, c11, rfl, hc11, hl11, h11⟩
  have HM12 := Lib.hid (mayAB w w11 h11 A11 c11 hc11 hl11)
  clear hc11 hl11 h11 HM11
  go_wp2_with fail
  refine HM12.out.mono ?_
  rintro e w12 ⟨rfl, h12⟩
  have HM13 := Lib.hid (may255 w w12 h12)
  clear h12 HM12
  go_wp2_with fail
  refine HM13.out.mono ?_
  rintro e w13 ⟨rfl, h13⟩
  have HB := Lib.hid h13.1
  clear h13 HM13
  go_wp2
  go_ret
  exact ⟨rfl, HB.out⟩
end Go.Proofs.Ytjnmckchicmmgaa
