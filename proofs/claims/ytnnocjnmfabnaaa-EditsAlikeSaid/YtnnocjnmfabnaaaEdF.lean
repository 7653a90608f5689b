/-
  Package edits: a set's files as a list: maps.Values, slices.AppendSeq, slices.Collect.
-/
import Derived.Test.YtnnocjnmfabnaaaEdC
import Derived.Test.YtnnocjnmfabnaaaRangeR
import Derived.OwnWalkIn
import Derived.TacticsInMore
import Derived.LoopNIn
import Derived.LoopIn
import Derived.LoopTactic
import Derived.Shelf.RegionOpen
import Derived.Deep.Cut
namespace Go.Proofs.Ytnnocjnmfabnaaa
open Go.RowKit
set_option linter.unusedVariables false
set_option maxRecDepth 100000

theorem values_any (g : Nat) (w : World) :
    Calls Try.prog 22 #[.map (some g)] w fun e w' => e = .returned (.func (.func 37) #[] #[.pointer (some ⟨w.heap.size, 0, none⟩)]) ∧ w' = w.alloc (.cells #[.map (some g)] 47) := by
  have hmf : ∀ (fn : Fn) (first cap : Array Value) (w : World), (Instr.makeFunc fn first cap).run Try.prog w = .ok (.func fn first cap) w := fun _ _ _ _ => rfl
  go_enter Try.func22, Try.ntmps22
  go_wp2
  go_ret
  exact ⟨rfl, rfl⟩

/-- the files that have come -/
structure Come (left : Lit → Bool) (pre mm : List Fi) : Prop where
  nd : (nms pre).Nodup
  sub : ∀ x ∈ pre, x ∈ mm ∧ left (kF x.num) = false
  all : ∀ f ∈ mm, left (kF f.num) = false → f ∈ pre
theorem Come.start {D : FD} {mm : List Fi} (h : Rep D mm) : Come (Maps.has D) [] mm :=
  ⟨List.nodup_nil, (fun x hx => by cases hx), fun f hf e => by
    rw [h.has (h.lt f hf)] at e
    exact absurd (nms_mem.2 ⟨f, hf, rfl⟩) (hasN_no.1 e)⟩
theorem Come.step {left : Lit → Bool} {pre mm : List Fi} {c : Fi} (h : Come left pre mm) (hn : (nms mm).Nodup) (hc : c ∈ mm) (hl : left (kF c.num) = true) : Come (fun z => left z && !z.sameKey (kF c.num)) (pre ++ [c]) mm := by
  refine ⟨?_, ?_, ?_⟩
  · rw [nms_app, List.nodup_append]
    refine ⟨h.nd, by simp [nms], fun a ha b hb e => ?_⟩
    have hb' : b = c.num := by simpa [nms] using hb
    subst hb'
    obtain ⟨x, hx, q⟩ := nms_mem.1 ha
    have := (h.sub x hx).2
    rw [q, e, hl] at this
    cases this
  · intro x hx
    rcases List.mem_append.1 hx with q | q
    · exact ⟨(h.sub x q).1, by rw [(h.sub x q).2]; rfl⟩
    · obtain rfl : x = c := by simpa using q
      exact ⟨hc, by rw [WideAt.sameKey_self (isKeyF _)]; simp⟩
  · intro f hf e
    by_cases hlf : left (kF f.num) = false
    · exact List.mem_append_left _ (h.all f hf hlf)
    · have hlf : left (kF f.num) = true := by simpa using hlf
      rw [hlf, Bool.true_and, Bool.not_eq_false'] at e
      have e2 := WideAt.sameKey_eq e
      have e3 : f.num = c.num := by injection e2 with _ e2; omega
      rw [one_num hn hf hc e3]
      simp
theorem nodup_of_nms {l : List Fi} (h : (nms l).Nodup) : l.Nodup := by
  unfold nms at h
  rw [List.Nodup, List.pairwise_map] at h
  exact h.imp fun q e => q (by rw [e])
theorem Come.done {left : Lit → Bool} {pre mm : List Fi} (h : Come left pre mm) (hn : (nms mm).Nodup) (hl : ∀ k, left k = false) : pre.Perm mm :=
  (List.perm_ext_iff_of_nodup (nodup_of_nms h.nd) (nodup_of_nms hn)).2 fun f => ⟨fun q => (h.sub f q).1, fun q => h.all f q (hl _)⟩

set_option maxHeartbeats 4000000 in
theorem vals1_any (m l Bm g N : Nat) (mm : List Fi) (J : List Fi → World → Prop) (W : World) (hJ : AbidesFrom W.heap.size J)
    (hY : ∀ pre x W1, J pre W1 → pre.length < N → YieldAt Fence.wide m Try.prog l #[x.v] W1 fun e W' => (e = .returned (.bool true) ∧ J (pre ++ [x]) W' ∧ KeepsWalks W1 W') ∨ (e = .returned (.bool false) ∧ False))
    (hs : W.cell? ⟨Bm, 0, none⟩ = some (.map (some g))) (hM : FMap W g N mm) (h0 : J [] W) :
    Calls Try.prog 37 (#[.func (.yield l) #[] #[]] ++ #[.pointer (some ⟨Bm, 0, none⟩)]) W fun e W' => (∃ v, e = .returned v) ∧ ∃ xs : List Fi, xs.Perm mm ∧ J xs W' := by
  obtain ⟨D, hown, hRep⟩ := hM
  have hsz := World.ownsMap.size_le hown
  have HJ := Lib.hid hJ; have HY := Lib.hid hY; have HRep := Lib.hid hRep; have H0 := Lib.hid h0; have HSz := Lib.hid hsz; have HO := Lib.hid hown
  clear hJ hY hRep h0 hsz hown
  simp only [List.append_toArray, List.cons_append, List.nil_append]
  go_enter Try.func37, Try.ntmps37
  go_wp2_with (at_range; refine wpList_range_own _ rfl _ 47 rfl 24 37 keyF Try.underlying47 fE g N D rfl HO.out ?_; intro w0 hrg0 hg0 hs0)
  have HR : Hid (∃ (left : Lit → Bool) (cnt : Nat) (pre : List Fi), w0.ranges Try.prog 24 fE g W.heap.size N D left cnt ∧ pre.length + cnt ≤ Maps.size D ∧ Come left pre mm ∧ J pre w0) :=
    ⟨_, _, [], hrg0, by simp, Come.start HRep.out, HJ.out [] W w0 none H0.out hg0 (fun r e => by cases e)⟩
  have HW0 : Hid (W.heap.size ≤ w0.heap.size) := hg0.size
  clear hrg0 hg0 hs0 HO H0
  go_frame
  go_loopw [4] (fun _ wr => ∃ (left : Lit → Bool) (cnt : Nat) (pre : List Fi), wr.ranges Try.prog 24 fE g W.heap.size N D left cnt ∧ pre.length + cnt ≤ Maps.size D ∧ Come left pre mm ∧ J pre wr) (fun _ wr => wr.rangeLeft g W.heap.size)
  case atStart => exact HR.out
  case round =>
    clear HR
    obtain ⟨left, cnt, pre, hrg, hcs, hC, hj⟩ := hrel
    have HRg := Lib.hid hrg; have HC := Lib.hid hC; have HJp := Lib.hid hj
    clear hC hj
    go_wp2_with (at_next; refine wpList_next_ranges _ rfl _ rfl 24 keyF fE (Value.int .u32) Fi.v (fun key kl hk => by obtain ⟨x, hx, _⟩ := Maps.keyOf_int_inv Try.underlying24 hk; exact ⟨x, hx⟩) (fun v y hv => by obtain ⟨f, hf, _⟩ := fE_inv hv; exact ⟨f, hf⟩) g W.heap.size N _ _ _ rfl hrg ?_ ?_)
    · intro hc0 hl0
      have HFin : Hid (pre.Perm mm ∧ J pre wr) := ⟨HC.out.done HRep.out.nd hl0, HJp.out⟩
      clear hl0 hrg
      go_wp2
      go_end0
      exact ⟨⟨_, rfl⟩, pre, HFin.out.1, HFin.out.2⟩
    · intro x c kl yd yp w2 cnt2 hkey hlk hv hat hrg2 hlt hg2 hs2 hen
      obtain ⟨x', ex, rfl, hwf⟩ := Maps.keyOf_int_inv Try.underlying24 hkey
      obtain rfl : x = x' := by injection ex
      obtain ⟨c', ec, ez⟩ := fE_inv hv
      have hcc : c = c' := by
        have e2 := fE_mk c
        rw [ec, fE_mk c'] at e2
        injection e2 with e2
        injection e2 with e2 _
        injection e2 with e2
        exact e2.symm
      subst hcc
      have hyd : yd = .held c := (Prod.mk.inj ez).1
      subst hyd
      have hwf2 : 0 ≤ x ∧ x < 4294967296 := by
        have : (decide (IntKind.u32.min ≤ x) && decide (x ≤ IntKind.u32.max)) = true := hwf
        rw [show IntKind.u32.min = 0 from rfl, show IntKind.u32.max = 4294967295 from rfl] at this
        simp at this
        omega
      obtain ⟨k, hk⟩ : ∃ k : Nat, x = (k : Int) := ⟨x.toNat, by omega⟩
      subst hk
      have hfind : mm.find? (fun f => f.num == k) = some c := by
        have e1 := fun zd => HRep.out.at_ k (by omega) zd
        cases hf : mm.find? (fun f => f.num == k) with
        | none =>
          have e2 := hat .nil
          have e3 := e1 .nil
          rw [hf] at e3
          rw [show kF k = Lit.int .u32 (k : Int) from rfl, e2] at e3
          cases e3
        | some f =>
          have e2 := hat .nil
          have e3 := e1 .nil
          rw [hf] at e3
          rw [show kF k = Lit.int .u32 (k : Int) from rfl, e2] at e3
          injection e3 with e3
          rw [e3]
      have hcm := List.mem_of_find?_eq_some hfind
      have hck : c.num = k := by have := List.find?_some hfind; simpa using this
      subst hck
      have hJ2 : J pre w2 := HJ.out _ wr w2 (some W.heap.size) HJp.out hg2 (fun r e => by cases e; exact ⟨Nat.le_refl _, hrg.iter_walk⟩)
      have hJ3 : J pre (fiW w2 c) := HJ.out _ w2 _ none hJ2 (World.grownBy_alloc w2 _ none) (fun r e => by cases e)
      have hrg3 := hrg2.alloc (.cells #[.int .u32 (c.num : Int), .int .i64 c.lv, .string c.a, .string c.z] 37)
      obtain ⟨p0, p1, p2, p3⟩ := (FiAt.new w2 c).cells
      obtain ⟨fn, tmps, assign, body, hy, hR⟩ := HY.out pre c (fiW w2 c) hJ3 (by have := HSz.out; omega)
      have hy : (Instr.yield l #[.agg #[.int .u32 (c.num : Int), .int .i64 c.lv, .string c.a, .string c.z]]).run Try.prog (fiW w2 c) = .ok (.round l fn tmps assign body) (fiW w2 c) := hy
      have HRd := Lib.hid hR; have HC2 := Lib.hid (HC.out.step HRep.out.nd hcm hlk)
      obtain ⟨w3, hw3⟩ : ∃ w3, w2.alloc (.cells #[.int .u32 (c.num : Int), .int .i64 c.lv, .string c.a, .string c.z] 37) = w3 := ⟨_, rfl⟩
      rw [show fiW w2 c = w3 from hw3] at hy HRd p0 p1 p2 p3
      rw [hw3] at hrg3
      have HRg3 := Lib.hid hrg3; have HLt := Lib.hid hlt
      unfold Fi.v at hen
      clear hs2 hR hJ2 hJ3 hrg2 hrg3 hfind hcm hlk hat hv hkey ez ec hwf hg2 hlt
      go_upto_region 3 with fail
      refine (wpIn_wide (n := m + 1)).1 ?_
      gi_wp2_with fail
      refine HRd.out.mono ?_
      rintro e W6 (⟨rfl, hJ6, hk6⟩ | ⟨_, hno⟩)
      · have hrg6 := HRg3.out.of_walks hk6
        have HFin : Hid (∃ (left : Lit → Bool) (cnt : Nat) (pre : List Fi), W6.ranges Try.prog 24 fE g W.heap.size N D left cnt ∧ pre.length + cnt ≤ Maps.size D ∧ Come left pre mm ∧ J pre W6) :=
          ⟨_, cnt2, pre ++ [c], hrg6, by have := HLt.out; simp; omega, HC2.out, hJ6⟩
        have HMs : Hid (W6.rangeLeft g W.heap.size < wr.rangeLeft g W.heap.size) := by
          unfold Hid; rw [hrg6.left_eq, HRg.out.left_eq]; exact HLt.out
        clear hrg6 hJ6 hk6 hy hen hw3 p0 p1 p2 p3 hrg
        gi_wp2_with fail
        go_wp2
        go_roundw
        case rel => exact HFin.out
        case measure => exact HMs.out
      · exact hno.elim

/-- append, as a step that the walk does not lay open -/
def appF (ats : Array TypeId) (ty : TypeId) (args : Array Value) : Sem Value := Builtin.append_ ats ty args
theorem builtin_appF {ats : Array TypeId} {ty : TypeId} {cs : Array Bool} {args : Array Value} : builtin .append ats ty cs args = (do pure (.value (← appF ats ty args))) := rfl
/-- a variable that holds a list of files of the call's own -/
structure FlAt (w W : World) (g : Nat) (L : List Fi) (vl : Value) : Prop where
  box : Box W g 22 vl
  row : W.ownsRow (g + 1) 37 4 vl L.length (fcs L)
  low : Below g w W
  hs : g + 1 ≤ W.heap.size
theorem FlAt.below {w W W' : World} {g : Nat} {L : List Fi} {vl : Value} (h : FlAt w W g L vl) (hb : Below W.heap.size W W') : FlAt w W' g L vl :=
  ⟨h.box.below hb h.box.lt, own_below h.row hb, h.low.trans (hb.mono (by have := h.hs; omega)), Nat.le_trans h.hs hb.size⟩
theorem own_kept {w w' : World} {base e k n : Nat} {v : Value} {xs : List Value} (h : w.ownsRow base e k v n xs) {row : Option Nat} (hg : w.grownBy w' row) (hr : ∀ r, row = some r → ∃ o : Obj, w.heap[r]? = some o ∧ o.isCells = false) : w'.ownsRow base e k v n xs := by
  refine ⟨h.1, ?_⟩
  rcases h.2 with h2 | ⟨g, cap, cur, hv, hgb, hh, r⟩
  · exact .inl h2
  · refine .inr ⟨g, cap, cur, hv, hgb, (hg.block g (Array.getElem?_eq_some_iff.1 hh).1 (fun q => ?_)).trans hh, r⟩
    obtain ⟨o, ho, hc⟩ := hr g q.symm
    rw [hh] at ho
    injection ho with ho
    subst ho
    cases hc
theorem FlAt.other {w W W' : World} {g : Nat} {L : List Fi} {vl : Value} {row : Option Nat} (h : FlAt w W g L vl) (hg : W.grownBy W' row) (hr : ∀ r, row = some r → g + 1 ≤ r ∧ ∃ o : Obj, W.heap[r]? = some o ∧ o.isCells = false) : FlAt w W' g L vl :=
  ⟨h.box.grown hg (fun e => by have := (hr g e.symm).1; omega), own_kept h.row hg (fun r e => (hr r e).2), h.low.grown hg (by have := h.hs; omega) (fun r e => by have := (hr r e).1; omega), Nat.le_trans h.hs hg.size⟩
theorem FlAt.app {w W : World} {g c n : Nat} {L : List Fi} {x : Fi} {A : Option Addr} (h : FlAt w W g L (.slice A n c)) (hn : L.length = n) (hl : n + 1 ≤ 1000000) :
    ∃ A2 c2 W2, (appF #[22, 22] 22 #[.slice A n c, .slice (some ⟨W.heap.size, 0, none⟩) 1 1]).run Try.prog (fiW W x) = .ok (.slice A2 (n + 1) c2) W2 ∧
      (W2.cell? ⟨g, 0, none⟩ = some (.slice A n c) ∧ W2.frozen? ⟨g, 0, none⟩ = false) ∧ Hid (FlAt w (W2.setCell ⟨g, 0, none⟩ (.slice A2 (n + 1) c2)) g (L ++ [x]) (.slice A2 (n + 1) c2) ∧ KeepsOthers W (W2.setCell ⟨g, 0, none⟩ (.slice A2 (n + 1) c2))) := by
  subst hn
  have h1 := h.below (fiW_below W x)
  obtain ⟨i0, hi, hz0, hz1, hz2⟩ := info_parts file_info
  obtain ⟨v1, W2, hrun, hown, hgr, _⟩ := run_app (P := Try.prog) (fiW W x) (g + 1) 22 22 37 i0 _ 4 48 Try.underlying22 hi hz0 hz1 hz2 rfl (by decide) (.slice A L.length c) L.length (fcs L) h1.row (W.heap.size + 1) (some ⟨W.heap.size, 0, none⟩) 1 1 (fcs [x]) (fi_lies W x) (fcs_one [x]) (by unfold maxLen; omega) (by omega) h1.hs
  obtain ⟨A2, c2, rfl, _⟩ := own_shape hown
  have hbx : Box W2 g 22 (.slice A L.length c) := h1.box.grown hgr (h1.box.not_own h1.row (by decide))
  have hr2 : W2.ownsRow (g + 1) 37 4 (.slice A2 (L.length + 1) c2) (L ++ [x]).length (fcs (L ++ [x])) := by
    rw [fcs_app, List.length_append]; exact hown
  refine ⟨A2, c2, W2, hrun, ⟨hbx.cell, hbx.frozen⟩, ⟨⟨hbx.set _, own_setBox hr2 hbx (by decide) _, ?_, ?_⟩, ?_⟩⟩
  · exact (h1.low.grown hgr (by have := h1.hs; omega) (fun r e => by have := (own_cell h1.row e).1; omega)).setCell (p := ⟨g, 0, none⟩) (Nat.le_refl _) _
  · have e : (W2.setCell ⟨g, 0, none⟩ (.slice A2 (L.length + 1) c2)).heap.size = W2.heap.size := by simp [World.setCell]
    rw [e]; exact Nat.le_trans h1.hs hgr.size
  · refine (KeepsOthers.alloc W _).trans (KeepsOthers.trans ⟨hgr.size, fun k o hk hc => (hgr.block k (Array.getElem?_eq_some_iff.1 hk).1 (fun e => ?_)).trans hk⟩ (KeepsOthers.setCell _ _ _))
    obtain ⟨_, cur, q⟩ := own_cell h1.row e.symm
    rw [hk] at q
    injection q with q
    subst q
    cases hc
theorem KeepsOthers.walks {W W' : World} (h : KeepsOthers W W') : KeepsWalks W W' := ⟨h.size, fun k o hk ho => h.same k o hk (Obj.not_cells_of_walk ho)⟩

section
attribute [local go_sem] Oper.semAt_some
attribute [local go_sem ↓ 100000] builtin_appF
set_option maxHeartbeats 4000000 in
theorem appendSeq_any (g N Bm : Nat) (mm : List Fi) (w : World) (hM : FMap w g N mm) (hm : w.cell? ⟨Bm, 0, none⟩ = some (.map (some g))) (hN : N ≤ 900000) :
    Calls Try.prog 47 #[.slice none 0 0, .func (.func 37) #[] #[.pointer (some ⟨Bm, 0, none⟩)]] w fun e w' =>
      ∃ v xs, e = .returned v ∧ xs.Perm mm ∧ w'.ownsRow w.heap.size 37 4 v xs.length (fcs xs) ∧ Below w.heap.size w w' := by
  have HM := Lib.hid hM
  have hBm := World.block_lt_of_cell? w _ hm
  refine (callsIn_wide (n := 6)).1 ?_
  refine callsIn_of_wp_marks Try.func47 rfl trivial ?_ rfl
  simp only [Try.ntmps47, List.size_toArray, List.length_cons, List.length_nil, Nat.reduceAdd, Nat.reduceSub, Array.replicate_succ, Array.replicate_zero, List.push_toArray, List.append_toArray, List.nil_append, List.cons_append]
  refine wpIn_wide.2 ?_
  clear hM
  go_wp2_with fail
  obtain ⟨B, hB⟩ : ∃ B, w.heap.size = B := ⟨_, rfl⟩
  have R1 : FlAt w (w.alloc (.cells #[.slice none 0 0] 22)) B [] (.slice none 0 0) := by
    subst hB
    exact ⟨Box.new w _ _, World.ownsRow_nil _ _ _ _, (Below.refl _ _).alloc (Nat.le_refl _) _, by simp⟩
  have hm1 : (w.alloc (.cells #[.slice none 0 0] 22)).cell? ⟨Bm, 0, none⟩ = some (.map (some g)) := (World.cell?_alloc_lt w _ _ hBm).trans hm
  have hM1 : FMap (w.alloc (.cells #[.slice none 0 0] 22)) g N mm := HM.out.kept (gro_alloc w _ none) (by simp)
  have hs1 : (w.alloc (.cells #[.slice none 0 0] 22)).heap.size = B + 1 := by simp [hB]
  obtain ⟨W0, hW0⟩ : ∃ W0, w.alloc (.cells #[.slice none 0 0] 22) = W0 := ⟨_, rfl⟩
  rw [hW0] at R1 hm1 hM1 hs1 ⊢
  have HR1 := Lib.hid R1; have HM1 := Lib.hid hM1; have Hm1 := Lib.hid hm1
  rw [hB]
  clear R1 hM1 hm1 hW0 hm
  refine (wpIn_wide (n := 6)).1 ?_
  refine range_next (m := 5) (α := Fi) (gf := 37) (lb := #[.pointer (some ⟨Bm, 0, none⟩)]) (encs := fun x => #[x.v]) (Kp := KeepsWalks)
    (G := fun pre x => pre.length < N) (S := fun xs => xs.Perm mm)
    rfl (enters_of Try.func37 (by kernel_rfl) rfl) (fun _ => rfl) (fun h k => walksK_t h k) (fun W l o o' h1 h2 h3 h4 => walksK_b W l o o' h1 h2 h3 h4)
    (fun l J W hW hJ hY h0 => vals1_any 5 l Bm g N mm J W hJ hY ((hW.cell (p := ⟨Bm, 0, none⟩) (by show Bm < _; omega)).trans Hm1.out) (HM1.out.below hW HM1.out.lt) h0)
    (fun pre W => ∃ v, FlAt w W B pre v)
    (fun pre X Y row hI hg2 hr => by
      obtain ⟨v, h1⟩ := hI
      exact ⟨v, h1.other hg2 (fun r e => ⟨by have := (hr r e).1; omega, (hr r e).2⟩)⟩)
    ⟨_, HR1.out⟩
    (fun x a' W => ∃ Bx, FiAt W Bx x ∧ a' = { tmps := #[.slice none 0 0, .func (.func 37) #[] #[.pointer (some ⟨Bm, 0, none⟩)], .pointer (some ⟨B, 0, none⟩), undef, .slice none 0 0, .pointer (some ⟨Bx, 0, none⟩), .func (.func 37) #[] #[.pointer (some ⟨Bm, 0, none⟩)], x.v, undef, undef, undef, undef, undef], defers := [] })
    (fun x a' _ X Y row hI hg2 hr => by
      obtain ⟨Bx, h2, h3⟩ := hI
      refine ⟨Bx, (hg2.block Bx h2.lt (fun e => ?_)).trans h2, h3⟩
      obtain ⟨_, o, ho, hc⟩ := hr Bx e.symm
      unfold FiAt at h2
      rw [h2] at ho
      injection ho with ho
      subst ho
      cases hc)
    ?assign ?body ?done
  case assign =>
    rintro l pre x W K ⟨v, hR⟩ hK
    unfold Fi.v at hK ⊢
    gi_wp2
    exact hK _ _ ((KeepsOthers.alloc _ _).from _) ((KeepsOthers.alloc _ _).walks) ⟨v, hR.below ((Below.refl _ _).alloc (Nat.le_refl _) _)⟩ ⟨W.heap.size, FiAt.new W x, rfl⟩
  case body =>
    rintro l pre x a' W ⟨v, hR⟩ ⟨Bx, hx, rfl⟩ hG
    obtain ⟨A, c, rfl, _⟩ := own_shape hR.row
    have hcb := hR.box.cell
    obtain ⟨p0, p1, p2, p3⟩ := hx.cells
    obtain ⟨n, hn⟩ : ∃ n, pre.length = n := ⟨_, rfl⟩
    rw [hn] at hR hcb hG
    obtain ⟨A2, c2, W2, run2, ⟨e2, f2⟩, HP⟩ := hR.app (x := x) hn (by omega)
    have run3 : (appF #[22, 22] 22 #[.slice A n c, .slice (some ⟨W.heap.size, 0, none⟩) 1 1]).run Try.prog (W.alloc (.cells #[.int .u32 (x.num : Int), .int .i64 x.lv, .string x.a, .string x.z] 37)) = .ok (.slice A2 (n + 1) c2) W2 := run2
    have HFin : Hid (KeepsFrom W0.heap.size W (W2.setCell ⟨B, 0, none⟩ (.slice A2 (n + 1) c2)) ∧ KeepsWalks W (W2.setCell ⟨B, 0, none⟩ (.slice A2 (n + 1) c2)) ∧ ∃ v, FlAt w (W2.setCell ⟨B, 0, none⟩ (.slice A2 (n + 1) c2)) B (pre ++ [x]) v) := ⟨HP.out.2.from _, HP.out.2.walks, _, HP.out.1⟩
    clear hR hx HP run2 hn
    gi_wp2
    exact HFin.out
  case done =>
    rintro D xs W hD hS ⟨v, hR⟩ hK
    have hcb := hR.box.cell
    have hg3 := grownBy_putObj' W D (.deferred none)
    have hR2 := hR.other hg3 (fun r e => by injection e with e; subst e; exact ⟨by omega, _, hK, rfl⟩)
    have HF : Hid (∃ v' xs, Ending.returned v = .returned v' ∧ xs.Perm mm ∧ (W.putObj D (.deferred none)).ownsRow w.heap.size 37 4 v' xs.length (fcs xs) ∧ Below w.heap.size w (W.putObj D (.deferred none))) := ⟨v, xs, rfl, hS, own_base hR2.row (by omega), by rw [hB]; exact hR2.low⟩
    have HK := Lib.hid hK
    obtain ⟨A, c, rfl, _⟩ := own_shape hR.row
    obtain ⟨n, hn⟩ : ∃ n, xs.length = n := ⟨_, rfl⟩
    rw [hn] at hcb HF
    clear hR hR2 hK hg3
    go_wp2
    refine ⟨by simp, .inl ⟨_, _, rfl, run_takeDeferred HK.out, ?_⟩⟩
    refine ⟨_, results_tmp rfl _ _ _, ?_⟩
    exact HF.out
end
theorem ecollect_any (g N Bm : Nat) (mm : List Fi) (w : World) (hM : FMap w g N mm) (hm : w.cell? ⟨Bm, 0, none⟩ = some (.map (some g))) (hN : N ≤ 900000) :
    Calls Try.prog 35 #[.func (.func 37) #[] #[.pointer (some ⟨Bm, 0, none⟩)]] w fun e w' =>
      ∃ v xs, e = .returned v ∧ xs.Perm mm ∧ w'.ownsRow w.heap.size 37 4 v xs.length (fcs xs) ∧ Below w.heap.size w w' := by
  have HA := Lib.hid (appendSeq_any g N Bm mm w hM hm hN)
  clear hM hm
  go_enter Try.func35, Try.ntmps35
  go_wp2_with fail
  refine HA.out.mono ?_
  rintro e w' ⟨v, xs, rfl, h⟩
  have HF := Lib.hid h
  clear h
  go_wp2
  go_ret
  exact ⟨v, xs, rfl, HF.out⟩
end Go.Proofs.Ytnnocjnmfabnaaa
