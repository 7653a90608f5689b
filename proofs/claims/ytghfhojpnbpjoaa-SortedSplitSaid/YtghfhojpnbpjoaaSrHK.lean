/-
  A loop over an iterator that tells each round what it hands out and where that lies ('G', of the world too); its body may break.
  Package sorted: blockFrames; blocksIn's iterator.
  Package sorted: entriesIn.
  Package sorted: entriesIn: what is read of any bytes.
  Package sorted: All.
-/
import Derived.Test.YtghfhojpnbpjoaaRangeR
import Derived.Test.YtghfhojpnbpjoaaSrMQ
import Derived.Test.YtghfhojpnbpjoaaSrDG
import Derived.Test.YtghfhojpnbpjoaaFrX
import Derived.Test.YtghfhojpnbpjoaaSuX
import Derived.Test.YtghfhojpnbpjoaaRcC
import Derived.Deep.Cut
import Derived.Test.YtghfhojpnbpjoaaBkPQ
import Derived.Shelf.RegionOpen
namespace Go.Proofs.Ytghfhojpnbpjoaa
open Go.RowKit
set_option linter.unusedVariables false

section
variable {α : Type} {P : Program} {m : Nat}
/-- how a round's body ends: as it should, or it breaks -/
def roundBrk (B id : Nat) (Kp : World → World → Prop) (I Ix : List α → World → Prop) (xs : List α) (W : World) : Exit → Act → World → Prop
  | .normal, _, W' => KeepsFrom B W W' ∧ Kp W W' ∧ I xs W'
  | .exit i, _, W' => i = id ∧ KeepsFrom B W W' ∧ Ix xs W'
  | _, _, _ => False

theorem range_brk {g : Operand} {ps : Array Tmp} {assign body : Code} {Q : Exit → Act → World → Prop} {a : Act} {w : World} {gf id : Nat} {lb : Array Value} {encs : α → Array Value} {Kp : World → World → Prop} {G : List α → α → World → Prop} {S Sp : List α → Prop}
    (hg : a.eval g = .func (.func gf) #[] lb) (eg : ∀ args w, (callFunc gf args).run P w = .ok (.enter gf args) w) (hps : ∀ x, (encs x).size = ps.size)
    (hKt : ∀ {A B C : World}, Kp A B → Kp B C → Kp A C) (hKb : ∀ (W : World) (l : Nat) (o o' : Obj), w.heap.size ≤ l → W.heap[l]? = some o → o.isCells = false → o.isWalk = false → Kp W (W.putObj l o'))
    (hseq : ∀ (l : Nat) (J Jx : List α → World → Prop) (W : World), Below w.heap.size w W → AbidesFrom W.heap.size J →
      (∀ pre x W1, J pre W1 → G pre x W1 → YieldAt Fence.wide m P l (encs x) W1 fun e W' => (e = .returned (.bool true) ∧ J (pre ++ [x]) W' ∧ Kp W1 W') ∨ (e = .returned (.bool false) ∧ Jx (pre ++ [x]) W')) → AbidesFrom W.heap.size Jx → J [] W →
      Calls P gf (#[.func (.yield l) #[] #[]] ++ lb) W fun e W' => (∃ v, e = .returned v) ∧ ((∃ xs, S xs ∧ J xs W') ∨ (∃ pre, Sp pre ∧ Jx pre W')))
    (I Ix : List α → World → Prop) (hI : OwnFrom w.heap.size I) (hIx : OwnFrom w.heap.size Ix) (h0 : I [] w) (Ax : List α → α → Act → World → Prop) (hAx : ∀ pre x a', OwnFrom w.heap.size (fun (_ : Unit) W => Ax pre x a' W))
    (hassign : ∀ (l : Nat) (pre : List α) (x : α) (W : World) (K : Act → World → Prop), I pre W → G pre x W → (∀ a' W', KeepsFrom w.heap.size W W' → Kp W W' → I pre W' → Ax pre x a' W' → K a' W') →
      assign.wpIn (Fence.wide.inRound l) m P (Exit.then K (fun _ _ _ => False)) { tmps := (ps.zip (encs x)).foldl (fun t (p, v) => t.setIfInBounds p v) a.tmps, defers := [] } W)
    (hbody : ∀ (l : Nat) (pre : List α) (x : α) (a' : Act) (W : World), I pre W → Ax pre x a' W → body.wpIn (Fence.wide.inRound l) m P (roundBrk w.heap.size id Kp I Ix (pre ++ [x]) W) a' W)
    (hdone : ∀ (D : Nat) (xs : List α) (W : World), w.heap.size ≤ D → S xs → I xs W → W.heap[D]? = some (.deferred (some [])) → Q .normal { a with defers := { target := .collected D, args := #[] } :: a.defers } W)
    (hstop : ∀ (D : Nat) (xs : List α) (W : World), w.heap.size ≤ D → Sp xs → Ix xs W → W.heap[D]? = some (.deferred (some [])) → (Code.exit id).wpIn Fence.wide (m + 1) P Q { a with defers := { target := .collected D, args := #[] } :: a.defers } W) :
    (Code.rangeFunc g ps assign body).wpIn Fence.wide (m + 1) P Q a w := by
  refine wpIn_rangeFunc fun fn hfn => ?_
  obtain ⟨L, hL⟩ : ∃ L : LoopState → Option Code → Loop, L = fun st pe => { state := st, pending := pe, fn, tmps := a.tmps, params := ps, assign, body, defers := w.heap.size } := ⟨_, rfl⟩
  obtain ⟨W1, hW1⟩ : ∃ W1, (w.alloc (.deferred (some []))).alloc (.loop (L .ready none)) = W1 := ⟨_, rfl⟩
  have hgr : w.grownBy W1 none := by rw [← hW1]; exact (World.grownBy_alloc w _ none).trans (World.grownBy_alloc _ _ none)
  have hl1 : W1.heap[w.heap.size + 1]? = some (.loop (L .ready none)) := by
    rw [← hW1]; have := World.alloc_heap_new (w.alloc (.deferred (some []))) (.loop (L .ready none)); rwa [World.size_alloc] at this
  have hd1 : W1.heap[w.heap.size]? = some (.deferred (some [])) := by
    rw [← hW1]; exact (Below.heap_alloc _ _ _ (by simp)).trans (World.alloc_heap_new w _)
  have hb1 : Below w.heap.size w W1 := (Below.refl _ w).grown hgr (Nat.le_refl _) (fun k e => by cases e)
  have hs1 : W1.heap.size = w.heap.size + 2 := by rw [← hW1]; simp
  let J : List α → World → Prop := fun pre W => I pre W ∧ W.heap[w.heap.size + 1]? = some (.loop (L .ready none)) ∧ W.heap[w.heap.size]? = some (.deferred (some []))
  let Jx : List α → World → Prop := fun pre W => Ix pre W ∧ W.heap[w.heap.size + 1]? = some (.loop (L .done (some (.exit id)))) ∧ W.heap[w.heap.size]? = some (.deferred (some []))
  have hrow : ∀ {Y : World} {row : Option Nat}, (∀ r, row = some r → W1.heap.size ≤ r ∧ ∃ o : Obj, Y.heap[r]? = some o ∧ o.isWalk = true) → ∀ r, row = some r → w.heap.size ≤ r ∧ ∃ o : Obj, Y.heap[r]? = some o ∧ o.isCells = false := fun hr r e => by
    obtain ⟨hB, o, ho, hw⟩ := hr r e
    exact ⟨by omega, o, ho, Obj.not_cells_of_walk hw⟩
  have hJ : AbidesFrom W1.heap.size J := by
    rintro pre X Y row ⟨h1, h2, h3⟩ hgxy hr
    exact ⟨hI pre X Y row h1 hgxy (hrow hr), (grownBy_keeps hgxy (fun r e => (hr r e).2) h2 rfl).trans h2, (grownBy_keeps hgxy (fun r e => (hr r e).2) h3 rfl).trans h3⟩
  have hJx : AbidesFrom W1.heap.size Jx := by
    rintro pre X Y row ⟨h1, h2, h3⟩ hgxy hr
    exact ⟨hIx pre X Y row h1 hgxy (hrow hr), (grownBy_keeps hgxy (fun r e => (hr r e).2) h2 rfl).trans h2, (grownBy_keeps hgxy (fun r e => (hr r e).2) h3 rfl).trans h3⟩
  refine ⟨w.heap.size + 1, [{ target := .collected w.heap.size, args := #[] }], W1, { target := .fn (.func gf) lb, args := #[.func (.yield (w.heap.size + 1)) #[] #[]] }, W1, gf, #[.func (.yield (w.heap.size + 1)) #[] #[]] ++ lb, W1, ?_, ?_, (fun f' _ => trivial), ?_, (fun _ => by omega), ?_⟩
  · rw [← hW1, hL]; exact run_enterLoop_outer _ _ _ _ _
  · simp only [resolve, hg]; simp [go_sem]
  · simp [invoke, go_sem, eg]
  · have key := hseq (w.heap.size + 1) J Jx W1 hb1 hJ ?_ hJx ⟨hI [] w W1 none h0 hgr (fun r e => by cases e), hl1, hd1⟩
    · refine callsIn_wide.2 (key.mono ?_)
      rintro e W2 ⟨⟨v, rfl⟩, (⟨xs, hS, hi, hl, hd⟩ | ⟨xs, hS, hi, hl, hd⟩)⟩
      · have he := run_endLoop (P := P) hl (by rw [hL]; simp)
        rw [hL] at he
        exact ⟨none, _, he, hdone _ xs _ (Nat.le_refl _) hS (hI.putObj _ hi (by omega) hl rfl) ((World.putObj_heap_other (by omega)).trans hd)⟩
      · have he := run_endLoop (P := P) hl (by rw [hL]; simp)
        rw [hL] at he
        exact ⟨some (.exit id), _, he, hstop _ xs _ (Nat.le_refl _) hS (hIx.putObj _ hi (by omega) hl rfl) ((World.putObj_heap_other (by omega)).trans hd)⟩
    · rintro pre x W ⟨hi, hl, hd⟩ hG
      have hy := run_yield (P := P) (args := encs x) hl (by rw [hL]; exact hps x)
      rw [hL] at hy
      refine ⟨fn, _, assign, body, hy, roundIn_of_wpIn hfn (hassign _ pre x W _ hi hG fun a₁ W₁ hk1 hkp1 hi1 hax => ?_)⟩
      have hl' : W₁.heap[w.heap.size + 1]? = some (.loop (L .ready none)) := hk1.same _ _ (by omega) hl rfl
      have hd' : W₁.heap[w.heap.size]? = some (.deferred (some [])) := hk1.same _ _ (Nat.le_refl _) hd rfl
      have hlt := (Array.getElem?_eq_some_iff.1 hl').1
      have hbg := run_beginRound (P := P) hl' (by rw [hL])
      refine ⟨_, hbg, ?_⟩
      have hkp2 : Kp W₁ (W₁.putObj (w.heap.size + 1) (.loop { L .ready none with state := .busy })) := hKb _ _ _ _ (by omega) hl' rfl rfl
      have hl2 : (W₁.putObj (w.heap.size + 1) (.loop { L .ready none with state := .busy })).heap[w.heap.size + 1]? = some (.loop { L .ready none with state := .busy }) := World.putObj_heap_same hlt
      have hd2 : (W₁.putObj (w.heap.size + 1) (.loop { L .ready none with state := .busy })).heap[w.heap.size]? = some (.deferred (some [])) := (World.putObj_heap_other (by omega)).trans hd'
      refine wpIn_mono (hbody _ pre x a₁ _ (hI.putObj _ hi1 (by omega) hl' rfl) ((hAx pre x a₁).putObj (s := ()) _ hax (by omega) hl' rfl)) ?_
      rintro e a3 W3 hp
      cases e with
      | normal =>
        obtain ⟨hk3, hkp3, hi3⟩ := hp
        have hl3 := hk3.same _ _ (by omega) hl2 rfl
        have hd3 := hk3.same _ _ (Nat.le_refl _) hd2 rfl
        have he := run_endRound (P := P) none hl3
        refine ⟨_, _, he, .inl ⟨rfl, ⟨hI.putObj _ hi3 (by omega) hl3 rfl, ?_, (World.putObj_heap_other (by omega)).trans hd3⟩, hKt (hKt hkp1 hkp2) (hKt hkp3 (hKb _ _ _ _ (by omega) hl3 rfl rfl))⟩⟩
        have e3 := World.putObj_heap_same (o := .loop { { L .ready none with state := .busy } with state := if (none : Option Code).isNone then .ready else .done, pending := none }) (Array.getElem?_eq_some_iff.1 hl3).1
        rw [e3, hL]
        rfl
      | exit i =>
        obtain ⟨rfl, hk3, hi3⟩ := hp
        have hl3 := hk3.same _ _ (by omega) hl2 rfl
        have hd3 := hk3.same _ _ (Nat.le_refl _) hd2 rfl
        have he := run_endRound (P := P) (some (.exit i)) hl3
        refine ⟨_, _, he, .inr ⟨rfl, hIx.putObj _ hi3 (by omega) hl3 rfl, ?_, (World.putObj_heap_other (by omega)).trans hd3⟩⟩
        have e3 := World.putObj_heap_same (o := .loop { { L .ready none with state := .busy } with state := if (some (Code.exit i)).isNone then .ready else .done, pending := some (.exit i) }) (Array.getElem?_eq_some_iff.1 hl3).1
        rw [e3, hL]
        rfl
      | ret => exact hp.elim
      | goto t => exact hp.elim
      | panic ch => exact hp.elim
      | outgrown => exact hp.elim
end
end Go.Proofs.Ytghfhojpnbpjoaa

namespace Go.Proofs.Ytghfhojpnbpjoaa
open Go.RowKit
set_option linter.unusedVariables false
set_option maxRecDepth 100000

theorem run_head3U (w : World) (A : Option Addr) (n c h : Nat) (h3 : h ≤ c) :
    (Instr.slice 25 (.slice A n c) none (some (.int .u32 (h : Int))) (some (.int .u32 (h : Int)))).run Try.prog w = .ok (.slice A h h) w := by
  obtain ⟨i0, hi, hz0, hz1, hz2⟩ := info_parts byte_info
  unfold Instr.slice
  simp [run_underlying Try.underlying25, Instr.sliceBounds, Instr.sliceBound, asIntOf, sizeOf, typeInfo, hi, h3]
  cases A <;> simp [Addr.add]
/-- what blockFrames answers -/
def BFr (w : World) (B n : Nat) (l : List UInt8) (e : Ending) (w' : World) : Prop :=
  ∃ A m, e = .returned (.slice A m m) ∧ Lies w' B 1 A m ((ahead l).map bv) ∧ m ≤ n ∧ Below w.heap.size w w'
theorem bframes_any (B n c : Nat) (A : Option Addr) (l : List UInt8) (w : World) (h : Lies w B 1 A n (l.map bv)) (hB : B ≤ w.heap.size) (hnc : n ≤ c) (hcc : c ≤ 9223372036854775807) (hn : n ≤ 1099511627776) :
    Calls Try.prog 87 #[.slice A n c] w (BFr w B n l) := by
  have hl := h.blen
  have HL := Lib.hid h
  by_cases h12 : n < 12
  · have hF : Hid (BFr w B n l (.returned (.slice none 0 0)) w) := by
      have e : ahead l = [] := by unfold ahead; rw [if_pos (by omega)]
      exact ⟨none, 0, rfl, by rw [e]; exact Lies.none_ _ _ _ _, by omega, Below.refl _ _⟩
    have hlt : ((n : Int) - 12) < 0 := by omega
    clear h
    go_enter Try.func87, Try.ntmps87
    go_wp2
    go_ret
    exact hF.out
  · obtain ⟨t, ht⟩ : ∃ t, n - 12 = t := ⟨_, rfl⟩
    have hti : (n : Int) - 12 = (t : Int) := by omega
    obtain ⟨z, hz⟩ : ∃ z, flen (l.drop t) = z := ⟨_, rfl⟩
    have hz32 : z < 4294967296 := by rw [← hz]; exact flen_lt _
    have hcut := run_cut w A n c t (by omega)
    have HG := Lib.hid (getFour_any (cutA A c t) (n - t) (c - t) (l.drop t) w ((h.cutA (by omega) hnc).more hB) (by omega) (by omega))
    have hgf : (getFour (l.drop t)).1 = z := hz
    rw [hgf] at HG
    have hw1 : IntKind.u64.wrap (z : Int) = (z : Int) := by rw [IntKind.wrap_u64]; omega
    have hw2 : IntKind.u64.wrap (t : Int) = (t : Int) := by rw [IntKind.wrap_u64]; omega
    have hsl := run_head3U
    by_cases hzt : t < z
    · have hF : Hid (∀ w', Below w.heap.size w w' → BFr w B n l (.returned (.slice none 0 0)) w') := fun w' hb => by
        have e : ahead l = [] := by unfold ahead; rw [hl, ht, hz, if_neg (by omega), if_pos hzt]
        exact ⟨none, 0, rfl, by rw [e]; exact Lies.none_ _ _ _ _, by omega, hb⟩
      have hzi : ((z : Int) > (t : Int)) := by omega
      clear h hz hgf ht
      go_enter Try.func87, Try.ntmps87
      go_wp2_with fail
      refine HG.out.mono ?_
      rintro e w1 ⟨rfl, hb1⟩
      have HF := Lib.hid (hF.out w1 hb1)
      clear hb1 HG hF
      go_wp2
      go_ret
      exact HF.out
    · have hF : Hid (∀ w', Below w.heap.size w w' → BFr w B n l (.returned (.slice A z z)) w') := fun w' hb => by
        have e : ahead l = l.take z := by unfold ahead; rw [hl, ht, hz, if_neg (by omega), if_neg hzt]
        exact ⟨A, z, rfl, by rw [e]; exact (lies_take HL.out (by omega)).keep fun p hp => hb.cell (Nat.lt_of_lt_of_le hp hB), by omega, hb⟩
      have hzi : ¬ ((z : Int) > (t : Int)) := by omega
      have hsl2 := fun W => run_head3U W A n c z (by omega)
      clear h hz hgf ht hsl
      go_enter Try.func87, Try.ntmps87
      go_wp2_with fail
      refine HG.out.mono ?_
      rintro e w1 ⟨rfl, hb1⟩
      have HF := Lib.hid (hF.out w1 hb1)
      clear hb1 HG hF
      go_wp2
      go_ret
      exact HF.out

theorem blocksIn_any (n c : Nat) (A : Option Addr) (w : World) :
    Calls Try.prog 64 #[.slice A n c] w fun e w' => e = .returned (.func (.func 86) #[] #[.pointer (some ⟨w.heap.size, 0, none⟩)]) ∧ w' = w.alloc (.cells #[.slice A n c] 25) := by
  have hmf : ∀ (fn : Fn) (first cap : Array Value) (w : World), (Instr.makeFunc fn first cap).run Try.prog w = .ok (.func fn first cap) w := fun _ _ _ _ => rfl
  go_enter Try.func64, Try.ntmps64
  go_wp2
  go_ret
  exact ⟨rfl, rfl⟩
/-- a block that is handed on: where it lies -/
def BlkAt (W : World) (x : Rcd) : Prop := Lies W W.heap.size 1 x.A x.n (x.l.map bv) ∧ x.n ≤ x.c ∧ x.c ≤ maxLen ∧ x.n ≤ 65536
/-- what holds between two rounds -/
def BlR (B n Bs : Nat) (sv : Value) (b : List UInt8) (J : List Rcd → World → Prop) (v : Value) (wr : World) : Prop :=
  ∃ (pre : List Rcd) (A : Option Addr) (m c : Nat) (r : List UInt8), v = .slice A m c ∧ J pre wr ∧ Lies wr B 1 A m (r.map bv) ∧ m ≤ c ∧ c ≤ 9223372036854775807 ∧ Rest b r (pre.map Rcd.l) ∧ m + 8 * pre.length ≤ n ∧ B ≤ wr.heap.size

set_option maxHeartbeats 4000000 in
theorem blks1_any (m l Bs B n c : Nat) (A : Option Addr) (b : List UInt8) (G : Nat → Prop) (hG : ∀ i, i < B → G i) (hL0 : n ≤ c) (hcc : c ≤ 9223372036854775807) (hn : n ≤ 1099511627776)
    (J Jx : List Rcd → World → Prop) (W : World) (hJ : AbidesFrom W.heap.size J)
    (hY : ∀ pre x W1, J pre W1 → (BlkAt W1 x ∧ pre.length < n + 1) → YieldAt Fence.wide m Try.prog l #[x.v] W1 fun e W' => (e = .returned (.bool true) ∧ J (pre ++ [x]) W' ∧ KpG G W1 W') ∨ (e = .returned (.bool false) ∧ Jx (pre ++ [x]) W'))
    (hJx : AbidesFrom W.heap.size Jx) (hs : W.cell? ⟨Bs, 0, none⟩ = some (.slice A n c)) (hL : Lies W B 1 A n (b.map bv)) (hB : B ≤ W.heap.size) (h0 : J [] W) :
    Calls Try.prog 86 (#[.func (.yield l) #[] #[]] ++ #[.pointer (some ⟨Bs, 0, none⟩)]) W fun e W' => (∃ v, e = .returned v) ∧
      ((∃ xs : List Rcd, (∀ S, okF S = true → SQ S → filB S = b → recs S = xs.map Rcd.l) ∧ J xs W') ∨ (∃ pre : List Rcd, (∃ r, Rest b r (pre.map Rcd.l)) ∧ Jx pre W')) := by
  have HJ := Lib.hid hJ; have HJx := Lib.hid hJx; have HY := Lib.hid hY
  have HFr := Lib.hid (bframes_any B n c A b W hL hB hL0 hcc hn)
  have H0 := Lib.hid h0
  clear hJ hJx hY h0 hL
  simp only [List.append_toArray, List.cons_append, List.nil_append]
  go_enter Try.func86, Try.ntmps86
  go_wp2_with fail
  refine HFr.out.mono ?_
  rintro e w1 ⟨A1, m1, rfl, hl1, hm1, hb1⟩
  have HR : Hid (BlR B n Bs (.slice A n c) b J (.slice A1 m1 m1) w1) := ⟨[], A1, m1, m1, ahead b, rfl, HJ.out _ _ _ none H0.out (grownS hb1) (fun r e => by cases e), hl1, Nat.le_refl _, by omega, Rest.start b, by simp; omega, Nat.le_trans hB hb1.size⟩
  have hws := hb1.size
  clear hl1 hb1 HFr hs H0 hm1
  go_wp2_with fail
  go_loopw [3] (fun v wr => W.heap.size ≤ wr.heap.size ∧ BlR B n Bs (.slice A n c) b J v wr) (fun v _ => lenV v)
  case atStart => exact ⟨hws, HR.out⟩
  case round =>
    clear HR
    obtain ⟨hsz, pre, A2, m2, c2, r, rfl, hj, hl2, hmc, hc2, hrest, hlen, hB2⟩ := hrel
    have HFg := Lib.hid (framesGet_any A2 m2 c2 r wr (hl2.more hB2) hmc (by omega))
    have hrl := hl2.blen
    obtain ⟨er, her⟩ : ∃ er, (gotF r).2.2 = er := ⟨_, rfl⟩
    obtain ⟨tk, htk⟩ : ∃ tk, (gotF r).2.1 = tk := ⟨_, rfl⟩
    obtain ⟨rc, hrc⟩ : ∃ rc, (gotF r).1 = rc := ⟨_, rfl⟩
    rw [her, htk, hrc] at HFg
    by_cases h0 : er = 0
    · subst h0
      obtain ⟨g1, g2, g3, _⟩ := fgot_back r her
      have hnx := hrest.next her
      rw [htk, hrc] at hnx
      rw [hrc] at g1 g2
      rw [htk] at g2 g3
      have htk1 : 8 ≤ tk := by omega
      have htk2 : tk ≤ m2 := by omega
      clear g2
      have HNx := Lib.hid hnx; have HL2 := Lib.hid hl2; have HJp := Lib.hid hj
      clear hrest hnx hl2 hj her htk hrc
      go_wp2_with fail
      refine HFg.out.mono ?_
      rintro e w2 ⟨v2, rfl, ho2, hb2⟩
      obtain ⟨A3, c3, rfl, hc31, hc32, _⟩ := own_shape ho2
      have hj2 : J pre w2 := HJ.out _ _ _ none HJp.out (grownS hb2) (fun r e => by cases e)
      have hx : BlkAt w2 ⟨A3, rc.length, c3, rc⟩ := ⟨Lies.of_own ho2, hc31, hc32, g1⟩
      obtain ⟨fn, tmps, assign, body, hy, hR⟩ := HY.out pre ⟨A3, rc.length, c3, rc⟩ w2 hj2 ⟨hx, by omega⟩
      have hy : (Instr.yield l #[.slice A3 rc.length c3]).run Try.prog w2 = .ok (.round l fn tmps assign body) w2 := hy
      have HRd := Lib.hid hR
      have HL3 : Hid (Lies w2 B 1 A2 m2 (r.map bv)) := HL2.out.keep fun p hp => hb2.cell (Nat.lt_of_lt_of_le hp hB2)
      have hw2 := hb2.size
      clear hR hj2 hx ho2 hb2 HFg HL2 HJp
      go_upto_region 2 with fail
      refine (wpIn_wide (n := m + 1)).1 ?_
      gi_wp2_with fail
      refine HRd.out.mono ?_
      rintro e W6 (⟨rfl, hJ6, hk6⟩ | ⟨rfl, hJx6⟩)
      · have hl6 : Lies W6 B 1 A2 m2 (r.map bv) := HL3.out.keep fun p hp => by
          unfold World.cell?
          rw [hk6.2 _ (hG _ hp) (Nat.lt_of_lt_of_le hp (Nat.le_trans hB2 hw2))]
        have hcut := fun W => run_cut3 W A2 m2 c2 tk m2 m2 (by omega) (Nat.le_refl _) hmc
        have HFin : Hid (W.heap.size ≤ W6.heap.size ∧ BlR B n Bs (.slice A n c) b J (.slice (cutA A2 m2 tk) (m2 - tk) (m2 - tk)) W6) := ⟨Nat.le_trans hsz (Nat.le_trans hw2 hk6.1), pre ++ [⟨A3, rc.length, c3, rc⟩], _, _, _, r.drop tk, rfl, hJ6, hl6.part (by omega), Nat.le_refl _, by omega, by rw [List.map_append]; exact HNx.out, by rw [List.length_append, List.length_singleton]; omega, Nat.le_trans hB2 (Nat.le_trans hw2 hk6.1)⟩
        clear hJ6 hk6 hl6 hy HL3 HNx
        gi_wp2_with fail
        go_wp2
        go_roundw
        case rel => exact HFin.out
        case measure => simp [lenV]; omega
      · have HFin : Hid (Jx (pre ++ [⟨A3, rc.length, c3, rc⟩]) W6 ∧ Rest b (r.drop tk) ((pre ++ [(⟨A3, rc.length, c3, rc⟩ : Rcd)]).map Rcd.l)) := ⟨hJx6, by rw [List.map_append]; exact HNx.out⟩
        clear hJx6 hy
        gi_wp2_with fail
        go_wp2
        refine bodyPost_ret (results_none rfl _ _ _) rfl ?_
        exact ⟨⟨_, rfl⟩, .inr ⟨pre ++ [⟨A3, rc.length, c3, rc⟩], ⟨r.drop tk, HFin.out.2⟩, HFin.out.1⟩⟩
    · have hz : ((er : Int) == 0) = false := by simp; omega
      have hz2 : ((er : Int) != 0) = true := by simp; omega
      have HD : Hid (∀ S, okF S = true → SQ S → filB S = b → recs S = pre.map Rcd.l) := hrest.done (by rw [her]; exact h0)
      clear hrest her htk hrc hl2
      go_wp2_with fail
      refine HFg.out.mono ?_
      rintro e w2 ⟨v2, rfl, _, hb2⟩
      have HFin : Hid (J pre w2) := HJ.out _ _ _ none hj (grownS hb2) (fun r e => by cases e)
      clear hj hb2 HFg
      go_wp2
      refine bodyPost_ret (results_none rfl _ _ _) rfl ?_
      exact ⟨⟨_, rfl⟩, .inl ⟨pre, HD.out, HFin.out⟩⟩
end Go.Proofs.Ytghfhojpnbpjoaa

namespace Go.Proofs.Ytghfhojpnbpjoaa
open Go.RowKit
set_option linter.unusedVariables false
set_option maxRecDepth 100000

/-- append, as a step that the walk does not lay open -/
def appS (ats : Array TypeId) (ty : TypeId) (args : Array Value) : Sem Value := Builtin.append_ ats ty args
theorem builtin_appS {ats : Array TypeId} {ty : TypeId} {cs : Array Bool} {args : Array Value} : builtin .append ats ty cs args = (do pure (.value (← appS ats ty args))) := rfl

theorem Lies.other {w w' : World} {k n : Nat} {A : Option Addr} {xs : List Value} {row : Option Nat} (h : Lies w w.heap.size k A n xs) (hg : w.grownBy w' row) (hr : ∀ r, row = some r → ∃ o : Obj, w.heap[r]? = some o ∧ o.isCells = false) : Lies w' w'.heap.size k A n xs := by
  refine ⟨h.1, fun j hj => ?_⟩
  obtain ⟨ad, u, e, hb, hx, hc⟩ := h.2 j hj
  refine ⟨ad, u, e, Nat.lt_of_lt_of_le hb hg.size, hx, ?_⟩
  have hlt := World.block_lt_of_cell? w _ hc
  rw [← hc]
  unfold World.cell?
  rw [hg.block _ hlt (fun e2 => ?_)]
  obtain ⟨o, ho, hcc⟩ := hr _ e2.symm
  unfold World.cell? at hc
  rw [ho] at hc
  cases o <;> simp_all [Obj.isCells]
theorem BlkAt.other {w w' : World} {x : Rcd} {row : Option Nat} (h : BlkAt w x) (hg : w.grownBy w' row) (hr : ∀ r, row = some r → ∃ o : Obj, w.heap[r]? = some o ∧ o.isCells = false) : BlkAt w' x := ⟨h.1.other hg hr, h.2⟩

/-- what the reader's variable holds -/
structure EAt (w W : World) (g : Nat) (L : List En) (vl : Value) : Prop where
  box : Box W g 22 vl
  row : W.ownsRow (g + 2) 40 4 vl L.length (ecs L)
  sz : ∀ x ∈ L, szE x
  low : Below g w W
  hs : g + 2 ≤ W.heap.size
theorem EAt.below {w W W' : World} {g : Nat} {L : List En} {vl : Value} (h : EAt w W g L vl) (hb : Below W.heap.size W W') (hg : g ≤ w.heap.size) : EAt w W' g L vl :=
  ⟨h.box.below hb h.box.lt, own_below h.row hb, h.sz, h.low.trans (hb.mono (by have := h.hs; omega)), Nat.le_trans h.hs hb.size⟩
theorem EAt.other {w W W' : World} {g : Nat} {L : List En} {vl : Value} {row : Option Nat} (h : EAt w W g L vl) (hg : W.grownBy W' row) (hr : ∀ r, row = some r → g + 2 ≤ r ∧ ∃ o : Obj, W.heap[r]? = some o ∧ o.isCells = false) : EAt w W' g L vl := by
  refine ⟨h.box.grown hg (fun e => by have := (hr g e.symm).1; omega), (Wrote.grown hg).row h.row fun i hi e => ?_, h.sz, h.low.grown hg (by have := h.hs; omega) (fun r e => by have := (hr r e).1; omega), Nat.le_trans h.hs hg.size⟩
  obtain ⟨_, cur, q⟩ := own_blk h.row hi
  obtain ⟨o, ho, hc⟩ := (hr i e).2
  rw [q] at ho
  injection ho with ho
  subst ho
  cases hc
theorem EAt.app {w W : World} {g c n : Nat} {L T : List En} {A A1 : Option Addr} {c1 : Nat} (h : EAt w W g L (.slice A n c)) (hn : L.length = n) (hT : Lies W W.heap.size 4 A1 T.length (ecs T)) (hz : ∀ x ∈ T, szE x) (hl : n + T.length ≤ 1000000) (hg : g ≤ w.heap.size) :
    ∃ A2 c2 W2, (appS #[22, 22] 22 #[.slice A n c, .slice A1 T.length c1]).run Try.prog W = .ok (.slice A2 (n + T.length) c2) W2 ∧
      (W2.cell? ⟨g, 0, none⟩ = some (.slice A n c) ∧ W2.frozen? ⟨g, 0, none⟩ = false) ∧ Hid (EAt w (W2.setCell ⟨g, 0, none⟩ (.slice A2 (n + T.length) c2)) g (L ++ T) (.slice A2 (n + T.length) c2) ∧ Wr (g + 2) g W (W2.setCell ⟨g, 0, none⟩ (.slice A2 (n + T.length) c2))) := by
  subst hn
  obtain ⟨i0, hi, hz0, hz1, hz2⟩ := info_parts entry_info
  obtain ⟨v1, W2, hrun, hown, hgr, _⟩ := run_app (P := Try.prog) W (g + 2) 22 22 40 i0 _ 4 48 Try.underlying22 hi hz0 hz1 hz2 rfl (by decide) (.slice A L.length c) L.length (ecs L) h.row W.heap.size A1 T.length c1 (ecs T) hT (ecs_one T) (by unfold maxLen; omega) (by omega) h.hs
  obtain ⟨A2, c2, rfl, _⟩ := own_shape hown
  have hbx : Box W2 g 22 (.slice A L.length c) := h.box.grown hgr (h.box.not_own h.row (by decide))
  have hr2 : W2.ownsRow (g + 2) 40 4 (.slice A2 (L.length + T.length) c2) (L ++ T).length (ecs (L ++ T)) := by
    have e : ecs (L ++ T) = ecs L ++ ecs T := by unfold ecs; simp
    rw [e, List.length_append]; exact hown
  have hw : Wr (g + 2) g W (W2.setCell ⟨g, 0, none⟩ (.slice A2 (L.length + T.length) c2)) := Wr.row h.row (((Wrote.grown hgr).mono fun i _ q => .inr q).set (p := ⟨g, 0, none⟩) (.inl rfl) _)
  refine ⟨A2, c2, W2, hrun, ⟨hbx.cell, hbx.frozen⟩, ⟨⟨hbx.set _, own_setBox hr2 hbx (by decide) _, fun x hx => ?_, h.low.trans (hw.low (by omega) (by have := h.hs; omega)), Nat.le_trans h.hs hw.size⟩, hw⟩⟩
  rcases List.mem_append.1 hx with q | q
  · exact h.sz x q
  · exact hz x q
end Go.Proofs.Ytghfhojpnbpjoaa

namespace Go.Proofs.Ytghfhojpnbpjoaa
open Go.RowKit
set_option linter.unusedVariables false
set_option maxRecDepth 100000

/-- what is told of what was read -/
def ReadOf (b : List UInt8) (L : List En) : Prop := ∀ S, okF S = true → SQ S → filB S = b → S = L
/-- what entriesIn answers -/
def EIn (w : World) (b : List UInt8) (e : Ending) (w' : World) : Prop :=
  ∃ L v, e = .returned v ∧ w'.ownsRow w.heap.size 40 4 v L.length (ecs L) ∧ (∀ x ∈ L, szE x) ∧ Below w.heap.size w w' ∧ ReadOf b L ∧ L.length ≤ 5000
/-- in the loop -/
def EnI (w : World) (g : Nat) (pre : List Rcd) (W : World) : Prop := ∃ L vl, readL (pre.map Rcd.l) = some L ∧ EAt w W g L vl ∧ L.length ≤ 4160
def EnX (w : World) (g : Nat) (pre : List Rcd) (W : World) : Prop := ∃ (p : List Rcd) (x : Rcd) (L : List En) (vl : Value), pre = p ++ [x] ∧ readL (p.map Rcd.l) = some L ∧ (getB x.l = none ∨ 4096 < L.length) ∧ EAt w W g L vl ∧ L.length ≤ 4160

section
attribute [local go_sem] Oper.semAt_some
attribute [local go_sem ↓ 100000] builtin_appS
set_option maxHeartbeats 4000000 in
theorem entriesIn_any (n c : Nat) (A : Option Addr) (b : List UInt8) (w : World) (hL : Lies w w.heap.size 1 A n (b.map bv)) (hnc : n ≤ c) (hcc : c ≤ 9223372036854775807) (hn : n ≤ 1099511627776) :
    Calls Try.prog 40 #[.slice A n c] w (EIn w b) := by
  have HL := Lib.hid hL
  refine (callsIn_wide (n := 6)).1 ?_
  refine callsIn_of_wp_marks Try.func40 rfl trivial ?_ rfl
  simp only [Try.ntmps40, List.size_toArray, List.length_cons, List.length_nil, Nat.reduceAdd, Nat.reduceSub, Array.replicate_succ, Array.replicate_zero, List.push_toArray, List.append_toArray, List.nil_append, List.cons_append]
  refine wpIn_wide.2 ?_
  clear hL
  go_wp2_with fail
  refine (blocksIn_any n c A _).mono ?_
  rintro e w' ⟨rfl, rfl⟩
  obtain ⟨g, hg⟩ : ∃ g, w.heap.size = g := ⟨_, rfl⟩
  have hgs := hg
  have x1 : (w.alloc (.cells #[.slice none 0 0] 22)).heap[g]? = some (.cells #[.slice none 0 0] 22 (0, 0)) := by rw [← hg]; exact heap_alloc_new w _
  have s1 : (w.alloc (.cells #[.slice none 0 0] 22)).heap.size = g + 1 := by simp [hg]
  have b1 : Below g w (w.alloc (.cells #[.slice none 0 0] 22)) := by rw [← hg]; exact (Below.refl _ _).alloc (Nat.le_refl _) _
  rw [hg]
  obtain ⟨W1, hW1⟩ : ∃ W1, w.alloc (.cells #[.slice none 0 0] 22) = W1 := ⟨_, rfl⟩
  rw [hW1] at x1 s1 b1 ⊢
  have y1 : (W1.alloc (.cells #[.slice A n c] 25)).heap[g + 1]? = some (.cells #[.slice A n c] 25 (0, 0)) := by rw [← s1]; exact heap_alloc_new W1 _
  have s2 : (W1.alloc (.cells #[.slice A n c] 25)).heap.size = g + 2 := by simp [s1]
  have x2 : (W1.alloc (.cells #[.slice A n c] 25)).heap[g]? = _ := (Below.heap_alloc _ _ _ (by omega)).trans x1
  have b2 := b1.alloc (by omega) (.cells #[.slice A n c] 25)
  rw [s1]
  obtain ⟨W0, hW0⟩ : ∃ W0, W1.alloc (.cells #[.slice A n c] 25) = W0 := ⟨_, rfl⟩
  rw [hW0] at y1 s2 x2 b2 ⊢
  clear hW0 hW1 x1 s1 b1
  have R0 : EnI w g [] W0 := ⟨[], .slice none 0 0, rfl, ⟨x2, World.ownsRow_nil _ _ _ _, (fun x hx => by cases hx), b2, by omega⟩, by simp⟩
  have HR0 := Lib.hid R0; have HY1 := Lib.hid y1; have HB2 := Lib.hid b2
  clear R0 y1 x2 b2
  go_wp2_with fail
  refine (wpIn_wide (n := 6)).1 ?_
  refine range_brk (m := 5) (id := 0) (α := Rcd) (gf := 86) (lb := #[.pointer (some ⟨g + 1, 0, none⟩)]) (encs := fun x => #[x.v]) (Kp := KpG (fun i => i < g))
    (G := fun pre x W => BlkAt W x ∧ pre.length < n + 1) (S := fun xs => ∀ S, okF S = true → SQ S → filB S = b → recs S = xs.map Rcd.l) (Sp := fun pre => ∃ r, Rest b r (pre.map Rcd.l))
    rfl (enters_of Try.func86 (by kernel_rfl) rfl) (fun _ => rfl) (fun h k => KpG.trans h k) (kpG_b (fun i hi => by omega))
    (fun l J Jx W hW hJ hY hJx h0 => blks1_any 5 l (g + 1) g n c A b (fun i => i < g) (fun i hi => hi) hnc hcc hn J Jx W hJ hY hJx ((hW.cell (p := ⟨g + 1, 0, none⟩) (by show g + 1 < _; omega)).trans (cell_of_row _ _ 0 _ _ (0, 0) HY1.out)) (by
      have h1 := HL.out
      rw [hgs] at h1
      exact h1.keep fun p hp => (hW.cell (by omega)).trans (HB2.out.cell hp)) (by have := hW.size; omega) h0)
    (EnI w g) (EnX w g)
    (fun pre X Y row hI hg2 hr => by
      obtain ⟨L, vl, h1, h2, h3⟩ := hI
      exact ⟨L, vl, h1, h2.other hg2 (fun r e => by obtain ⟨q1, q2⟩ := hr r e; exact ⟨by omega, q2⟩), h3⟩)
    (fun pre X Y row hI hg2 hr => by
      obtain ⟨p, x, L, vl, h0, h1, h2, h3, h4⟩ := hI
      exact ⟨p, x, L, vl, h0, h1, h2, h3.other hg2 (fun r e => by obtain ⟨q1, q2⟩ := hr r e; exact ⟨by omega, q2⟩), h4⟩)
    HR0.out
    (fun pre x a' W => BlkAt W x ∧ a' = { tmps := #[.slice A n c, undef, .slice none 0 0, .pointer (some ⟨g, 0, none⟩), x.v, undef, undef, .slice A n c, .func (.func 86) #[] #[.pointer (some ⟨g + 1, 0, none⟩)], x.v, undef, undef, undef, undef, undef, undef, undef, undef, undef, undef, undef, undef, undef, undef, undef, undef], defers := [] })
    (fun pre x a' _ X Y row hI hg2 hr => ⟨hI.1.other hg2 (fun r e => (hr r e).2), hI.2⟩)
    ?assign ?body ?done ?stop
  case assign =>
    rintro l pre x W K hI ⟨hG, _⟩ hK
    gi_wp2
    exact hK _ _ (KeepsFrom.refl _ _) (KpG.below (Below.refl _ _)) hI ⟨hG, rfl⟩
  case body =>
    rintro l pre ⟨Ax, nx, cx, lx⟩ a' W ⟨L, vl, hrd, hE, hlen⟩ ⟨⟨hx1, hx2, hx3, hx4⟩, rfl⟩
    dsimp only at hx1 hx2 hx3 hx4
    have HG := Lib.hid (bget_any Ax nx cx lx W hx1 hx2 hx3 (by omega))
    have HE := Lib.hid hE; have HRd := Lib.hid hrd
    clear hE hrd hx1
    unfold Rcd.v
    gi_wp2_with fail
    refine ⟨trivial, (CallsIn.inRound l (callsIn_wide.2 HG.out)).mono ?_⟩
    rintro e W2 ⟨hb2, hy, hno⟩
    have hE2 := HE.out.below hb2 (by omega)
    have hkf : KeepsFrom W0.heap.size W W2 := ⟨hb2.size, fun i o hi ho hoc => (hb2.block i (Array.getElem?_eq_some_iff.1 ho).1).trans ho⟩
    cases hgb : getB lx with
    | none =>
      obtain rfl := hno hgb
      have HFin : Hid (KeepsFrom W0.heap.size W W2 ∧ EnX w g (pre ++ [⟨Ax, nx, cx, lx⟩]) W2) := ⟨hkf, pre, ⟨Ax, nx, cx, lx⟩, L, vl, rfl, HRd.out, .inl hgb, hE2, hlen⟩
      clear hb2 hy hno hkf hE2
      gi_wp2
      exact ⟨rfl, HFin.out⟩
    | some T =>
      obtain ⟨A3, c3, rfl, ho3, hz3⟩ := hy T hgb
      obtain ⟨Al, cl, rfl, _⟩ := own_shape hE2.row
      obtain ⟨nl, hnl⟩ : ∃ nl, L.length = nl := ⟨_, rfl⟩
      rw [hnl] at hE2 hlen
      have hcb := hE2.box.cell
      by_cases h4 : 4096 < nl
      · have h4i : ((nl : Int) > 4096) := by omega
        have HFin : Hid (KeepsFrom W0.heap.size W W2 ∧ EnX w g (pre ++ [⟨Ax, nx, cx, lx⟩]) W2) := ⟨hkf, pre, ⟨Ax, nx, cx, lx⟩, L, _, rfl, HRd.out, .inr (by rw [hnl]; exact h4), hE2, by rw [hnl]; exact hlen⟩
        clear hb2 hy hno hkf hE2 ho3
        gi_wp2
        exact ⟨rfl, HFin.out⟩
      · have h4i : ¬ ((nl : Int) > 4096) := by omega
        have hT64 : T.length ≤ 64 := by
          obtain ⟨h1, _⟩ := getB_some hgb
          exact ((okB_iff T).1 h1).2.1
        obtain ⟨A4, c4, W4, run4, ⟨e4, f4⟩, HP⟩ := hE2.app hnl (Lies.of_own ho3) hz3 (c1 := c3) (by omega) (by omega)
        have hkp : KpG (fun i => i < g) W W2 := KpG.below hb2
        have HFin : Hid (KeepsFrom W0.heap.size W (W4.setCell ⟨g, 0, none⟩ (.slice A4 (nl + T.length) c4)) ∧ KpG (fun i => i < g) W (W4.setCell ⟨g, 0, none⟩ (.slice A4 (nl + T.length) c4)) ∧ EnI w g (pre ++ [⟨Ax, nx, cx, lx⟩]) (W4.setCell ⟨g, 0, none⟩ (.slice A4 (nl + T.length) c4))) := by
          obtain ⟨hE4, hw⟩ := HP.out
          refine ⟨hkf.trans ⟨hw.size, fun i o hi ho hoc => (hw.block i (Array.getElem?_eq_some_iff.1 ho).1 (by
            rintro (e | ⟨_, cs, t, e⟩)
            · omega
            · rw [ho] at e; injection e with e; subst e; cases hoc)).trans ho⟩, hkp.trans ⟨hw.size, fun i hi hlt => hw.block i hlt (by rintro (e | ⟨e, _⟩) <;> omega)⟩, L ++ T, _, ?_, hE4, by rw [List.length_append, hnl]; omega⟩
          rw [List.map_append]; exact readL_snoc _ _ _ _ HRd.out hgb
        clear hb2 hy hno hkf hE2 ho3 hkp HP HE
        gi_wp2
        exact HFin.out
  case done =>
    rintro D xs W hD hS ⟨L, vl, hrd, hE, hlen⟩ hK
    have hg3 := grownBy_putObj' W D (.deferred none)
    have hcb := hE.box.cell
    have hE2 := hE.other hg3 (fun r e => by injection e with e; subst e; exact ⟨by omega, _, hK, rfl⟩)
    have HF : Hid (EIn w b (.returned vl) (W.putObj D (.deferred none))) := ⟨L, vl, rfl, by rw [hgs]; exact own_base hE2.row (by omega), hE2.sz, by rw [hgs]; exact hE2.low, read_done hS hrd, by omega⟩
    have HK := Lib.hid hK
    clear hE hE2 hK hg3 hS hrd
    go_wp2
    refine ⟨by simp, .inl ⟨_, _, rfl, run_takeDeferred HK.out, ?_⟩⟩
    refine ⟨_, results_tmp rfl _ _ _, ?_⟩
    exact HF.out
  case stop =>
    rintro D xs W hD ⟨r, hr⟩ ⟨p, x, L, vl, rfl, hrd, hx, hE, hlen⟩ hK
    have hg3 := grownBy_putObj' W D (.deferred none)
    have hcb := hE.box.cell
    have hE2 := hE.other hg3 (fun r e => by injection e with e; subst e; exact ⟨by omega, _, hK, rfl⟩)
    have HF : Hid (EIn w b (.returned vl) (W.putObj D (.deferred none))) := ⟨L, vl, rfl, by rw [hgs]; exact own_base hE2.row (by omega), hE2.sz, by rw [hgs]; exact hE2.low, (fun S h1 h2 h3 => absurd h3 (read_stop (by rw [List.map_append] at hr; exact hr) hrd hx S h1 h2)), by omega⟩
    have HK := Lib.hid hK
    clear hE hE2 hK hg3 hrd hr
    gi_wp2_with fail
    go_wp2
    refine ⟨by simp, .inl ⟨_, _, rfl, run_takeDeferred HK.out, ?_⟩⟩
    refine ⟨_, results_tmp rfl _ _ _, ?_⟩
    exact HF.out
end
end Go.Proofs.Ytghfhojpnbpjoaa

namespace Go.Proofs.Ytghfhojpnbpjoaa
open Go.RowKit
set_option linter.unusedVariables false
set_option maxRecDepth 100000

/-- what All answers -/
def SAll (w : World) (o : Option (List En)) (e : Ending) (w' : World) : Prop :=
  Below w.heap.size w w' ∧ (∀ S, o = some S → ∃ A c, e = .returned (.tuple #[.slice A S.length c, .int .i64 0]) ∧ w'.ownsRow w.heap.size 40 4 (.slice A S.length c) S.length (ecs S) ∧ ∀ x ∈ S, szE x) ∧
    (o = none → e = .returned (.tuple #[.slice none 0 0, .int .i64 4]))
set_option maxHeartbeats 2000000 in
theorem sall_any (A : Option Addr) (n c : Nat) (b : List UInt8) (o : Option (List En)) (w : World) (hF : IsF b o) (h : Lies w w.heap.size 1 A n (b.map bv)) (hnc : n ≤ c) (hc : c ≤ 9223372036854775807) (hn : n ≤ 1099511627776) :
    Calls Try.prog 20 #[.slice A n c] w (SAll w o) := by
  have HD := Lib.hid (entriesIn_any n c A b w h hnc hc hn)
  have HL := Lib.hid h; have HI := Lib.hid hF
  have HF : Hid (o = none → ∀ w', Below w.heap.size w w' → SAll w o (.returned (.tuple #[.slice none 0 0, .int .i64 4])) w') := fun q w' hb => ⟨hb, (fun S e => by rw [q] at e; cases e), fun _ => rfl⟩
  clear h hF
  go_enter Try.func20, Try.ntmps20
  go_wp2_with fail
  refine HD.out.mono ?_
  rintro e w1 ⟨S, v1, rfl, ho1, hsz, hb1, hrd, hlen⟩
  obtain ⟨A1, c1, rfl, h1c, h1m, _⟩ := own_shape ho1
  have HNo : Hid ((okF S = true → filB S ≠ b) → o = none) := fun q => by
    cases o with
    | none => rfl
    | some T =>
      obtain ⟨t1, t2, t3⟩ := HI.out
      have := hrd T t1 t2 t3
      subst this
      exact absurd t3 (q t1)
  have HYes : Hid (okF S = true → filB S = b → o = some S) := fun q1 q2 => by
    cases o with
    | none => exact absurd q2 (HI.out S q1 fun x hx => (hsz x hx).2.2)
    | some T =>
      obtain ⟨t1, t2, t3⟩ := HI.out
      rw [hrd T t1 t2 t3]
  have hEL : EL w1 w1.heap.size A1 S.length c1 S := ⟨Lies.of_own ho1, Nat.le_refl _, h1c, h1m, fun x hx => by have := hsz x hx; unfold szE at this; exact ⟨by omega, by omega⟩⟩
  have HP := Lib.hid (sput_any w1.heap.size S.length c1 A1 S w1 hEL (fun x hx => (hsz x hx).2.2))
  have HOw := Lib.hid ho1; have HSz := Lib.hid hsz; have HB := Lib.hid hb1
  obtain ⟨N, hN⟩ : ∃ N, S.length = N := ⟨_, rfl⟩
  have HN := Lib.hid hN
  rw [hN] at HP HOw ⊢
  clear ho1 hsz hb1 hrd hEL HD hN
  go_wp2_with fail
  refine HP.out.mono ?_
  rintro e w2 ⟨hb2, hy, hn1, hn3⟩
  have hbw2 := HB.out.trans (hb2.mono HB.out.size)
  by_cases hok : okF S = true
  · obtain ⟨A2, c2, rfl, ho2⟩ := hy hok
    have HQ := Lib.hid (equal_any A2 A (filB S).length n c2 c _ _ (filB S) b w2 (Lies.of_own ho2) (HL.out.below hbw2))
    have HO2 := Lib.hid (own_below HOw.out hb2); have HB2 := Lib.hid hbw2; have HOk := Lib.hid hok
    obtain ⟨q, hq⟩ : ∃ q, decide (filB S = b) = q := ⟨_, rfl⟩
    have HQd := Lib.hid hq
    rw [hq] at HQ
    clear hy hn1 hn3 hb2 hbw2 ho2 hq hok HP
    go_wp2_with fail
    refine HQ.out.mono ?_
    rintro e w4 ⟨rfl, rfl⟩
    clear HQ
    cases q
    · have HF1 := Lib.hid (HF.out (HNo.out fun _ => of_decide_eq_false HQd.out) w2 HB2.out)
      clear HF HNo HYes
      go_wp2
      go_ret2
      exact HF1.out
    · have HS := Lib.hid (HYes.out HOk.out (of_decide_eq_true HQd.out))
      have HF1 : Hid (SAll w o (.returned (.tuple #[.slice A1 N c1, .int .i64 0])) w2) := ⟨HB2.out, (fun S' e => by
        rw [HS.out] at e; injection e with e; subst e
        refine ⟨A1, c1, by rw [HN.out], ?_, HSz.out⟩
        have := HO2.out
        rw [← HN.out] at this; exact this), fun e => by rw [HS.out] at e; cases e⟩
      clear HF HNo HYes HS
      go_wp2
      go_ret2
      exact HF1.out
  · have HF1 := Lib.hid (HF.out (HNo.out fun q => absurd q hok) w2 hbw2)
    have he : ∃ k : Nat, k ≠ 0 ∧ k < 10 ∧ e = .returned (.tuple #[.slice none 0 0, .int .i64 (k : Int)]) := by
      cases ha : okA S with
      | false => exact ⟨1, by decide, by decide, hn1 ha⟩
      | true =>
        refine ⟨3, by decide, by decide, hn3 ha ?_⟩
        refine Nat.lt_of_not_le fun q => hok ?_
        exact (okF_iff S).2 ⟨ha, q⟩
    obtain ⟨k, hk0, hk9, rfl⟩ := he
    have hz : ((k : Int) == 0) = false := by simp; omega
    have hz2 : ((k : Int) != 0) = true := by simp; omega
    clear hy hn1 hn3 hb2 hbw2 HF HNo HYes HP hok
    go_wp2
    go_ret2
    exact HF1.out
end Go.Proofs.Ytghfhojpnbpjoaa

