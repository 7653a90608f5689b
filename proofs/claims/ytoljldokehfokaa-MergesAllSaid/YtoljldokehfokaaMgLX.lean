/-
  Package merges: Merge.
  Package merges: Merge.
-/
import Derived.Test.YtoljldokehfokaaMgGJ
import Derived.Test.YtoljldokehfokaaMgAB
import Derived.Test.YtoljldokehfokaaKpX
namespace Go.Proofs.Ytoljldokehfokaa
open Go.RowKit
set_option linter.unusedVariables false
set_option maxRecDepth 100000

/-- what next hands over, whether there is one or not -/
def NextU (w : World) (B g q n : Nat) (A : Option Addr) (c : Nat) (H : List Ls) (e : Ending) (w' : World) : Prop :=
  ∃ (x : En) (b : Bool) (n' : Nat) (H' : List Ls), e = .returned (.tuple #[.agg #[.string x.m.k, .int .u64 (x.m.s : Int), .bool x.m.g, .string x.x], .bool b]) ∧ Wt w' B g q A n' c H' ∧ (∀ i, HAt H' i) ∧
    But w w' g (if n = 0 then g else q) ∧ ((b = false ∧ H = [] ∧ H' = []) ∨ (b = true ∧ ∀ L out, MgI L out (H.map Ls.l) → MgI L (out ++ [x]) (H'.map Ls.l)))
theorem next_u {w : World} {B g q n c : Nat} {A : Option Addr} {H : List Ls} (hW : Wt w B g q A n c H) (hh : ∀ i, HAt H i) :
    Calls Try.prog 19 #[.pointer (some ⟨g, 0, none⟩)] w fun e w' => NextU w B g q n A c H e w' := by
  cases H with
  | nil =>
    obtain rfl : 0 = n := hW.len
    exact (next_none hW).mono fun e w' ⟨he, hb⟩ => ⟨⟨⟨⟨#[]⟩, 0, false⟩, ⟨#[]⟩⟩, false, 0, [], he, hW.below hb, hh, But.of_below _ _ hb, .inl ⟨rfl, rfl, rfl⟩⟩
  | cons r R =>
    have hn0 : n ≠ 0 := by rw [← hW.len]; simp
    obtain ⟨x, hx⟩ : ∃ x, r.l.head? = some x := by
      cases e : r.l with
      | nil => exact absurd e (hW.ls r (List.mem_cons_self ..)).2
      | cons x t => exact ⟨x, by simp⟩
    refine (next_some hW hh x hx).mono fun e w' ⟨he, n', H', h1, h2, h3, h4, h5⟩ => ⟨x, true, n', H', he, h1, h2, by rw [if_neg hn0]; exact h5, .inr ⟨rfl, fun L out hI => ?_⟩⟩
    have ht : r.l = x :: r.rest.l := by
      unfold Ls.rest
      cases e : r.l with
      | nil => rw [e] at hx; cases hx
      | cons y t => rw [e] at hx; simp at hx; subst hx; simp
    rw [List.map_cons, ht] at hI
    have hs := hI.step fun l hl y hy => by
      obtain ⟨r2, hr2, rfl⟩ := List.mem_map.1 hl
      obtain ⟨i, hi⟩ := List.mem_iff_getElem?.1 hr2
      exact root_le hW.NE hh (i + 1) x y (by unfold hd; exact hx) (by unfold hd; rw [List.getElem?_cons_succ, hi]; exact hy)
    refine hs.perm_ ?_
    refine (h3.map Ls.l).trans ?_
    by_cases e : r.rest.l = []
    · rw [if_pos e, if_pos e]
    · rw [if_neg e, if_neg e]; exact List.Perm.refl _

/-- where merging stands -/
def MR (w : World) (B g q c : Nat) (A : Option Addr) (L : List (List En)) (v p ok : Value) (wr : World) : Prop :=
  ∃ (out : List En) (x : En) (b : Bool) (n : Nat) (H : List Ls) (P : Nat), Wt wr B g q A n c H ∧ (∀ i, HAt H i) ∧ MgI L (if b = true then out ++ [x] else out) (H.map Ls.l) ∧ (b = false → H = []) ∧
    wr.ownsRow w.heap.size 31 4 v out.length (ecs out) ∧ v.ownBlock ≠ some P ∧ p = .pointer (some ⟨P, 0, none⟩) ∧
    wr.heap[P]? = some (.cells #[.string x.m.k, .int .u64 (x.m.s : Int), .bool x.m.g, .string x.x] 31 (0, 0)) ∧ ok = .bool b ∧ Below w.heap.size w wr ∧ w.heap.size ≤ P ∧ w.heap.size ≤ g ∧ w.heap.size ≤ q
/-- what Merge answers -/
def MergeR (w : World) (L : List (List En)) (e : Ending) (w' : World) : Prop :=
  Below w.heap.size w w' ∧ ∃ out, MgO L out ∧ ((Rise out ∧ ∃ v, e = .returned (.tuple #[v, .int .i64 0]) ∧ w'.ownsRow w.heap.size 31 4 v out.length (ecs out)) ∨ (¬ Rise out ∧ e = .returned (.tuple #[.slice none 0 0, .int .i64 1])))
theorem block_ne {w : World} {i j : Nat} {a b : Array Value} {t u : TypeId} {f1 f2 : Nat × Nat} (h1 : w.heap[i]? = some (.cells a t f1)) (h2 : w.heap[j]? = some (.cells b u f2)) (h : t ≠ u) : i ≠ j := by
  rintro rfl
  rw [h1] at h2
  injection h2 with h2
  injection h2 with _ h2
  exact h h2
theorem own_butM {w w' : World} {g q base e k n : Nat} {v : Value} {xs : List Value} (h : w.ownsRow base e k v n xs) (hb : But w w' g q) (hg : v.ownBlock ≠ some g) (hq : v.ownBlock ≠ some q) : w'.ownsRow base e k v n xs := by
  refine ⟨h.1, ?_⟩
  rcases h.2 with q | ⟨gg, cap, cur, hv, hgb, hh, r⟩
  · exact .inl q
  · refine .inr ⟨gg, cap, cur, hv, hgb, (hb.block gg (Array.getElem?_eq_some_iff.1 hh).1 (fun e => hg ?_) (fun e => hq ?_)).trans hh, r⟩ <;> rw [hv, ← e] <;> rfl
/-- the own row lies in neither block -/
theorem Wt.apart {w : World} {B g q n c base m : Nat} {A : Option Addr} {H : List Ls} {v : Value} {xs : List Value} (h : Wt w B g q A n c H) (ho : w.ownsRow base 31 4 v m xs) : v.ownBlock ≠ some g ∧ v.ownBlock ≠ some (if n = 0 then g else q) := by
  have h1 : v.ownBlock ≠ some g := by
    rcases ho.2 with ⟨rfl, _⟩ | ⟨gg, cap, cur, rfl, _, hh, _⟩
    · exact fun e => by cases e
    · intro e
      have e : gg = g := by simpa [Value.ownBlock] using e
      exact block_ne hh h.at_ (by decide) e
  refine ⟨h1, ?_⟩
  by_cases hn : n = 0
  · rw [if_pos hn]; exact h1
  · rw [if_neg hn]
    obtain ⟨cur2, hc, _⟩ := h.row hn
    rcases ho.2 with ⟨rfl, _⟩ | ⟨gg, cap, cur, rfl, _, hh, _⟩
    · exact fun e => by cases e
    · intro e
      have e : gg = q := by simpa [Value.ownBlock] using e
      exact block_ne hh hc (by decide) e
theorem Wt.apart1 {w : World} {B g q n c P : Nat} {A : Option Addr} {H : List Ls} {cur : Array Value} (h : Wt w B g q A n c H) (hP : w.heap[P]? = some (.cells cur 31 (0, 0))) : P ≠ g ∧ P ≠ (if n = 0 then g else q) := by
  have h1 := block_ne hP h.at_ (by decide)
  refine ⟨h1, ?_⟩
  by_cases hn : n = 0
  · rw [if_pos hn]; exact h1
  · rw [if_neg hn]
    obtain ⟨cur2, hc, _⟩ := h.row hn
    exact block_ne hP hc (by decide)
/-- what waits is not touched by a row that grows, nor by a box -/
theorem Wt.grown {w w2 : World} {B g q n c base m : Nat} {A : Option Addr} {H : List Ls} {v : Value} {xs : List Value} (h : Wt w B g q A n c H) (ho : w.ownsRow base 31 4 v m xs) (hB : B ≤ base) (hg : w.grownBy w2 v.ownBlock) : Wt w2 B g q A n c H := by
  have hgl := (Array.getElem?_eq_some_iff.1 h.at_).1
  obtain ⟨a1, a2⟩ := h.apart ho
  refine ⟨(hg.block g hgl (fun e => a1 e.symm)).trans h.at_, h.len, h.nc, h.cc, h.nm, h.ne, h.B0, h.B1, Nat.le_trans h.BB hg.size, h.adr, fun hn => ?_, fun r hr => ⟨el_keepM (h.ls r hr).1 (fun p hp => ?_) hg.size, (h.ls r hr).2⟩⟩
  · obtain ⟨cur, hc, hh⟩ := h.row hn
    rw [if_neg hn] at a2
    exact ⟨cur, (hg.block q (Array.getElem?_eq_some_iff.1 hc).1 (fun e => a2 e.symm)).trans hc, hh⟩
  · exact World.cell?_of_block (hg.block p.block (Nat.lt_of_lt_of_le hp h.BB) (fun e => by have := (ho.lt _ e.symm).1; omega))
theorem Wt.set4 {w w2 : World} {B g q n c P : Nat} {A : Option Addr} {H : List Ls} {cur : Array Value} (h : Wt w B g q A n c H) (hP : w.heap[P]? = some (.cells cur 31 (0, 0))) (hB : B ≤ P) (hk : ∀ k, k ≠ P → w2.heap[k]? = w.heap[k]?) (hs : w.heap.size ≤ w2.heap.size) : Wt w2 B g q A n c H := by
  obtain ⟨a1, a2⟩ := h.apart1 hP
  refine ⟨(hk g a1.symm).trans h.at_, h.len, h.nc, h.cc, h.nm, h.ne, h.B0, h.B1, Nat.le_trans h.BB hs, h.adr, fun hn => ?_, fun r hr => ⟨el_keepM (h.ls r hr).1 (fun p hp => World.cell?_of_block (hk _ (by omega))) hs, (h.ls r hr).2⟩⟩
  obtain ⟨cur, hc, hh⟩ := h.row hn
  rw [if_neg hn] at a2
  exact ⟨cur, (hk q a2.symm).trans hc, hh⟩
theorem MgO.cnt {L : List (List En)} {out : List En} {H : List (List En)} (h : MgI L out H) : out.length ≤ L.flatten.length := by
  have := h.perm.length_eq
  rw [List.length_append] at this; omega
end Go.Proofs.Ytoljldokehfokaa

namespace Go.Proofs.Ytoljldokehfokaa
open Go.RowKit
set_option linter.unusedVariables false
set_option maxRecDepth 100000

abbrev set4E (w : World) (P : Nat) (x : En) : World := (((w.setCell ⟨P, 0, none⟩ (.string x.m.k)).setCell ⟨P, 1, none⟩ (.int .u64 (x.m.s : Int))).setCell ⟨P, 2, none⟩ (.bool x.m.g)).setCell ⟨P, 3, none⟩ (.string x.x)
theorem set4E_at {w : World} {P : Nat} {a b c d : Value} (h : w.heap[P]? = some (.cells #[a, b, c, d] 31 (0, 0))) (x : En) : (set4E w P x).heap[P]? = some (.cells #[.string x.m.k, .int .u64 (x.m.s : Int), .bool x.m.g, .string x.x] 31 (0, 0)) := by
  have st : ∀ {W : World} {k : Nat} {l : List Value} (v : Value), W.heap[P]? = some (.cells l.toArray 31 (0, 0)) → (W.setCell ⟨P, k, none⟩ v).heap[P]? = some (.cells (l.set k v).toArray 31 (0, 0)) := fun v h => by
    simp [World.setCell, Array.getElem?_modify, h]
  exact st _ (st _ (st _ (st _ h)))
theorem set4E_ne {w : World} {P : Nat} {x : En} (k : Nat) (h : k ≠ P) : (set4E w P x).heap[k]? = w.heap[k]? :=
  (Below.heap_setCell _ _ _ _ h).trans ((Below.heap_setCell _ _ _ _ h).trans ((Below.heap_setCell _ _ _ _ h).trans (Below.heap_setCell _ _ _ _ h)))
theorem set4E_below {w0 w : World} {B P : Nat} {x : En} (h : Below B w0 w) (hP : B ≤ P) : Below B w0 (set4E w P x) := (((h.setCell hP _).setCell hP _).setCell hP _).setCell hP _
theorem set4E_size (w : World) (P : Nat) (x : En) : (set4E w P x).heap.size = w.heap.size := by simp
theorem own_set4E {w : World} {base e k n P : Nat} {v : Value} {xs : List Value} {x : En} (h : w.ownsRow base e k v n xs) (hP : v.ownBlock ≠ some P) : (set4E w P x).ownsRow base e k v n xs := by
  refine ⟨h.1, ?_⟩
  rcases h.2 with q | ⟨gg, cap, cur, hv, hgb, hh, r⟩
  · exact .inl q
  · exact .inr ⟨gg, cap, cur, hv, hgb, (set4E_ne gg (fun e => hP (by rw [hv, ← e]; rfl))).trans hh, r⟩
/-- the entry's cells in its box -/
theorem box4 {w : World} {P : Nat} {x : En} (h : w.heap[P]? = some (.cells #[.string x.m.k, .int .u64 (x.m.s : Int), .bool x.m.g, .string x.x] 31 (0, 0))) :
    w.cell? ⟨P, 0, none⟩ = some (.string x.m.k) ∧ w.cell? ⟨P, 1, none⟩ = some (.int .u64 (x.m.s : Int)) ∧ w.cell? ⟨P, 2, none⟩ = some (.bool x.m.g) ∧ w.cell? ⟨P, 3, none⟩ = some (.string x.x) ∧
    w.frozen? ⟨P, 0, none⟩ = false ∧ w.frozen? ⟨P, 1, none⟩ = false ∧ w.frozen? ⟨P, 2, none⟩ = false ∧ w.frozen? ⟨P, 3, none⟩ = false :=
  ⟨cell_of_row _ _ 0 _ _ (0, 0) h, cell_of_row _ _ 1 _ _ (0, 0) h, cell_of_row _ _ 2 _ _ (0, 0) h, cell_of_row _ _ 3 _ _ (0, 0) h, by simp [World.frozen?, h], by simp [World.frozen?, h], by simp [World.frozen?, h], by simp [World.frozen?, h]⟩

set_option maxHeartbeats 8000000 in
theorem merge_any (w : World) (B n c : Nat) (A : Option Addr) (L : List Ls) (h : Lies w B 1 A n (L.map Ls.v)) (hB : B ≤ w.heap.size) (hL : LsAt w B L) (hn : n ≤ 1000000) (hN : (L.map Ls.l).flatten.length ≤ 1000000) :
    Calls Try.prog 9 #[.slice A n c] w fun e w' => MergeR w (L.map Ls.l) e w' := by
  have hLs : ∀ x ∈ (L.map Ls.l).flatten, x.m.k.size ≤ 140737488351232 ∧ x.x.size ≤ 140737488351232 := fun x hx => by
    obtain ⟨l, hl, hxl⟩ := List.mem_flatten.1 hx
    obtain ⟨r, hr, rfl⟩ := List.mem_map.1 hl
    exact (hL r hr).sz x hxl
  have HLs := Lib.hid hLs
  have HWt := Lib.hid (waitingOf_any w B n c A L h hB hL hn)
  have HBB := Lib.hid hB
  have hst : (L.filter full).map Ls.l = (L.map Ls.l).filter fun l => !l.isEmpty := by rw [List.filter_map]; rfl
  have HST := Lib.hid hst
  obtain ⟨LL, hLL⟩ : ∃ LL, L.map Ls.l = LL := ⟨_, rfl⟩
  rw [hLL] at HLs HST hN ⊢
  obtain ⟨N, hNN⟩ : ∃ N, LL.flatten.length = N := ⟨_, rfl⟩
  rw [hNN] at hN
  have HNN := Lib.hid hNN
  obtain ⟨g, hg⟩ : ∃ g, w.heap.size = g := ⟨_, rfl⟩
  unfold cmpV at HWt
  have HG := Lib.hid hg
  clear h hB hL hn hLs hst hLL hNN hg
  go_enter Try.func9, Try.ntmps9
  go_wp2_with fail
  refine HWt.out.mono ?_
  rintro e w1 ⟨rfl, q, A1, n1, c1, H, hW, hh, hp, hq, hb⟩
  rw [HG.out] at hW hq hb ⊢
  have HI0 : Hid (MgI LL [] (H.map Ls.l)) := MgI.start (by rw [← HST.out]; exact hp.map Ls.l)
  have HNx := Lib.hid (next_u hW hh)
  have HQ := Lib.hid hq; have HB1 := Lib.hid hb
  have HW1 := Lib.hid hW
  clear hW hh hp hq hb HWt
  go_wp2_with fail
  refine HNx.out.mono ?_
  rintro e w2 ⟨x, b, n2, H2, rfl, hW2, hh2, hbut, hor⟩
  have hb2 : Below g w w2 := HB1.out.trans (hbut.below (by have := HB1.out.size; have := HG.out; omega) (Nat.le_refl _) (by split; exact Nat.le_refl _; exact Nat.le_of_lt HQ.out))
  have hg2 : g ≤ w2.heap.size := by have := hb2.size; have := HG.out; omega
  have HMR : Hid (MR w B g q c1 A1 LL (.slice none 0 0) (.pointer (some ⟨w2.heap.size, 0, none⟩)) (.bool b) (w2.alloc (.cells #[.string x.m.k, .int .u64 (x.m.s : Int), .bool x.m.g, .string x.x] 31))) := by
    refine ⟨[], x, b, n2, H2, w2.heap.size, hW2.below (al_belowM w2 _), hh2, ?_, ?_, ⟨rfl, .inl ⟨rfl, rfl⟩⟩, (fun e => by cases e), rfl, heap_alloc_new w2 _, rfl, ?_, ?_, ?_, ?_⟩
    · rcases hor with ⟨rfl, rfl, rfl⟩ | ⟨rfl, ho⟩
      · rw [if_neg (by simp)]; exact HI0.out
      · rw [if_pos rfl]; exact ho _ _ HI0.out
    · intro e; rcases hor with ⟨_, _, q⟩ | ⟨q, _⟩
      · exact q
      · rw [q] at e; cases e
    · rw [HG.out]; exact hb2.trans ((al_belowM w2 _).mono hg2)
    · rw [HG.out]; exact hg2
    · rw [HG.out]; exact Nat.le_refl _
    · rw [HG.out]; exact Nat.le_of_lt HQ.out
  clear hW2 hh2 hbut hor hb2 hg2 HI0 HB1 HNx HW1
  go_wp2
  go_loopw [4, 6, 7] (fun v p ok wr => MR w B g q c1 A1 LL v p ok wr) (fun v _ _ _ => N - lenV v)
  case atStart => exact HMR.out
  case round =>
    clear HMR
    obtain ⟨out, y, bb, m, H, P, hW, hh, hI, hbf, ho, hvP, rfl, hP, rfl, hbl, hwP, hwg, hwq⟩ := hrel
    obtain ⟨Av, cv, rfl, _⟩ := own_shape ho
    cases bb with
    | false =>
      obtain rfl := hbf rfl
      rw [if_neg (by simp)] at hI
      have hO := hI.done
      have hcnt := MgO.cnt hI
      have hEL : EL wr wr.heap.size Av out.length cv out := by
        obtain ⟨A', c', e, h1, h2, _⟩ := own_shape ho
        injection e with e1 e2 e3
        subst e1 e3
        exact ⟨Lies.of_own ho, Nat.le_refl _, h1, h2, fun z hz => HLs.out z (hO.perm.mem_iff.1 hz)⟩
      have HA := Lib.hid (asc_any hEL (by have := HNN.out; omega))
      have HF : Hid (∀ w', Below wr.heap.size wr w' → Below w.heap.size w w' ∧ w'.ownsRow w.heap.size 31 4 (.slice Av out.length cv) out.length (ecs out)) := fun w' hb => ⟨hbl.trans (hb.mono hbl.size), own_below ho hb⟩
      have HO := Lib.hid hO
      clear hW hh hI hbf ho hvP hP hbl hwP hwg hwq hO hcnt hEL
      obtain ⟨k, hk⟩ : ∃ k, out.length = k := ⟨_, rfl⟩
      rw [hk] at HA HF
      have HK := Lib.hid hk
      rw [hk]
      clear hk
      by_cases hr : Rise out
      · have hd : decide (Rise out) = true := decide_eq_true hr
        rw [hd] at HA
        have HR := Lib.hid hr
        clear hd hr
        go_wp2_with fail
        refine HA.out.mono ?_
        rintro e w3 ⟨rfl, hb⟩
        have HFF := Lib.hid (HF.out w3 hb)
        clear hb HF
        go_wp2
        go_ret2
        exact ⟨HFF.out.1, out, HO.out, .inl ⟨HR.out, _, rfl, by have := HFF.out.2; rw [← HK.out] at this; rw [← HK.out]; exact this⟩⟩
      · have hd : decide (Rise out) = false := decide_eq_false hr
        rw [hd] at HA
        have HR := Lib.hid hr
        clear hd hr
        go_wp2_with fail
        refine HA.out.mono ?_
        rintro e w3 ⟨rfl, hb⟩
        have HFF := Lib.hid (HF.out w3 hb)
        clear hb HF
        go_wp2
        go_ret2
        exact ⟨HFF.out.1, out, HO.out, .inr ⟨HR.out, rfl⟩⟩
    | true =>
      rw [if_pos rfl] at hI
      have hcnt := MgO.cnt hI
      rw [List.length_append, HNN.out] at hcnt
      have hcnt : out.length + 1 ≤ N := hcnt
      obtain ⟨k, hk⟩ : ∃ k, out.length = k := ⟨_, rfl⟩
      obtain ⟨i0, hi, hz0, hz1, hz2⟩ := info_parts entry_info
      obtain ⟨p0, p1, p2, p3, _⟩ := box4 hP
      have hPl := (Array.getElem?_eq_some_iff.1 hP).1
      have hbs := hbl.size
      have HX : Hid (∀ ob : Obj, (wr.alloc ob).ownsRow w.heap.size 31 4 (.slice Av k cv) k (ecs out) ∧ Wt (wr.alloc ob) B g q A1 m c1 H ∧ (wr.alloc ob).heap[P]? = some (.cells #[.string y.m.k, .int .u64 (y.m.s : Int), .bool y.m.g, .string y.x] 31 (0, 0)) ∧ Below w.heap.size w (wr.alloc ob)) := fun ob => by
        rw [← hk]
        exact ⟨own_below ho (al_belowM wr ob), hW.below (al_belowM wr ob), ((al_belowM wr ob).block P hPl).trans hP, hbl.trans ((al_belowM wr ob).mono hbs)⟩
      rw [hk] at hvP hcnt
      have HVP := Lib.hid hvP
      have HEL := Lib.hid (en_lies wr y)
      have HH := Lib.hid hh; have HI := Lib.hid hI
      have HGS : Hid (w.heap.size ≤ wr.heap.size ∧ w.heap.size ≤ P ∧ w.heap.size ≤ g ∧ w.heap.size ≤ q ∧ P < wr.heap.size) := ⟨hbs, hwP, hwg, hwq, hPl⟩
      have HK := Lib.hid hk
      clear hW hh hI hbf ho hvP hP hbl hwP hwg hwq hPl hbs
      rw [hk]
      clear hk
      unfold enW at HEL
      go_wp2_with (at_builtin; refine wpList_app _ rfl (.tmp 22) (.tmp 24) 22 rfl w.heap.size 31 i0 _ 4 48 Try.underlying22 hi hz0 hz1 hz2 rfl (by decide) (.slice Av k cv) k (ecs out) rfl (HX.out _).1 (wr.heap.size + 1) (some ⟨wr.heap.size, 0, none⟩) 1 1 (ecs [y]) rfl HEL.out (ecs_one _) (by unfold maxLen; omega) (by omega) (by have := HGS.out.1; simp; omega) ?_; intro v3 w3 ho3 hg3 hat3; have hP3 := (hg3.block P (by have := HGS.out.2.2.2.2; simp; omega) (fun e => HVP.out e.symm)).trans (HX.out (.cells #[.string y.m.k, .int .u64 (y.m.s : Int), .bool y.m.g, .string y.x] 31)).2.2.1; obtain ⟨q0, q1, q2, q3, _⟩ := box4 hP3; obtain ⟨A3, c3, rfl, _⟩ := own_shape ho3)
      have hX := HX.out (.cells #[.string y.m.k, .int .u64 (y.m.s : Int), .bool y.m.g, .string y.x] 31)
      have hW3 := hX.2.1.grown hX.1 HBB.out hg3
      have hb3 : Below w.heap.size w w3 := hX.2.2.2.grown hg3 (by have := HGS.out.1; simp; omega) (fun k hk => (hX.1.lt k hk).1)
      obtain ⟨X, hXX⟩ : ∃ X, Obj.cells #[.string y.m.k, .int .u64 (y.m.s : Int), .bool y.m.g, .string y.x] 31 = X := ⟨_, rfl⟩
      have hW4 := hW3.below (al_belowM w3 X)
      have hP4 : (w3.alloc X).heap[w3.heap.size]? = some (.cells #[.string y.m.k, .int .u64 (y.m.s : Int), .bool y.m.g, .string y.x] 31 (0, 0)) := by rw [hXX]; exact heap_alloc_new w3 X
      have ho4 := own_below ho3 (al_belowM w3 X)
      have hne4 : (Value.slice A3 (k + 1) c3).ownBlock ≠ some w3.heap.size := fun e => by have := (ho3.lt _ e).2; omega
      have hap := hW4.apart ho4
      have hap1 := hW4.apart1 hP4
      have hb4 : Below w.heap.size w (w3.alloc X) := hb3.trans ((al_belowM w3 X).mono hb3.size)
      have hz3 := hb3.size
      have HNx := Lib.hid (next_u hW4 HH.out)
      have HF : Hid (∀ (x' : En) (b' : Bool) (n' : Nat) (H' : List Ls) (w5 : World), Wt w5 B g q A1 n' c1 H' → (∀ i, HAt H' i) → But (w3.alloc X) w5 g (if m = 0 then g else q) → ((b' = false ∧ H = [] ∧ H' = []) ∨ (b' = true ∧ ∀ L out, MgI L out (H.map Ls.l) → MgI L (out ++ [x']) (H'.map Ls.l))) →
          w5.heap[w3.heap.size]? = some (.cells #[.string y.m.k, .int .u64 (y.m.s : Int), .bool y.m.g, .string y.x] 31 (0, 0)) ∧ MR w B g q c1 A1 LL (.slice A3 (k + 1) c3) (.pointer (some ⟨w3.heap.size, 0, none⟩)) (.bool b') (set4E w5 w3.heap.size x')) := fun x' b' n' H' w5 hW5 hh5 hbut hor => by
        have hP5 := (hbut.block w3.heap.size (by simp) hap1.1 hap1.2).trans hP4
        have hBP : B ≤ w3.heap.size := Nat.le_trans HBB.out hz3
        have hgg := HGS.out
        have hlen : (out ++ [y]).length = k + 1 := by rw [List.length_append, HK.out]; rfl
        have hecs : ecs out ++ ecs [y] = ecs (out ++ [y]) := by unfold ecs; rw [List.flatMap_append]
        refine ⟨hP5, out ++ [y], x', b', n', H', w3.heap.size, hW5.set4 hP5 hBP (fun k hk => set4E_ne k hk) (Nat.le_of_eq (set4E_size _ _ _).symm), hh5, ?_, ?_, ?_, hne4, rfl, set4E_at hP5 x', rfl, ?_, hz3, hgg.2.2.1, hgg.2.2.2.1⟩
        · rcases hor with ⟨rfl, rfl, rfl⟩ | ⟨rfl, hor⟩
          · rw [if_neg (by simp)]; exact HI.out
          · rw [if_pos rfl]; exact hor _ _ HI.out
        · intro e; rcases hor with ⟨_, _, q⟩ | ⟨q, _⟩
          · exact q
          · rw [q] at e; cases e
        · rw [hlen, ← hecs]
          exact own_set4E (own_butM ho4 hbut hap.1 hap.2) hne4
        · refine set4E_below (hb4.trans (hbut.below (by have := hb4.size; omega) hgg.2.2.1 ?_)) hz3
          split
          · exact hgg.2.2.1
          · exact hgg.2.2.2.1
      have HMs : Hid (N - (k + 1) < N - k) := by unfold Hid; omega
      subst hXX
      clear hX hW3 hb3 hW4 hP4 ho4 hne4 hap hap1 hb4 hz3 ho3 hg3 hat3 hP3 q0 q1 q2 q3 HX HEL HH HI HGS HK HVP hcnt HLs HBB HST HNN HG HQ
      refine HNx.out.mono ?_
      rintro e w5 ⟨x', b', n', H', rfl, hW5, hh5, hbut, hor⟩
      obtain ⟨hP5, hMR⟩ := HF.out x' b' n' H' w5 hW5 hh5 hbut hor
      obtain ⟨t0, t1, t2, t3, f0, f1, f2, f3⟩ := box4 hP5
      have HR := Lib.hid hMR
      clear hW5 hh5 hbut hor HF HNx hP5 hMR
      go_wp2
      go_roundw
      case rel => exact HR.out
      case measure => exact HMs.out
end Go.Proofs.Ytoljldokehfokaa

