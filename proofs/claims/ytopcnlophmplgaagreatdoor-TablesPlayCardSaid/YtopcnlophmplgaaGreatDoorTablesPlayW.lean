/-
  The walk of TablesPlay.
-/
import Derived.Test.YtopcnlophmplgaaGreatDoorP7
import Derived.Test.YtopcnlophmplgaaGreatDoorActs7
namespace Go.Proofs.YtopcnlophmplgaaGreatDoor
open Go.RowKit
set_option linter.unusedVariables false
set_option maxRecDepth 100000

/-- x's box -/
abbrev Bx7 (p : Nat) (x : Ac7) (w : World) : Prop := w.cell? ⟨p, 0, none⟩ = some (.int .u8 (x.kind : Int)) ∧ w.cell? ⟨p, 1, none⟩ = some (.string x.e.m.k) ∧ w.cell? ⟨p, 2, none⟩ = some (.int .u64 (x.e.m.s : Int)) ∧ w.cell? ⟨p, 3, none⟩ = some (.bool x.e.m.g) ∧ w.cell? ⟨p, 4, none⟩ = some (.string x.e.x) ∧ w.cell? ⟨p, 5, none⟩ = some (.int .i64 x.n)
/-- the box's block -/
def BI7 (p : Nat) (x : Ac7) (w : World) : Prop := w.heap[p]? = some (.cells x.cs.toArray 85 (0, 0))
theorem BI7.cells {p : Nat} {x : Ac7} {w : World} (h : BI7 p x w) : Bx7 p x w := by
  refine ⟨?_, ?_, ?_, ?_, ?_, ?_⟩ <;> (rw [cell_of_row w p _ _ _ (0, 0) h]; rfl)
theorem BI7.keep {p : Nat} {x : Ac7} {w w' : World} (h : BI7 p x w) (e : w'.heap[p]? = w.heap[p]?) : BI7 p x w' := e.trans h
theorem BI7.ty {p : Nat} {x : Ac7} {w : World} (h : BI7 p x w) : Ty w 85 p := ⟨_, _, h⟩
theorem BI7.lt {p : Nat} {x : Ac7} {w : World} (h : BI7 p x w) : p < w.heap.size := h.ty.lt
theorem BI7.below {p : Nat} {x : Ac7} {w w' : World} (h : BI7 p x w) (hb : Below w.heap.size w w') : BI7 p x w' := h.keep (hb.block p h.lt)
def bx7 (x : Ac7) (w : World) : World := w.alloc (.cells #[.int .u8 (x.kind : Int), .string x.e.m.k, .int .u64 (x.e.m.s : Int), .bool x.e.m.g, .string x.e.x, .int .i64 x.n] 85)
theorem bx7_is (x : Ac7) (w : World) : BI7 w.heap.size x (bx7 x w) := heap_alloc_new w _
theorem bx7_below (x : Ac7) (w : World) : Below w.heap.size w (bx7 x w) := (Below.refl _ w).alloc (Nat.le_refl _) _
theorem BI7.put {p : Nat} {x : Ac7} {w w' : World} (h : BI7 p x w) (hw : Wrote (TbBlk w) w w') : BI7 p x w' :=
  h.keep (hw.block p h.lt fun q => by rcases q with q | q <;> exact absurd (h.ty.no q) (by decide))
theorem BI7.rput {p m : Nat} {x : Ac7} {w w' : World} (h : BI7 p x w) (hw : Wrote (fun i => i = m) w w') (hm : Ty w 78 m) : BI7 p x w' :=
  h.keep (hw.block p h.lt fun q => by rw [q] at h; exact absurd (h.ty.no hm) (by decide))
theorem putS_len (S : List En) (x : En) (k : Int) : (putS S x k).length ≤ S.length + 1 := by
  unfold putS
  split
  · rw [insE_len]; exact Nat.le_refl _
  · omega
/-- what holds ahead of a round -/
def PR7 (w : World) (t m g n : Nat) (i : Value) (wr : World) : Prop :=
  ∃ (k : Nat) (S : List En) (ls : List BL) (ve : Value), k ≤ n ∧ i = .int .i64 (k : Int) ∧ S.length ≤ k ∧ ls.length ≤ k ∧ P7 w wr t m g S ls ve

def Fine7 (w : World) : Prop := True
theorem fine7_drew (w : World) : Below w.heap.size w w.drew := ⟨rfl, rfl, rfl, Nat.le_refl _, fun _ _ => rfl⟩
theorem p7_esum {w0 w : World} {t m g : Nat} {S : List En} {ls : List BL} {ve : Value} (h : P7 w0 w t m g S ls ve) (hn : S.length ≤ 301) : esum S ≤ 1048576 := by
  have := esum_le h.tb.fine
  omega

set_option maxHeartbeats 40000000 in
theorem tablesPlay_walk (A : Option Addr) (n c : Nat) (l : List Ac7) (w : World) (y : Lies w w.heap.size 6 A n (acs7 l)) (u : ∀ x ∈ l, x.Ok) (hnc : n ≤ c) (hc : c ≤ 140737488351232) (ht : TabB w.heap.size w) :
    Calls Tryz.prog 4 #[.slice A n c] w fun e w' => e = .returned (.bool true) ∧ Below w.heap.size w w' := by
  have HL := Lib.hid y; have HAc := Lib.hid u; have HT := Lib.hid ht
  have HG := Lib.hid (great7_any A n c w.heap.size l w y u (by omega))
  clear y u hnc hc ht
  go_enter Tryz.func4, Tryz.ntmps4
  go_wp2_with fail
  refine HG.out.mono ?_
  rintro x w2 ⟨gb, rfl, hfit, q, rfl⟩
  have HB2 := Lib.hid (below_drewN (Below.refl w.heap.size w) q)
  have HFit := Lib.hid hfit
  clear hfit HG
  generalize w.drewN q = w2 at *
  cases gb with
  | true =>
    go_wp2
    go_ret
    exact ⟨rfl, HB2.out⟩
  | false =>
    obtain ⟨hwe, hn3⟩ := HFit.out rfl
    have HWe := Lib.hid hwe
    clear hwe HFit
    go_wp2_with fail
    refine (tb_new HB2.out).mono ?_
    rintro x w3 ⟨t, rfl, hT, _⟩
    have hb4 : Below w3.heap.size w3 (w3.alloc (.cells #[nilS] 78)) := (Below.refl _ w3).alloc (Nat.le_refl _) _
    have hR4 : RT (w3.alloc (.cells #[nilS] 78)) w.heap.size w3.heap.size [] := ⟨nilS, heap_alloc_new w3 _, World.ownsRow_nil _ _ _ _⟩
    have hT4 := hT.below hb4
    have hm3 := hT.low.size
    have HP : Hid (∀ W, W = (w3.alloc (.cells #[nilS] 78)) → P7 w (W.alloc (.cells (cellsE 0 nilS) 53)) t w3.heap.size W.heap.size [] [] nilS) := by
      rintro W rfl
      have hb5 := (Below.refl (w3.alloc (.cells #[nilS] 78)).heap.size (w3.alloc (.cells #[nilS] 78))).alloc (Nat.le_refl _) (.cells (cellsE 0 nilS) 53)
      exact ⟨hT4.below hb5, hR4.below hb5, keptE_start (by simp; omega), hm3⟩
    have R0 : Hid (PR7 w t w3.heap.size (w3.heap.size + 1) n (.int .i64 0) ((w3.alloc (.cells #[nilS] 78)).alloc (.cells (cellsE 0 nilS) 53))) := by
      have h1 := HP.out _ rfl
      rw [show (w3.alloc (.cells #[nilS] 78)).heap.size = w3.heap.size + 1 from by simp] at h1
      exact ⟨0, [], [], nilS, Nat.zero_le _, rfl, Nat.le_refl _, Nat.le_refl _, h1⟩
    clear hT hb4 hR4 hT4 HP
    go_wp2
    go_loopw [6] (fun i wr => PR7 w t w3.heap.size (w3.heap.size + 1) n i wr) (fun i _ => n - (intOf i).toNat)
    case atStart => exact R0.out
    case round =>
      obtain ⟨k, S, ls, ve, hk, rfl, hSl, hls, hP⟩ := hrel
      clear R0
      have hlow := hP.low
      by_cases hlt : k < n
      · obtain ⟨b, o, x, hAe, hbB, hx, q0, q1, q2, q3, q4, q5⟩ := (HL.out.below hlow).act7 hlt
        subst hAe
        have hok := HAc.out x (List.mem_of_getElem? hx)
        obtain ⟨hkk, hxs, _, _, hn1, hn2⟩ := hok
        have hxw : x.e.m.k.size ≤ 40000 ∧ x.e.x.size ≤ 40000 := by
          have h1 := weigh7_take l k x hx
          have h2 := weigh7_take_le l (k + 1)
          have h3 := HWe.out
          omega
        obtain ⟨hxk, hxx⟩ := hxw
        obtain ⟨r, hr⟩ : ∃ r : Nat, r = x.kind % 6 := ⟨_, rfl⟩
        have hr6 : r < 6 := by rw [hr]; omega
        have m1 : (x.kind : Int) % 6 = (r : Int) := by omega
        have m2 : Int.tmod (x.kind : Int) 6 = (r : Int) := by rw [Int.tmod_eq_emod_of_nonneg (by omega)]; exact m1
        have hPb := hP.below (bx7_below x wr)
        have HBi := Lib.hid (bx7_is x wr)
        have HP := Lib.hid hPb
        obtain ⟨p, hp⟩ : ∃ p, wr.heap.size = p := ⟨_, rfl⟩
        have hbc := HBi.out.cells
        obtain ⟨W, hW⟩ : ∃ W, bx7 x wr = W := ⟨_, rfl⟩
        have HW : Hid (wr.alloc (.cells #[.int .u8 (x.kind : Int), .string x.e.m.k, .int .u64 (x.e.m.s : Int), .bool x.e.m.g, .string x.e.x, .int .i64 x.n] 85) = W) := hW
        rw [hW] at HBi HP hbc
        rw [hp] at HBi hbc
        have HBc := Lib.hid hbc
        clear hx hP hlow hPb hW hbc hr
        by_cases r4 : r < 4
        · have HPd := Lib.hid (HP.out.below (fine7_drew W))
          have hRm : Hid (∀ W', RT W' w.heap.size w3.heap.size S → Ty W' 78 w3.heap.size) := fun W' ⟨v, h1, _⟩ => ⟨_, _, h1⟩
          have HBid := Lib.hid (HBi.out.below (fine7_drew W))
          have HPu := Lib.hid (HPd.out.put x.e (by omega) (by omega) x.n)
          have HRi := Lib.hid HPd.out.tb.rise
          have HMx := Lib.hid HPd.out.tb.max
          have HKs : Hid (∀ e ∈ S, e.m.k.size ≤ 1000000) := fun e he => by have := fine_size (HPd.out.tb.fine e he); omega
          unfold En.v at HPu
          have Sd : Bx7 p x W.drew := HBid.out.cells
          rcases (show r = 0 ∨ r = 1 ∨ r = 2 ∨ r = 3 by omega) with rfl | rfl | rfl | rfl
          all_goals (
            go_wp2
            rw [HW.out]
            go_region_held3 (fun w' => Bx7 p x w') (first | exact Sd | exact S5 | exact S6)
              (first
                | (go_at_call 31; refine HPu.out.mono ?_; rintro e w5 ⟨rfl, hT5, hR5, hK5, hw5⟩; have hI5 : BI7 p x w5 := HBid.out.put hw5; have S5 := hI5.cells; have hpr := p7_rput hT5 hR5 hK5 hm3 HRi.out HMx.out HKs.out x.e (by omega) (by omega) x.n rfl; unfold En.v at hpr)
                | (go_at_call 32; refine hpr.mono ?_; rintro e w6 ⟨rfl, hP6, hw6⟩; have hI6 : BI7 p x w6 := hI5.rput hw6 (hRm.out _ hR5); have S6 := hI6.cells)
                | fail)
            have hPn := hP6
            clear hP6 hw6 hw5 hT5 hR5 hK5 hI5 hI6 S5 S6 Sd hpr
            have HPt := Lib.hid hPn
            have hSn : (putS S x.e x.n).length ≤ 301 := by have := putS_len S x.e x.n; omega
            have HRb := Lib.hid (rbytes_ok HPt.out.rt (by omega) (p7_esum HPt.out hSn))
            clear hPn
            go_wp2_with fail
            refine (tb_len HPt.out.tb).mono ?_
            rintro e we ⟨rfl, hwe⟩
            obtain rfl := hwe.symm
            go_wp2_with fail
            refine (rlen_ok HPt.out.rt).mono ?_
            rintro e we ⟨rfl, hwe⟩
            obtain rfl := hwe.symm
            go_wp2_with fail
            refine (tb_bytes HPt.out.tb).mono ?_
            rintro e we ⟨rfl, hwe⟩
            obtain rfl := hwe.symm
            go_wp2_with fail
            refine HRb.out.mono ?_
            rintro e w8 ⟨rfl, hb8⟩
            have HN8 : Hid (PR7 w t w3.heap.size (w3.heap.size + 1) n (.int .i64 ((k : Int) + 1)) w8) := ⟨k + 1, putS S x.e x.n, ls, ve, hlt, by simp, by have := putS_len S x.e x.n; omega, by omega, HPt.out.below hb8⟩
            clear hb8
            go_wp2
            go_roundw
            case rel => exact HN8.out
            case measure => simp [intOf]; omega)
        · have HRi := Lib.hid HP.out.tb.rise
          have HKs : Hid (∀ e ∈ S, e.m.k.size ≤ 1000000) := fun e he => by have := fine_size (HP.out.tb.fine e he); omega
          have HMx : Hid (S.length ≤ 4096) := HP.out.tb.max
          by_cases r5 : r = 4
          · subst r5
            obtain ⟨z, bz, hz⟩ : ∃ (z : En) (bz : Bool), okE (getE S x.e.m.k x.e.m.s) = .tuple #[.agg #[.string z.m.k, .int .u64 (z.m.s : Int), .bool z.m.g, .string z.x], .bool bz] := ⟨_, _, rfl⟩
            have HGe := Lib.hid (tb_get HP.out.tb x.e.m.k x.e.m.s)
            rw [hz] at HGe
            have HGr : Hid (∀ W', Below W.heap.size W W' → Calls Tryz.prog 34 #[rp w3.heap.size, .string x.e.m.k, .int .u64 (x.e.m.s : Int)] W' fun e w' => e = .returned (.tuple #[.agg #[.string z.m.k, .int .u64 (z.m.s : Int), .bool z.m.g, .string z.x], .bool bz]) ∧ Below W'.heap.size W' w') := fun W' hW' => by
              have q := rget_ok (HP.out.rt.below hW') HRi.out HMx.out x.e.m.k x.e.m.s
              rw [hz] at q; exact q
            have hze : (z.m.k.toList == z.m.k.toList) = true := by simp
            have hzx : (z.x.toList == z.x.toList) = true := by simp
            clear hz
            go_wp2_with fail
            rw [HW.out]
            refine HGe.out.mono ?_
            rintro e w5 ⟨rfl, hb5⟩
            have hba := (enW_facts w5 z).2.2.2.2.1
            have hI6 : BI7 p x (w5.alloc (.cells #[.string z.m.k, .int .u64 (z.m.s : Int), .bool z.m.g, .string z.x] 83)) := (HBi.out.below hb5).below hba
            have HB6 : Hid (Below W.heap.size W (w5.alloc (.cells #[.string z.m.k, .int .u64 (z.m.s : Int), .bool z.m.g, .string z.x] 83))) := hb5.trans (hba.mono hb5.size)
            have HGr6 := Lib.hid (HGr.out _ HB6.out)
            have hJ6 : (w5.alloc (.cells #[.string z.m.k, .int .u64 (z.m.s : Int), .bool z.m.g, .string z.x] 83)).heap[w5.heap.size]? = some (.cells #[.string z.m.k, .int .u64 (z.m.s : Int), .bool z.m.g, .string z.x] 83 (0, 0)) := heap_alloc_new w5 _
            have HJ6 := Lib.hid hJ6
            have z1 : (w5.alloc (.cells #[.string z.m.k, .int .u64 (z.m.s : Int), .bool z.m.g, .string z.x] 83)).cell? ⟨p, 1, none⟩ = some (.string x.e.m.k) := hI6.cells.2.1
            have z2 : (w5.alloc (.cells #[.string z.m.k, .int .u64 (z.m.s : Int), .bool z.m.g, .string z.x] 83)).cell? ⟨p, 2, none⟩ = some (.int .u64 (x.e.m.s : Int)) := hI6.cells.2.2.1
            clear hb5 hba hI6 hJ6
            go_wp2_with fail
            obtain ⟨W6, hW6⟩ : ∃ W6, w5.alloc (.cells #[.string z.m.k, .int .u64 (z.m.s : Int), .bool z.m.g, .string z.x] 83) = W6 := ⟨_, rfl⟩
            rw [hW6] at HB6 HGr6 HJ6 ⊢
            clear hW6 z1 z2
            refine HGr6.out.mono ?_
            rintro e w7 ⟨rfl, hb7⟩
            have hbc := (enW_facts w7 z).2.2.2.2.1
            have hlt6 : w5.heap.size < W6.heap.size := (Array.getElem?_eq_some_iff.1 HJ6.out).1
            have hJ8 : (w7.alloc (.cells #[.string z.m.k, .int .u64 (z.m.s : Int), .bool z.m.g, .string z.x] 83)).heap[w5.heap.size]? = some (.cells #[.string z.m.k, .int .u64 (z.m.s : Int), .bool z.m.g, .string z.x] 83 (0, 0)) := (hbc.block _ (Nat.lt_of_lt_of_le hlt6 hb7.size)).trans ((hb7.block _ hlt6).trans HJ6.out)
            have y0 : (w7.alloc (.cells #[.string z.m.k, .int .u64 (z.m.s : Int), .bool z.m.g, .string z.x] 83)).cell? ⟨w5.heap.size, 0, none⟩ = some (.string z.m.k) := cell_of_row _ _ 0 _ _ (0, 0) hJ8
            have y1 : (w7.alloc (.cells #[.string z.m.k, .int .u64 (z.m.s : Int), .bool z.m.g, .string z.x] 83)).cell? ⟨w5.heap.size, 1, none⟩ = some (.int .u64 (z.m.s : Int)) := cell_of_row _ _ 1 _ _ (0, 0) hJ8
            have y2 : (w7.alloc (.cells #[.string z.m.k, .int .u64 (z.m.s : Int), .bool z.m.g, .string z.x] 83)).cell? ⟨w5.heap.size, 2, none⟩ = some (.bool z.m.g) := cell_of_row _ _ 2 _ _ (0, 0) hJ8
            have y3 : (w7.alloc (.cells #[.string z.m.k, .int .u64 (z.m.s : Int), .bool z.m.g, .string z.x] 83)).cell? ⟨w5.heap.size, 3, none⟩ = some (.string z.x) := cell_of_row _ _ 3 _ _ (0, 0) hJ8
            have hB8 : Below W.heap.size W (w7.alloc (.cells #[.string z.m.k, .int .u64 (z.m.s : Int), .bool z.m.g, .string z.x] 83)) := HB6.out.trans ((hb7.trans (hbc.mono hb7.size)).mono HB6.out.size)
            have HB8 := Lib.hid hB8
            clear hb7 hbc hlt6 hJ8 hB8
            go_wp2_with fail
            obtain ⟨W8, hW8⟩ : ∃ W8, w7.alloc (.cells #[.string z.m.k, .int .u64 (z.m.s : Int), .bool z.m.g, .string z.x] 83) = W8 := ⟨_, rfl⟩
            rw [hW8] at HB8 ⊢
            clear hW8 y0 y1 y2 y3
            have hPn := HP.out.below HB8.out
            have HPt := Lib.hid hPn
            have hSn : (S).length ≤ 301 := by omega
            have HRb := Lib.hid (rbytes_ok HPt.out.rt (by omega) (p7_esum HPt.out hSn))
            clear hPn
            refine (tb_len HPt.out.tb).mono ?_
            rintro e we ⟨rfl, hwe⟩
            obtain rfl := hwe.symm
            go_wp2_with fail
            refine (rlen_ok HPt.out.rt).mono ?_
            rintro e we ⟨rfl, hwe⟩
            obtain rfl := hwe.symm
            go_wp2_with fail
            refine (tb_bytes HPt.out.tb).mono ?_
            rintro e we ⟨rfl, hwe⟩
            obtain rfl := hwe.symm
            go_wp2_with fail
            refine HRb.out.mono ?_
            rintro e w8 ⟨rfl, hb8⟩
            have HN8 : Hid (PR7 w t w3.heap.size (w3.heap.size + 1) n (.int .i64 ((k : Int) + 1)) w8) := ⟨k + 1, S, ls, ve, hlt, by simp, by omega, by omega, HPt.out.below hb8⟩
            clear hb8
            go_wp2
            go_roundw
            case rel => exact HN8.out
            case measure => simp [intOf]; omega
          · obtain rfl : r = 5 := by omega
            have HFm := Lib.hid (tb_from HP.out.tb x.e.m x.n)
            have HRf : Hid (∀ W', Below W.heap.size W W' → Calls Tryz.prog 37 #[rp w3.heap.size, x.e.m.v, .int .i64 x.n] W' fun e w' => ∃ v, e = .returned v ∧ w'.ownsRow W'.heap.size 83 4 v (fromE S x.e.m x.n).length (ecs (fromE S x.e.m x.n)) ∧ Below W'.heap.size W' w') := fun W' hW' =>
              rfrom_ok (HP.out.rt.below hW') HRi.out HMx.out HKs.out x.e.m (by omega) x.n
            have hNl : (fromE S x.e.m x.n).length ≤ 301 := by
              have h1 : (fromE S x.e.m x.n).length ≤ (fromM S x.e.m).length := by unfold fromE; rw [List.length_take]; omega
              have h2 := fromM_le S x.e.m
              omega
            obtain ⟨L, hLe⟩ : ∃ L, fromE S x.e.m x.n = L := ⟨_, rfl⟩
            rw [hLe] at HFm HRf hNl
            unfold Mk.v at HFm HRf
            clear hLe
            go_wp2_with fail
            rw [HW.out]
            refine HFm.out.mono ?_
            rintro e w5 ⟨v5, rfl, ho5, hb5⟩
            obtain ⟨A5, c5, rfl, _⟩ := own_shape ho5
            obtain ⟨z0, z1, z2, z3, z4, z5⟩ := (HBi.out.below hb5).cells
            have HRf5 := Lib.hid (HRf.out _ hb5)
            have HO5 := Lib.hid ho5; have HB5 := Lib.hid hb5
            clear ho5 hb5 HFm HRf
            go_wp2_with fail
            refine HRf5.out.mono ?_
            rintro e w6 ⟨v6, rfl, ho6, hb6⟩
            obtain ⟨A6, c6, rfl, _⟩ := own_shape ho6
            have ho56 := own_below HO5.out hb6
            have HSm := Lib.hid (sameE_yes (c := c5) (c2 := c6) (Lies.of_own ho56) (Lies.of_own ho6) (by omega))
            have HO56 := Lib.hid ho56
            have HB6 := Lib.hid (HB5.out.trans (hb6.mono HB5.out.size))
            clear ho6 hb6 ho56 z0 z1 z2 z3 z4 z5
            go_wp2_with fail
            refine HSm.out.mono ?_
            rintro e w7 ⟨rfl, hb7⟩
            have hB7 : Below W.heap.size W w7 := HB6.out.trans (hb7.mono HB6.out.size)
            have ho7 := own_below HO56.out hb7
            have hap := kd_apart HP.out.bk ho7
            have HKp := Lib.hid ((HP.out.below hB7).keep A5 L.length c5 (by omega) (by omega) ⟨_, own_base ho7 HP.out.low.size⟩ hap)
            clear hb7 hB7 ho7 hap HSm HO56 HB6
            go_wp2_with fail
            refine HKp.out.mono ?_
            rintro e w8 ⟨rfl, ve8, hPn, _⟩
            have HPt := Lib.hid hPn
            have hSn : (S).length ≤ 301 := by omega
            have HRb := Lib.hid (rbytes_ok HPt.out.rt (by omega) (p7_esum HPt.out hSn))
            clear hPn
            go_wp2_with fail
            refine (tb_len HPt.out.tb).mono ?_
            rintro e we ⟨rfl, hwe⟩
            obtain rfl := hwe.symm
            go_wp2_with fail
            refine (rlen_ok HPt.out.rt).mono ?_
            rintro e we ⟨rfl, hwe⟩
            obtain rfl := hwe.symm
            go_wp2_with fail
            refine (tb_bytes HPt.out.tb).mono ?_
            rintro e we ⟨rfl, hwe⟩
            obtain rfl := hwe.symm
            go_wp2_with fail
            refine HRb.out.mono ?_
            rintro e w9 ⟨rfl, hb8⟩
            have HN8 : Hid (PR7 w t w3.heap.size (w3.heap.size + 1) n (.int .i64 ((k : Int) + 1)) w9) := ⟨k + 1, S, ls ++ [⟨A5, L.length, c5, ls.length + 1⟩], ve8, hlt, by simp, by omega, by rw [List.length_append, List.length_singleton]; omega, HPt.out.below hb8⟩
            clear hb8
            go_wp2
            go_roundw
            case rel => exact HN8.out
            case measure => simp [intOf]; omega
      · obtain rfl : k = n := by omega
        have HFm := Lib.hid (tb_from hP.tb noM 5000)
        have hNl : (fromE S noM 5000).length ≤ 301 := by
          have h1 : (fromE S noM 5000).length ≤ (fromM S noM).length := by unfold fromE; rw [List.length_take]; omega
          have h2 := fromM_le S noM
          omega
        have HRi := Lib.hid hP.tb.rise
        have HKs : Hid (∀ e ∈ S, e.m.k.size ≤ 1000000) := fun e he => by have := fine_size (hP.tb.fine e he); omega
        obtain ⟨L, hLe⟩ : ∃ L, fromE S noM 5000 = L := ⟨_, rfl⟩
        have HLe := Lib.hid hLe
        rw [hLe] at HFm hNl
        rw [noM_v] at HFm
        have HP := Lib.hid hP
        clear hLe hP hlow
        go_wp2_with fail
        refine HFm.out.mono ?_
        rintro e w5 ⟨v5, rfl, ho5, hb5⟩
        obtain ⟨A5, c5, rfl, _⟩ := own_shape ho5
        have hap := kd_apart HP.out.bk ho5
        have HKp := Lib.hid ((HP.out.below hb5).keep A5 L.length c5 (by omega) (by omega) ⟨_, own_base ho5 HP.out.low.size⟩ hap)
        have HO5 := Lib.hid ho5
        have HSz : Hid (∀ i, wr.heap.size ≤ i → True) := fun _ _ => trivial
        clear ho5 hb5 hap HFm HSz
        go_wp2_with fail
        refine HKp.out.mono ?_
        rintro e w6 ⟨rfl, ve6, hP6, hw6⟩
        have HO6 := Lib.hid (own_ty HO5.out fun i hi => hw6.block i hi.lt fun hq => by rcases hq with hq | hq <;> exact absurd (hi.no hq) (by decide))
        have HP6 := Lib.hid hP6
        have HRf := Lib.hid (rfrom_ok hP6.rt HRi.out hP6.tb.max HKs.out noM (by decide) 5000)
        rw [HLe.out, noM_v] at HRf
        clear hP6 hw6 HKp HO5
        go_wp2_with fail
        refine HRf.out.mono ?_
        rintro e w7 ⟨v7, rfl, ho7, hb7⟩
        obtain ⟨A7, c7, rfl, _⟩ := own_shape ho7
        have HSm := Lib.hid (sameE_yes (c := c5) (c2 := c7) (Lies.of_own (own_below HO6.out hb7)) (Lies.of_own ho7) (by omega))
        have HP7 := Lib.hid (HP6.out.below hb7)
        clear ho7 hb7 HRf HO6 HP6
        go_wp2_with fail
        refine HSm.out.mono ?_
        rintro e w8 ⟨rfl, hb8⟩
        have hP8 := HP7.out.below hb8
        have HAp := Lib.hid (hP8.bk.apart hP8.low.size (by rw [List.length_append, List.length_singleton]; omega) (fun W hW => HT.out W (hP8.low.trans hW)))
        have HLw := Lib.hid hP8.low
        clear hb8 hP8 HP7 HSm
        go_wp2_with fail
        refine HAp.out.mono ?_
        rintro e w9 ⟨rfl, hb9⟩
        have HFin := Lib.hid (HLw.out.trans hb9)
        clear hb9
        go_wp2
        go_ret
        exact ⟨rfl, HFin.out⟩
end Go.Proofs.YtopcnlophmplgaaGreatDoor
