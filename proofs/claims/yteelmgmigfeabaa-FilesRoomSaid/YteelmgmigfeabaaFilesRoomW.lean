/-
  The walk of FilesRoom.
-/
import Derived.Test.YteelmgmigfeabaaRoom
import Derived.Deep.RegionHeld3
namespace Go.Proofs.Yteelmgmigfeabaa
open Go.RowKit Go.Maps Go.Sort
set_option linter.unusedVariables false
set_option maxRecDepth 20000

abbrev hasRow (a0 a1 a2 : Nat) : Array Value := #[.int .i64 (a0 : Int), .int .i64 (a1 : Int), .int .i64 (a2 : Int)]
def GoneR (w : World) (d : Nat) (S : St) (p : Nat) (row : Array Value) (W : World) : Prop := AtP w W d (S.remove [49]) p row 60
def RRm (w : World) (N d f g e p n : Nat) (i : Value) (wr : World) : Prop :=
  ∃ (k a0 a1 a2 : Nat) (S : St), k ≤ n ∧ i = .int .i64 (k : Int) ∧ AtP w wr d S p (hasRow a0 a1 a2) 60 ∧ IR N f g e a0 a1 a2 S ∧ a0 + a1 + a2 ≤ N
def s0 : ByteArray := ⟨#[48]⟩
def s1 : ByteArray := ⟨#[49]⟩
def s2 : ByteArray := ⟨#[50]⟩

set_option maxHeartbeats 4000000 in
theorem filesRoom_small (m0 : Nat) (A : Option Addr) (n c : Nat) (l : List Nat) (w : World) (hm : m0 < 65536) (hl : Lies w w.heap.size 1 A n (l.map (fun x : Nat => Value.int .u16 (x : Int)))) (hu : ∀ x ∈ l, x < 65536) (hn : n ≤ 60) :
    Calls Try.prog 7 #[.int .u16 (m0 : Int), .slice A n c] w fun e w' => e = .returned (.bool true) ∧ Below w.heap.size w w' := by
  have i2 : (n : Int) ≤ 60 := by omega
  have HL := Lib.hid hl; have HU := Lib.hid hu
  clear hl hu
  obtain ⟨r0, hr0⟩ : ∃ r0 : Nat, r0 = m0 % 10000 := ⟨_, rfl⟩
  have hr1 : r0 < 10000 := by rw [hr0]; omega
  have e1 : (m0 : Int) % 10000 = (r0 : Int) := by omega
  have e2 : Int.tmod (m0 : Int) 10000 = (r0 : Int) := by rw [Int.tmod_eq_emod_of_nonneg (by omega)]; exact e1
  obtain ⟨N, hN⟩ : ∃ N : Nat, N = 1 + r0 := ⟨_, rfl⟩
  have hNi : (1 : Int) + (r0 : Int) = (N : Int) := by omega
  have HNb : Hid (1 ≤ N ∧ N ≤ 10000) := ⟨by omega, by omega⟩
  clear hr0 hN
  go_enter Try.func7, Try.ntmps7
  go_wp2_with fail
  refine (alive5_any w).mono ?_
  rintro x w1 ⟨rfl, hb1⟩
  have HB1 := Lib.hid hb1; clear hb1
  go_wp2_with fail
  refine (at_new (w0 := w) HB1.out N HNb.out.1 (by have := HNb.out; omega)).mono ?_
  rintro x w2 ⟨d, rfl, h2⟩
  have H := Lib.hid h2; clear h2
  go_wp2_with fail
  refine (at_create H.out s0 (by decide) (by decide) rfl (by show 0 < 64; decide)).mono ?_
  rintro x w3 ⟨rfl, f, _, h2⟩
  have h2 : At w w3 d (R1 N f) := h2
  have l1 := h2.look_lt (look_one f [48])
  have H := Lib.hid h2; clear h2
  go_wp2_with fail
  refine (at_create H.out s1 (by decide) (by decide) (look_one_not f (by decide)) (by show 1 < 64; decide)).mono ?_
  rintro x w4 ⟨rfl, g, hg, h2⟩
  have h2 : At w w4 d (R2 N f g) := h2
  have l2 := h2.look_lt (k := [49]) (f := g) (by rw [R2_look]; rfl)
  have l3 := h2.look_lt (k := [48]) (f := f) (by rw [R2_look]; rfl)
  have H := Lib.hid h2; clear h2
  go_wp2_with fail
  refine (at_create H.out s2 (by decide) (by decide) (by rw [R2_look]; rfl) (by show 2 < 64; decide)).mono ?_
  rintro x w5 ⟨rfl, e, he, h2⟩
  have h2 : At w w5 d (R3 N f g e) := h2
  have HNe : Hid (f ≠ g ∧ f ≠ e ∧ g ≠ e) := ⟨by omega, by omega, by omega⟩
  have HP := Lib.hid (AtP.made h2 (hasRow 0 0 0) 60)
  clear h2 hg he l1 l2 l3 H
  have R1' : RRm w N d f g e w5.heap.size n (.int .i64 0) (w5.alloc (.cells #[.int .i64 0, .int .i64 0, .int .i64 0] 60)) := ⟨0, 0, 0, 0, _, Nat.zero_le _, rfl, HP.out, R3_inv N f g e HNe.out.1 HNe.out.2.1 HNe.out.2.2, Nat.zero_le _⟩
  have R0 := Lib.hid R1'; clear R1' HP
  go_wp2
  generalize w5.alloc (.cells #[.int .i64 0, .int .i64 0, .int .i64 0] 60) = w6 at *
  generalize w5.heap.size = p at *
  go_loopw [9] (fun i wr => RRm w N d f g e p n i wr) (fun i _ => n - (intOf i).toNat)
  case atStart => exact R0.out
  case round =>
    clear R0
    obtain ⟨k, a0, a1, a2, S, hk, rfl, hat, hinv, hsum⟩ := hrel
    have HA := Lib.hid hat; have HI := Lib.hid hinv
    clear hat hinv
    have hN1 := HNb.out.2
    by_cases hlt : k < n
    · obtain ⟨bb, o, u, hA, _, hu, hcell⟩ := (HL.out.below HA.out.low).at_ hlt
      rw [List.getElem?_map] at hu
      obtain ⟨x, hx, rfl⟩ := Option.map_eq_some_iff.1 hu
      have hx16 := HU.out x (List.mem_of_getElem? hx)
      obtain ⟨ki, hki⟩ : ∃ ki : Nat, ki = x % 3 := ⟨_, rfl⟩
      obtain ⟨lo, hlo⟩ : ∃ lo : Nat, lo = x % 2000 := ⟨_, rfl⟩
      have hki3 : ki < 3 := by omega
      have hlo2 : lo < 2000 := by omega
      have m1 : (x : Int) % 3 = (ki : Int) := by omega
      have m2 : Int.tmod (x : Int) 3 = (ki : Int) := by rw [Int.tmod_eq_emod_of_nonneg (by omega)]; exact m1
      have m3 : (x : Int) % 2000 = (lo : Int) := by omega
      have m4 : Int.tmod (x : Int) 2000 = (lo : Int) := by rw [Int.tmod_eq_emod_of_nonneg (by omega)]; exact m3
      have c0 : wr.cell? ⟨p, 0, none⟩ = some (.int .i64 (a0 : Int)) := HA.out.cell rfl
      have c1 : wr.cell? ⟨p, 1, none⟩ = some (.int .i64 (a1 : Int)) := HA.out.cell rfl
      have c2 : wr.cell? ⟨p, 2, none⟩ = some (.int .i64 (a2 : Int)) := HA.out.cell rfl
      have hleft : Hid (S.left = N - (a0 + a1 + a2)) := HI.out.left N f g e HNe.out.1 HNe.out.2.1 HNe.out.2.2
      subst hA
      clear hu hx hki hlo
      by_cases k0 : ki = 0
      · subst k0
        have hsl : ∀ W, (Instr.slice 9 (.string ⟨#[48, 49, 50]⟩) (some (.int .i64 0)) (some (.int .i64 1)) none).run Try.prog W = .ok (.string ⟨#[48]⟩) W := fun W => by
          rw [run_slice_string_if W _ _ _ _ _ _ Try.underlying9, if_pos (by decide), if_pos (by decide)]; rfl
        have HK : Hid (look S.pres [48] = some f) := by show _ = _; rw [HI.out.pres]; exact D3_0 f g e
        by_cases hfit : lo ≤ N - (a0 + a1 + a2)
        · have j1 : (lo : Int) ≤ (N : Int) - (a0 : Int) - (a1 : Int) - (a2 : Int) := by omega
          have HFt : Hid (lo ≤ S.left ∧ lo + S.len f ≤ 1048576) := ⟨by rw [hleft.out]; exact hfit, by rw [HI.out.l0]; omega⟩
          have hs3 : a0 + a1 + a2 + lo ≤ N := by omega
          clear hfit
          go_wp2_with (at_make; refine wpList_makeZ _ rfl _ _ rfl _ _ _ _ lo rfl rfl rfl rfl (by omega) ?_)
          intro w6 hown6 hg6
          have hb6 : Below wr.heap.size wr w6 := (Below.refl _ _).grown hg6 (Nat.le_refl _) (fun j hj => by cases hj)
          have HA6 := Lib.hid (HA.out.below hb6); have HL6 := Lib.hid (Lies.of_own hown6)
          clear hown6 hg6 hb6 c0 c1 c2 hcell
          go_wp2_with fail
          refine (p_append HA6.out s0 (by decide) (by decide) _ lo _ (List.replicate lo 0) (by rw [List.map_replicate]; exact HL6.out) HK.out HFt.out).mono ?_
          rintro x' w7 ⟨rfl, h7⟩
          have HI7 : Hid (IR N f g e (a0 + lo) a1 a2 (S.append f (List.replicate lo 0))) := by
            have := HI.out.app0 N f g e HNe.out.1 HNe.out.2.1 HNe.out.2.2 (List.replicate lo 0)
            rw [List.length_replicate] at this; exact this
          have HA7 := Lib.hid h7
          obtain ⟨S7, hS7⟩ : ∃ S7, S.append f (List.replicate lo 0) = S7 := ⟨_, rfl⟩
          rw [hS7] at HI7 HA7
          clear h7 hS7 HA6 HL6
          have c0 : w7.cell? ⟨p, 0, none⟩ = some (.int .i64 (a0 : Int)) := HA7.out.cell rfl
          have hfz : w7.frozen? ⟨p, 0, none⟩ = false := HA7.out.thaw _
          have HA8 : Hid (AtP w (w7.setCell ⟨p, 0, none⟩ (.int .i64 ((a0 : Int) + (lo : Int)))) d S7 p (hasRow (a0 + lo) a1 a2) 60) := HA7.out.set 0 _
          go_wp2_with fail
          refine (at_size HA8.out.at_ s0 (by decide) (by decide) (f := f) (by rw [HI7.out.pres]; exact D3_0 f g e)).mono ?_
          rw [HI7.out.l0]
          rintro x' w9 ⟨rfl, b9⟩
          have HA9 := Lib.hid (HA8.out.below b9)
          clear b9 c0 HA8 HA7 hfz
          have KC : Hid (∀ W, Below w9.heap.size w9 W → W.cell? ⟨p, 0, none⟩ = some (.int .i64 ((a0 : Int) + (lo : Int))) ∧ W.cell? ⟨p, 1, none⟩ = some (.int .i64 (a1 : Int)) ∧ W.cell? ⟨p, 2, none⟩ = some (.int .i64 (a2 : Int))) := fun W hW => ⟨(HA9.out.below hW).cell rfl, (HA9.out.below hW).cell rfl, (HA9.out.below hW).cell rfl⟩
          have HLf : Hid (∀ W, Below w9.heap.size w9 W → Calls Try.prog 16 #[dp d] W fun x w' => x = .returned (.int .i64 ((N : Int) - ((a0 : Int) + (lo : Int)) - (a1 : Int) - (a2 : Int))) ∧ Below w9.heap.size w9 w') := fun W hW => (at_left (HA9.out.below hW).at_).mono fun x w' hx => ⟨by rw [hx.1, HI7.out.left N f g e HNe.out.1 HNe.out.2.1 HNe.out.2.2]; congr 2; omega, hW.trans (hx.2.mono hW.size)⟩
          have HR : Hid (∀ W, Below w9.heap.size w9 W → RRm w N d f g e p n (.int .i64 ((k : Int) + 1)) W) := fun W hW => ⟨k + 1, (a0 + lo), a1, a2, _, hlt, by go_num, HA9.out.below hW, HI7.out, by omega⟩
          have hd0 : Below w9.heap.size w9 w9.drew := below_any rfl rfl rfl rfl
          have hcast : ((a0 + lo : Nat) : Int) = (a0 : Int) + (lo : Int) := by omega
          rw [hcast]
          clear hcast
          have hw1 : IntKind.i64.wrap ((N : Int) - ((a0 : Int) + (lo : Int))) = (N : Int) - ((a0 : Int) + (lo : Int)) := (IntWalk.i64_left _).trans (IntWalk.wrap64_in _ ⟨by omega, by omega⟩)
          have hw2 : IntKind.i64.wrap ((N : Int) - ((a0 : Int) + (lo : Int)) - (a1 : Int)) = (N : Int) - ((a0 : Int) + (lo : Int)) - (a1 : Int) := (IntWalk.i64_left _).trans (IntWalk.wrap64_in _ ⟨by omega, by omega⟩)
          have hw3 : IntKind.i64.wrap ((N : Int) - ((a0 : Int) + (lo : Int)) - (a1 : Int) - (a2 : Int)) = (N : Int) - ((a0 : Int) + (lo : Int)) - (a1 : Int) - (a2 : Int) := (IntWalk.i64_left _).trans (IntWalk.wrap64_in _ ⟨by omega, by omega⟩)
          go_wp2_with fail
          go_region_held3 (fun W => W.cell? ⟨p, 0, none⟩ = some (.int .i64 ((a0 : Int) + (lo : Int))) ∧ W.cell? ⟨p, 1, none⟩ = some (.int .i64 (a1 : Int)) ∧ W.cell? ⟨p, 2, none⟩ = some (.int .i64 (a2 : Int))) (first | exact KC.out _ hd0 | exact KC.out _ hbd)
            (first
             | (go_at_call 16; with_reducible refine Calls.mono (HLf.out _ (by assumption)) ?_; rintro x wd ⟨rfl, hbd⟩))
          all_goals (
            go_wp2
            exact ⟨HR.out _ hbd, by simp [intOf]; omega⟩)
        · have j1 : (N : Int) - (a0 : Int) - (a1 : Int) - (a2 : Int) < (lo : Int) := by omega
          have HFt : Hid (¬ (lo ≤ S.left ∧ lo + S.len f ≤ 1048576)) := fun h => hfit (by rw [← hleft.out]; exact h.1)
          clear hfit
          go_wp2_with (at_make; refine wpList_makeZ _ rfl _ _ rfl _ _ _ _ lo rfl rfl rfl rfl (by omega) ?_)
          intro w6 hown6 hg6
          have hb6 : Below wr.heap.size wr w6 := (Below.refl _ _).grown hg6 (Nat.le_refl _) (fun j hj => by cases hj)
          have HA6 := Lib.hid (HA.out.below hb6); have HL6 := Lib.hid (Lies.of_own hown6)
          clear hown6 hg6 hb6 c0 c1 c2 hcell
          go_wp2_with fail
          refine (at_append_full HA6.out.at_ s0 (by decide) (by decide) _ lo _ (by omega) HK.out HFt.out).mono ?_
          rintro x' w7 ⟨rfl, b7⟩
          have HA7 := Lib.hid (HA6.out.below b7)
          clear b7 HA6 HL6
          go_wp2_with fail
          refine (at_size HA7.out.at_ s0 (by decide) (by decide) HK.out).mono ?_
          rw [HI.out.l0]
          rintro x' w9 ⟨rfl, b9⟩
          have HA9 := Lib.hid (HA7.out.below b9)
          have HI7 := HI
          clear b9 HA7
          have KC : Hid (∀ W, Below w9.heap.size w9 W → W.cell? ⟨p, 0, none⟩ = some (.int .i64 (a0 : Int)) ∧ W.cell? ⟨p, 1, none⟩ = some (.int .i64 (a1 : Int)) ∧ W.cell? ⟨p, 2, none⟩ = some (.int .i64 (a2 : Int))) := fun W hW => ⟨(HA9.out.below hW).cell rfl, (HA9.out.below hW).cell rfl, (HA9.out.below hW).cell rfl⟩
          have HLf : Hid (∀ W, Below w9.heap.size w9 W → Calls Try.prog 16 #[dp d] W fun x w' => x = .returned (.int .i64 ((N : Int) - (a0 : Int) - (a1 : Int) - (a2 : Int))) ∧ Below w9.heap.size w9 w') := fun W hW => (at_left (HA9.out.below hW).at_).mono fun x w' hx => ⟨by rw [hx.1, HI7.out.left N f g e HNe.out.1 HNe.out.2.1 HNe.out.2.2]; congr 2; omega, hW.trans (hx.2.mono hW.size)⟩
          have HR : Hid (∀ W, Below w9.heap.size w9 W → RRm w N d f g e p n (.int .i64 ((k : Int) + 1)) W) := fun W hW => ⟨k + 1, a0, a1, a2, _, hlt, by go_num, HA9.out.below hW, HI7.out, by omega⟩
          have hd0 : Below w9.heap.size w9 w9.drew := below_any rfl rfl rfl rfl
          have hw1 : IntKind.i64.wrap ((N : Int) - (a0 : Int)) = (N : Int) - (a0 : Int) := (IntWalk.i64_left _).trans (IntWalk.wrap64_in _ ⟨by omega, by omega⟩)
          have hw2 : IntKind.i64.wrap ((N : Int) - (a0 : Int) - (a1 : Int)) = (N : Int) - (a0 : Int) - (a1 : Int) := (IntWalk.i64_left _).trans (IntWalk.wrap64_in _ ⟨by omega, by omega⟩)
          have hw3 : IntKind.i64.wrap ((N : Int) - (a0 : Int) - (a1 : Int) - (a2 : Int)) = (N : Int) - (a0 : Int) - (a1 : Int) - (a2 : Int) := (IntWalk.i64_left _).trans (IntWalk.wrap64_in _ ⟨by omega, by omega⟩)
          go_wp2_with fail
          go_region_held3 (fun W => W.cell? ⟨p, 0, none⟩ = some (.int .i64 (a0 : Int)) ∧ W.cell? ⟨p, 1, none⟩ = some (.int .i64 (a1 : Int)) ∧ W.cell? ⟨p, 2, none⟩ = some (.int .i64 (a2 : Int))) (first | exact KC.out _ hd0 | exact KC.out _ hbd)
            (first
             | (go_at_call 16; with_reducible refine Calls.mono (HLf.out _ (by assumption)) ?_; rintro x wd ⟨rfl, hbd⟩))
          all_goals (
            go_wp2
            exact ⟨HR.out _ hbd, by simp [intOf]; omega⟩)
      by_cases k1 : ki = 1
      · subst k1
        have hsl : ∀ W, (Instr.slice 9 (.string ⟨#[48, 49, 50]⟩) (some (.int .i64 1)) (some (.int .i64 2)) none).run Try.prog W = .ok (.string ⟨#[49]⟩) W := fun W => by
          rw [run_slice_string_if W _ _ _ _ _ _ Try.underlying9, if_pos (by decide), if_pos (by decide)]; rfl
        have HK : Hid (look S.pres [49] = some g) := by show _ = _; rw [HI.out.pres]; exact D3_1 f g e
        by_cases hfit : lo ≤ N - (a0 + a1 + a2)
        · have j1 : (lo : Int) ≤ (N : Int) - (a0 : Int) - (a1 : Int) - (a2 : Int) := by omega
          have HFt : Hid (lo ≤ S.left ∧ lo + S.len g ≤ 1048576) := ⟨by rw [hleft.out]; exact hfit, by rw [HI.out.l1]; omega⟩
          have hs3 : a0 + a1 + a2 + lo ≤ N := by omega
          clear hfit
          go_wp2_with (at_make; refine wpList_makeZ _ rfl _ _ rfl _ _ _ _ lo rfl rfl rfl rfl (by omega) ?_)
          intro w6 hown6 hg6
          have hb6 : Below wr.heap.size wr w6 := (Below.refl _ _).grown hg6 (Nat.le_refl _) (fun j hj => by cases hj)
          have HA6 := Lib.hid (HA.out.below hb6); have HL6 := Lib.hid (Lies.of_own hown6)
          clear hown6 hg6 hb6 c0 c1 c2 hcell
          go_wp2_with fail
          refine (p_append HA6.out s1 (by decide) (by decide) _ lo _ (List.replicate lo 0) (by rw [List.map_replicate]; exact HL6.out) HK.out HFt.out).mono ?_
          rintro x' w7 ⟨rfl, h7⟩
          have HI7 : Hid (IR N f g e a0 (a1 + lo) a2 (S.append g (List.replicate lo 0))) := by
            have := HI.out.app1 N f g e HNe.out.1 HNe.out.2.1 HNe.out.2.2 (List.replicate lo 0)
            rw [List.length_replicate] at this; exact this
          have HA7 := Lib.hid h7
          obtain ⟨S7, hS7⟩ : ∃ S7, S.append g (List.replicate lo 0) = S7 := ⟨_, rfl⟩
          rw [hS7] at HI7 HA7
          clear h7 hS7 HA6 HL6
          have c1 : w7.cell? ⟨p, 1, none⟩ = some (.int .i64 (a1 : Int)) := HA7.out.cell rfl
          have hfz : w7.frozen? ⟨p, 1, none⟩ = false := HA7.out.thaw _
          have HA8 : Hid (AtP w (w7.setCell ⟨p, 1, none⟩ (.int .i64 ((a1 : Int) + (lo : Int)))) d S7 p (hasRow a0 (a1 + lo) a2) 60) := HA7.out.set 1 _
          go_wp2_with fail
          refine (at_size HA8.out.at_ s1 (by decide) (by decide) (f := g) (by rw [HI7.out.pres]; exact D3_1 f g e)).mono ?_
          rw [HI7.out.l1]
          rintro x' w9 ⟨rfl, b9⟩
          have HA9 := Lib.hid (HA8.out.below b9)
          clear b9 c1 HA8 HA7 hfz
          have KC : Hid (∀ W, Below w9.heap.size w9 W → W.cell? ⟨p, 0, none⟩ = some (.int .i64 (a0 : Int)) ∧ W.cell? ⟨p, 1, none⟩ = some (.int .i64 ((a1 : Int) + (lo : Int))) ∧ W.cell? ⟨p, 2, none⟩ = some (.int .i64 (a2 : Int))) := fun W hW => ⟨(HA9.out.below hW).cell rfl, (HA9.out.below hW).cell rfl, (HA9.out.below hW).cell rfl⟩
          have HLf : Hid (∀ W, Below w9.heap.size w9 W → Calls Try.prog 16 #[dp d] W fun x w' => x = .returned (.int .i64 ((N : Int) - (a0 : Int) - ((a1 : Int) + (lo : Int)) - (a2 : Int))) ∧ Below w9.heap.size w9 w') := fun W hW => (at_left (HA9.out.below hW).at_).mono fun x w' hx => ⟨by rw [hx.1, HI7.out.left N f g e HNe.out.1 HNe.out.2.1 HNe.out.2.2]; congr 2; omega, hW.trans (hx.2.mono hW.size)⟩
          have HR : Hid (∀ W, Below w9.heap.size w9 W → RRm w N d f g e p n (.int .i64 ((k : Int) + 1)) W) := fun W hW => ⟨k + 1, a0, (a1 + lo), a2, _, hlt, by go_num, HA9.out.below hW, HI7.out, by omega⟩
          have hd0 : Below w9.heap.size w9 w9.drew := below_any rfl rfl rfl rfl
          have hcast : ((a1 + lo : Nat) : Int) = (a1 : Int) + (lo : Int) := by omega
          rw [hcast]
          clear hcast
          have hw1 : IntKind.i64.wrap ((N : Int) - (a0 : Int)) = (N : Int) - (a0 : Int) := (IntWalk.i64_left _).trans (IntWalk.wrap64_in _ ⟨by omega, by omega⟩)
          have hw2 : IntKind.i64.wrap ((N : Int) - (a0 : Int) - ((a1 : Int) + (lo : Int))) = (N : Int) - (a0 : Int) - ((a1 : Int) + (lo : Int)) := (IntWalk.i64_left _).trans (IntWalk.wrap64_in _ ⟨by omega, by omega⟩)
          have hw3 : IntKind.i64.wrap ((N : Int) - (a0 : Int) - ((a1 : Int) + (lo : Int)) - (a2 : Int)) = (N : Int) - (a0 : Int) - ((a1 : Int) + (lo : Int)) - (a2 : Int) := (IntWalk.i64_left _).trans (IntWalk.wrap64_in _ ⟨by omega, by omega⟩)
          go_wp2_with fail
          go_region_held3 (fun W => W.cell? ⟨p, 0, none⟩ = some (.int .i64 (a0 : Int)) ∧ W.cell? ⟨p, 1, none⟩ = some (.int .i64 ((a1 : Int) + (lo : Int))) ∧ W.cell? ⟨p, 2, none⟩ = some (.int .i64 (a2 : Int))) (first | exact KC.out _ hd0 | exact KC.out _ hbd)
            (first
             | (go_at_call 16; with_reducible refine Calls.mono (HLf.out _ (by assumption)) ?_; rintro x wd ⟨rfl, hbd⟩))
          all_goals (
            go_wp2
            exact ⟨HR.out _ hbd, by simp [intOf]; omega⟩)
        · have j1 : (N : Int) - (a0 : Int) - (a1 : Int) - (a2 : Int) < (lo : Int) := by omega
          have HFt : Hid (¬ (lo ≤ S.left ∧ lo + S.len g ≤ 1048576)) := fun h => hfit (by rw [← hleft.out]; exact h.1)
          clear hfit
          go_wp2_with (at_make; refine wpList_makeZ _ rfl _ _ rfl _ _ _ _ lo rfl rfl rfl rfl (by omega) ?_)
          intro w6 hown6 hg6
          have hb6 : Below wr.heap.size wr w6 := (Below.refl _ _).grown hg6 (Nat.le_refl _) (fun j hj => by cases hj)
          have HA6 := Lib.hid (HA.out.below hb6); have HL6 := Lib.hid (Lies.of_own hown6)
          clear hown6 hg6 hb6 c0 c1 c2 hcell
          go_wp2_with fail
          refine (at_append_full HA6.out.at_ s1 (by decide) (by decide) _ lo _ (by omega) HK.out HFt.out).mono ?_
          rintro x' w7 ⟨rfl, b7⟩
          have HA7 := Lib.hid (HA6.out.below b7)
          clear b7 HA6 HL6
          go_wp2_with fail
          refine (at_size HA7.out.at_ s1 (by decide) (by decide) HK.out).mono ?_
          rw [HI.out.l1]
          rintro x' w9 ⟨rfl, b9⟩
          have HA9 := Lib.hid (HA7.out.below b9)
          have HI7 := HI
          clear b9 HA7
          have KC : Hid (∀ W, Below w9.heap.size w9 W → W.cell? ⟨p, 0, none⟩ = some (.int .i64 (a0 : Int)) ∧ W.cell? ⟨p, 1, none⟩ = some (.int .i64 (a1 : Int)) ∧ W.cell? ⟨p, 2, none⟩ = some (.int .i64 (a2 : Int))) := fun W hW => ⟨(HA9.out.below hW).cell rfl, (HA9.out.below hW).cell rfl, (HA9.out.below hW).cell rfl⟩
          have HLf : Hid (∀ W, Below w9.heap.size w9 W → Calls Try.prog 16 #[dp d] W fun x w' => x = .returned (.int .i64 ((N : Int) - (a0 : Int) - (a1 : Int) - (a2 : Int))) ∧ Below w9.heap.size w9 w') := fun W hW => (at_left (HA9.out.below hW).at_).mono fun x w' hx => ⟨by rw [hx.1, HI7.out.left N f g e HNe.out.1 HNe.out.2.1 HNe.out.2.2]; congr 2; omega, hW.trans (hx.2.mono hW.size)⟩
          have HR : Hid (∀ W, Below w9.heap.size w9 W → RRm w N d f g e p n (.int .i64 ((k : Int) + 1)) W) := fun W hW => ⟨k + 1, a0, a1, a2, _, hlt, by go_num, HA9.out.below hW, HI7.out, by omega⟩
          have hd0 : Below w9.heap.size w9 w9.drew := below_any rfl rfl rfl rfl
          have hw1 : IntKind.i64.wrap ((N : Int) - (a0 : Int)) = (N : Int) - (a0 : Int) := (IntWalk.i64_left _).trans (IntWalk.wrap64_in _ ⟨by omega, by omega⟩)
          have hw2 : IntKind.i64.wrap ((N : Int) - (a0 : Int) - (a1 : Int)) = (N : Int) - (a0 : Int) - (a1 : Int) := (IntWalk.i64_left _).trans (IntWalk.wrap64_in _ ⟨by omega, by omega⟩)
          have hw3 : IntKind.i64.wrap ((N : Int) - (a0 : Int) - (a1 : Int) - (a2 : Int)) = (N : Int) - (a0 : Int) - (a1 : Int) - (a2 : Int) := (IntWalk.i64_left _).trans (IntWalk.wrap64_in _ ⟨by omega, by omega⟩)
          go_wp2_with fail
          go_region_held3 (fun W => W.cell? ⟨p, 0, none⟩ = some (.int .i64 (a0 : Int)) ∧ W.cell? ⟨p, 1, none⟩ = some (.int .i64 (a1 : Int)) ∧ W.cell? ⟨p, 2, none⟩ = some (.int .i64 (a2 : Int))) (first | exact KC.out _ hd0 | exact KC.out _ hbd)
            (first
             | (go_at_call 16; with_reducible refine Calls.mono (HLf.out _ (by assumption)) ?_; rintro x wd ⟨rfl, hbd⟩))
          all_goals (
            go_wp2
            exact ⟨HR.out _ hbd, by simp [intOf]; omega⟩)
      by_cases k2 : ki = 2
      · subst k2
        have hsl : ∀ W, (Instr.slice 9 (.string ⟨#[48, 49, 50]⟩) (some (.int .i64 2)) (some (.int .i64 3)) none).run Try.prog W = .ok (.string ⟨#[50]⟩) W := fun W => by
          rw [run_slice_string_if W _ _ _ _ _ _ Try.underlying9, if_pos (by decide), if_pos (by decide)]; rfl
        have HK : Hid (look S.pres [50] = some e) := by show _ = _; rw [HI.out.pres]; exact D3_2 f g e
        by_cases hfit : lo ≤ N - (a0 + a1 + a2)
        · have j1 : (lo : Int) ≤ (N : Int) - (a0 : Int) - (a1 : Int) - (a2 : Int) := by omega
          have HFt : Hid (lo ≤ S.left ∧ lo + S.len e ≤ 1048576) := ⟨by rw [hleft.out]; exact hfit, by rw [HI.out.l2]; omega⟩
          have hs3 : a0 + a1 + a2 + lo ≤ N := by omega
          clear hfit
          go_wp2_with (at_make; refine wpList_makeZ _ rfl _ _ rfl _ _ _ _ lo rfl rfl rfl rfl (by omega) ?_)
          intro w6 hown6 hg6
          have hb6 : Below wr.heap.size wr w6 := (Below.refl _ _).grown hg6 (Nat.le_refl _) (fun j hj => by cases hj)
          have HA6 := Lib.hid (HA.out.below hb6); have HL6 := Lib.hid (Lies.of_own hown6)
          clear hown6 hg6 hb6 c0 c1 c2 hcell
          go_wp2_with fail
          refine (p_append HA6.out s2 (by decide) (by decide) _ lo _ (List.replicate lo 0) (by rw [List.map_replicate]; exact HL6.out) HK.out HFt.out).mono ?_
          rintro x' w7 ⟨rfl, h7⟩
          have HI7 : Hid (IR N f g e a0 a1 (a2 + lo) (S.append e (List.replicate lo 0))) := by
            have := HI.out.app2 N f g e HNe.out.1 HNe.out.2.1 HNe.out.2.2 (List.replicate lo 0)
            rw [List.length_replicate] at this; exact this
          have HA7 := Lib.hid h7
          obtain ⟨S7, hS7⟩ : ∃ S7, S.append e (List.replicate lo 0) = S7 := ⟨_, rfl⟩
          rw [hS7] at HI7 HA7
          clear h7 hS7 HA6 HL6
          have c2 : w7.cell? ⟨p, 2, none⟩ = some (.int .i64 (a2 : Int)) := HA7.out.cell rfl
          have hfz : w7.frozen? ⟨p, 2, none⟩ = false := HA7.out.thaw _
          have HA8 : Hid (AtP w (w7.setCell ⟨p, 2, none⟩ (.int .i64 ((a2 : Int) + (lo : Int)))) d S7 p (hasRow a0 a1 (a2 + lo)) 60) := HA7.out.set 2 _
          go_wp2_with fail
          refine (at_size HA8.out.at_ s2 (by decide) (by decide) (f := e) (by rw [HI7.out.pres]; exact D3_2 f g e)).mono ?_
          rw [HI7.out.l2]
          rintro x' w9 ⟨rfl, b9⟩
          have HA9 := Lib.hid (HA8.out.below b9)
          clear b9 c2 HA8 HA7 hfz
          have KC : Hid (∀ W, Below w9.heap.size w9 W → W.cell? ⟨p, 0, none⟩ = some (.int .i64 (a0 : Int)) ∧ W.cell? ⟨p, 1, none⟩ = some (.int .i64 (a1 : Int)) ∧ W.cell? ⟨p, 2, none⟩ = some (.int .i64 ((a2 : Int) + (lo : Int)))) := fun W hW => ⟨(HA9.out.below hW).cell rfl, (HA9.out.below hW).cell rfl, (HA9.out.below hW).cell rfl⟩
          have HLf : Hid (∀ W, Below w9.heap.size w9 W → Calls Try.prog 16 #[dp d] W fun x w' => x = .returned (.int .i64 ((N : Int) - (a0 : Int) - (a1 : Int) - ((a2 : Int) + (lo : Int)))) ∧ Below w9.heap.size w9 w') := fun W hW => (at_left (HA9.out.below hW).at_).mono fun x w' hx => ⟨by rw [hx.1, HI7.out.left N f g e HNe.out.1 HNe.out.2.1 HNe.out.2.2]; congr 2; omega, hW.trans (hx.2.mono hW.size)⟩
          have HR : Hid (∀ W, Below w9.heap.size w9 W → RRm w N d f g e p n (.int .i64 ((k : Int) + 1)) W) := fun W hW => ⟨k + 1, a0, a1, (a2 + lo), _, hlt, by go_num, HA9.out.below hW, HI7.out, by omega⟩
          have hd0 : Below w9.heap.size w9 w9.drew := below_any rfl rfl rfl rfl
          have hcast : ((a2 + lo : Nat) : Int) = (a2 : Int) + (lo : Int) := by omega
          rw [hcast]
          clear hcast
          have hw1 : IntKind.i64.wrap ((N : Int) - (a0 : Int)) = (N : Int) - (a0 : Int) := (IntWalk.i64_left _).trans (IntWalk.wrap64_in _ ⟨by omega, by omega⟩)
          have hw2 : IntKind.i64.wrap ((N : Int) - (a0 : Int) - (a1 : Int)) = (N : Int) - (a0 : Int) - (a1 : Int) := (IntWalk.i64_left _).trans (IntWalk.wrap64_in _ ⟨by omega, by omega⟩)
          have hw3 : IntKind.i64.wrap ((N : Int) - (a0 : Int) - (a1 : Int) - ((a2 : Int) + (lo : Int))) = (N : Int) - (a0 : Int) - (a1 : Int) - ((a2 : Int) + (lo : Int)) := (IntWalk.i64_left _).trans (IntWalk.wrap64_in _ ⟨by omega, by omega⟩)
          go_wp2_with fail
          go_region_held3 (fun W => W.cell? ⟨p, 0, none⟩ = some (.int .i64 (a0 : Int)) ∧ W.cell? ⟨p, 1, none⟩ = some (.int .i64 (a1 : Int)) ∧ W.cell? ⟨p, 2, none⟩ = some (.int .i64 ((a2 : Int) + (lo : Int)))) (first | exact KC.out _ hd0 | exact KC.out _ hbd)
            (first
             | (go_at_call 16; with_reducible refine Calls.mono (HLf.out _ (by assumption)) ?_; rintro x wd ⟨rfl, hbd⟩))
          all_goals (
            go_wp2
            exact ⟨HR.out _ hbd, by simp [intOf]; omega⟩)
        · have j1 : (N : Int) - (a0 : Int) - (a1 : Int) - (a2 : Int) < (lo : Int) := by omega
          have HFt : Hid (¬ (lo ≤ S.left ∧ lo + S.len e ≤ 1048576)) := fun h => hfit (by rw [← hleft.out]; exact h.1)
          clear hfit
          go_wp2_with (at_make; refine wpList_makeZ _ rfl _ _ rfl _ _ _ _ lo rfl rfl rfl rfl (by omega) ?_)
          intro w6 hown6 hg6
          have hb6 : Below wr.heap.size wr w6 := (Below.refl _ _).grown hg6 (Nat.le_refl _) (fun j hj => by cases hj)
          have HA6 := Lib.hid (HA.out.below hb6); have HL6 := Lib.hid (Lies.of_own hown6)
          clear hown6 hg6 hb6 c0 c1 c2 hcell
          go_wp2_with fail
          refine (at_append_full HA6.out.at_ s2 (by decide) (by decide) _ lo _ (by omega) HK.out HFt.out).mono ?_
          rintro x' w7 ⟨rfl, b7⟩
          have HA7 := Lib.hid (HA6.out.below b7)
          clear b7 HA6 HL6
          go_wp2_with fail
          refine (at_size HA7.out.at_ s2 (by decide) (by decide) HK.out).mono ?_
          rw [HI.out.l2]
          rintro x' w9 ⟨rfl, b9⟩
          have HA9 := Lib.hid (HA7.out.below b9)
          have HI7 := HI
          clear b9 HA7
          have KC : Hid (∀ W, Below w9.heap.size w9 W → W.cell? ⟨p, 0, none⟩ = some (.int .i64 (a0 : Int)) ∧ W.cell? ⟨p, 1, none⟩ = some (.int .i64 (a1 : Int)) ∧ W.cell? ⟨p, 2, none⟩ = some (.int .i64 (a2 : Int))) := fun W hW => ⟨(HA9.out.below hW).cell rfl, (HA9.out.below hW).cell rfl, (HA9.out.below hW).cell rfl⟩
          have HLf : Hid (∀ W, Below w9.heap.size w9 W → Calls Try.prog 16 #[dp d] W fun x w' => x = .returned (.int .i64 ((N : Int) - (a0 : Int) - (a1 : Int) - (a2 : Int))) ∧ Below w9.heap.size w9 w') := fun W hW => (at_left (HA9.out.below hW).at_).mono fun x w' hx => ⟨by rw [hx.1, HI7.out.left N f g e HNe.out.1 HNe.out.2.1 HNe.out.2.2]; congr 2; omega, hW.trans (hx.2.mono hW.size)⟩
          have HR : Hid (∀ W, Below w9.heap.size w9 W → RRm w N d f g e p n (.int .i64 ((k : Int) + 1)) W) := fun W hW => ⟨k + 1, a0, a1, a2, _, hlt, by go_num, HA9.out.below hW, HI7.out, by omega⟩
          have hd0 : Below w9.heap.size w9 w9.drew := below_any rfl rfl rfl rfl
          have hw1 : IntKind.i64.wrap ((N : Int) - (a0 : Int)) = (N : Int) - (a0 : Int) := (IntWalk.i64_left _).trans (IntWalk.wrap64_in _ ⟨by omega, by omega⟩)
          have hw2 : IntKind.i64.wrap ((N : Int) - (a0 : Int) - (a1 : Int)) = (N : Int) - (a0 : Int) - (a1 : Int) := (IntWalk.i64_left _).trans (IntWalk.wrap64_in _ ⟨by omega, by omega⟩)
          have hw3 : IntKind.i64.wrap ((N : Int) - (a0 : Int) - (a1 : Int) - (a2 : Int)) = (N : Int) - (a0 : Int) - (a1 : Int) - (a2 : Int) := (IntWalk.i64_left _).trans (IntWalk.wrap64_in _ ⟨by omega, by omega⟩)
          go_wp2_with fail
          go_region_held3 (fun W => W.cell? ⟨p, 0, none⟩ = some (.int .i64 (a0 : Int)) ∧ W.cell? ⟨p, 1, none⟩ = some (.int .i64 (a1 : Int)) ∧ W.cell? ⟨p, 2, none⟩ = some (.int .i64 (a2 : Int))) (first | exact KC.out _ hd0 | exact KC.out _ hbd)
            (first
             | (go_at_call 16; with_reducible refine Calls.mono (HLf.out _ (by assumption)) ?_; rintro x wd ⟨rfl, hbd⟩))
          all_goals (
            go_wp2
            exact ⟨HR.out _ hbd, by simp [intOf]; omega⟩)
      omega
    · obtain rfl : n = k := by omega
      have KC : Hid (∀ W, Below wr.heap.size wr W → W.cell? ⟨p, 0, none⟩ = some (.int .i64 (a0 : Int)) ∧ W.cell? ⟨p, 1, none⟩ = some (.int .i64 (a1 : Int)) ∧ W.cell? ⟨p, 2, none⟩ = some (.int .i64 (a2 : Int))) := fun W hW => ⟨(HA.out.below hW).cell rfl, (HA.out.below hW).cell rfl, (HA.out.below hW).cell rfl⟩
      have GC : Hid (∀ W, GoneR w d S p (hasRow a0 a1 a2) W → W.cell? ⟨p, 0, none⟩ = some (.int .i64 (a0 : Int)) ∧ W.cell? ⟨p, 1, none⟩ = some (.int .i64 (a1 : Int)) ∧ W.cell? ⟨p, 2, none⟩ = some (.int .i64 (a2 : Int))) := fun W hW => ⟨AtP.cell hW rfl, AtP.cell hW rfl, AtP.cell hW rfl⟩
      have HRm : Hid (∀ W, Below wr.heap.size wr W → Calls Try.prog 18 #[dp d, .string ⟨#[49]⟩] W fun x w' => x = .returned (er 0) ∧ GoneR w d S p (hasRow a0 a1 a2) w') := fun W hW => p_remove (HA.out.below hW) s1 (by decide) (by decide) (f := g) (by rw [HI.out.pres]; exact D3_1 f g e)
      have HLf : Hid (∀ W, GoneR w d S p (hasRow a0 a1 a2) W → Calls Try.prog 16 #[dp d] W fun x w' => x = .returned (.int .i64 ((N : Int) - (a0 : Int) - (a2 : Int))) ∧ GoneR w d S p (hasRow a0 a1 a2) w') := fun W hW => (at_left (AtP.at_ hW)).mono fun x w' hx => ⟨by rw [hx.1, HI.out.gone N f g e HNe.out.1 HNe.out.2.1 HNe.out.2.2]; congr 2; omega, AtP.below hW hx.2⟩
      have HLow : Hid (∀ W, GoneR w d S p (hasRow a0 a1 a2) W → Below w.heap.size w W) := fun W hW => AtP.low hW
      have hd0 : Below wr.heap.size wr wr.drew := below_any rfl rfl rfl rfl
      have hw1 : IntKind.i64.wrap ((N : Int) - (a0 : Int)) = (N : Int) - (a0 : Int) := (IntWalk.i64_left _).trans (IntWalk.wrap64_in _ ⟨by omega, by omega⟩)
      have hw2 : IntKind.i64.wrap ((N : Int) - (a0 : Int) - (a2 : Int)) = (N : Int) - (a0 : Int) - (a2 : Int) := (IntWalk.i64_left _).trans (IntWalk.wrap64_in _ ⟨by omega, by omega⟩)
      go_wp2_with fail
      go_region_held3 (fun W => W.cell? ⟨p, 0, none⟩ = some (.int .i64 (a0 : Int)) ∧ W.cell? ⟨p, 1, none⟩ = some (.int .i64 (a1 : Int)) ∧ W.cell? ⟨p, 2, none⟩ = some (.int .i64 (a2 : Int))) (first | exact KC.out _ hd0 | exact GC.out _ hbd | exact GC.out _ hbx)
        (first
         | (go_at_call 18; with_reducible refine Calls.mono (HRm.out _ (by assumption)) ?_; rintro x wd ⟨rfl, hbd⟩)
         | (go_at_call 16; with_reducible refine Calls.mono (HLf.out _ (by assumption)) ?_; rintro x wx ⟨rfl, hbx⟩))
      all_goals (
        go_wp2
        go_ret
        exact ⟨rfl, HLow.out _ hbx⟩)

set_option maxHeartbeats 2000000 in
theorem filesRoom_big (m0 : Nat) (A : Option Addr) (n c : Nat) (w : World) (hn : 60 < n) (hn2 : n ≤ 140737488351232) :
    Calls Try.prog 7 #[.int .u16 (m0 : Int), .slice A n c] w fun e w' => e = .returned (.bool true) ∧ Below w.heap.size w w' := by
  have i2 : (60 : Int) < (n : Int) := by omega
  go_enter Try.func7, Try.ntmps7
  go_wp2_with fail
  refine (alive5_any w).mono ?_
  rintro x w1 ⟨rfl, hb1⟩
  have HB1 := Lib.hid hb1; clear hb1
  go_wp2_with fail
  refine (alive5_any w1).mono ?_
  rintro x w2 ⟨rfl, hb2⟩
  have HB := Lib.hid (HB1.out.trans (hb2.mono HB1.out.size))
  clear hb2
  go_wp2
  go_ret
  exact ⟨rfl, HB.out⟩
theorem filesRoom_walk (m0 : Nat) (A : Option Addr) (n c : Nat) (l : List Nat) (w : World) (hm : m0 < 65536) (y : Lies w w.heap.size 1 A n (l.map (fun x : Nat => Value.int .u16 (x : Int)))) (hu : ∀ x ∈ l, x < 65536) (hnc : n ≤ c) (hc : c ≤ 140737488351232) :
    Calls Try.prog 7 #[.int .u16 (m0 : Int), .slice A n c] w fun e w' => e = .returned (.bool true) ∧ Below w.heap.size w w' := by
  by_cases h : 60 < n
  · exact filesRoom_big m0 A n c w h (by omega)
  · exact filesRoom_small m0 A n c l w hm y hu (by omega)
end Go.Proofs.Yteelmgmigfeabaa
