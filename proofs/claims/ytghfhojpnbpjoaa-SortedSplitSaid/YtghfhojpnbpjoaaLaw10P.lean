/-
  What layer 10's laws of parts of entries share.
-/
import Derived.Test.YtghfhojpnbpjoaaAl10
import Derived.Test.YtghfhojpnbpjoaaSrtP
namespace Go.Proofs.Ytghfhojpnbpjoaa
open Go.RowKit
set_option linter.unusedVariables false
set_option maxRecDepth 100000

theorem el_take {w : World} {B n c k : Nat} {A : Option Addr} {S : List En} (h : EL w B A n c S) (hk : k ≤ n) : EL w B A k c (S.take k) :=
  ⟨by rw [← ecs_take]; exact h.lies.takeE hk, h.B, Nat.le_trans hk h.nc, h.cc, fun e he => h.sz e ((List.take_sublist k S).mem he)⟩
theorem el_drop {w : World} {B n c k : Nat} {A : Option Addr} {S : List En} (h : EL w B A n c S) (hk : k ≤ n) : EL w B (cutE A c k) (n - k) (c - k) (S.drop k) :=
  ⟨by rw [← ecs_drop]; exact h.lies.cutE hk h.nc, h.B, by have := h.nc; omega, by have := h.cc; omega, fun e he => h.sz e ((List.drop_sublist k S).mem he)⟩
/-- what Put answers, in few words -/
theorem sput_some {w : World} {S : List En} {e : Ending} {w' : World} (h : SPut w S e w') : ∃ A n c, ∃ z : Nat, e = .returned (.tuple #[.slice A n c, .int .i64 (z : Int)]) ∧ (okF S = true → z = 0 ∧ n = (filB S).length ∧ w'.ownsRow w.heap.size 5 1 (.slice A n c) n ((filB S).map bv)) ∧ (okA S = false → z = 1) ∧ z ≤ 3 ∧ Below w.heap.size w w' := by
  obtain ⟨hb, h1, h2, h3⟩ := h
  by_cases ha : okA S = true
  · by_cases hn : S.length ≤ 4096
    · obtain ⟨A, c, he, ho⟩ := h1 ((okF_iff S).2 ⟨ha, hn⟩)
      exact ⟨A, _, c, 0, he, fun _ => ⟨rfl, rfl, ho⟩, (fun q => by rw [ha] at q; cases q), by omega, hb⟩
    · exact ⟨none, 0, 0, 3, h3 ha (by omega), (fun q => absurd ((okF_iff S).1 q).2 hn), (fun q => by rw [ha] at q; cases q), by omega, hb⟩
  · have ha : okA S = false := by simpa using ha
    exact ⟨none, 0, 0, 1, h2 ha, (fun q => by rw [((okF_iff S).1 q).1] at ha; cases ha), fun _ => rfl, by omega, hb⟩
theorem run_headU (w : World) (A : Option Addr) (n c h : Nat) (h3 : h ≤ c) :
    (Instr.slice 25 (.slice A n c) none (some (.int .u32 (h : Int))) none).run Try.prog w = .ok (.slice A h c) w := by
  obtain ⟨i0, hi, hz0, hz1, hz2⟩ := info_parts byte_info
  unfold Instr.slice
  simp [run_underlying Try.underlying25, Instr.sliceBounds, Instr.sliceBound, asIntOf, sizeOf, typeInfo, hi, h3]
  cases A <;> simp [Addr.add]
/-- where the index of a file stands -/
theorem tail_any {w W : World} {A : Option Addr} {n c base : Nat} {S : List En} (hok : okF S = true) (ho : w.ownsRow base 5 1 (.slice A n c) n ((filB S).map bv)) (hb : Below w.heap.size w W) :
    Calls Try.prog 27 #[.slice (cutA A c (n - 12)) (n - (n - 12)) (c - (n - 12))] W fun e w' => (∃ z : Nat, e = .returned (.tuple #[.int .u32 ((blkB S).length : Int), .int .i64 (z : Int)])) ∧ Below W.heap.size W w' := by
  have hl := (Lies.of_own ho).blen
  have h12 := filB_pos S
  have hle := filB_le hok
  obtain ⟨_, _, hv, hnc, _, _⟩ := own_shape ho
  injection hv with e1 e2 e3
  subst e1 e3
  have hL : Lies W W.heap.size 1 A n ((filB S).map bv) := ((Lies.of_own ho).below hb).more hb.size
  refine (getFour_any (cutA A c (n - 12)) (n - (n - 12)) (c - (n - 12)) ((filB S).drop (n - 12)) W (hL.cutA (by omega) hnc) (by omega) (by omega)).mono ?_
  rintro e w' ⟨rfl, hb2⟩
  have := flen_tail hok
  rw [hl] at this
  have e : (getFour ((filB S).drop (n - 12))).1 = (blkB S).length := this
  exact ⟨⟨(getFour ((filB S).drop (n - 12))).2, by rw [e]⟩, hb2⟩
end Go.Proofs.Ytghfhojpnbpjoaa
