/-
  Layer 11's laws: in; SameFiles.
-/
import Derived.Test.YtnnocjnmfabnaaaEdA
import Derived.Test.YtnnocjnmfabnaaaKpX
import Derived.BigQuiet
import Derived.LoopTactic
import Derived.Laws.StructEq
import Derived.Deep.QuietTactic
namespace Go.Proofs.Ytnnocjnmfabnaaa
open Go.RowKit
set_option linter.unusedVariables false
set_option maxRecDepth 100000

theorem al_belowI (w : World) (o : Obj) : Below w.heap.size w (w.alloc o) := (Below.refl _ _).alloc (Nat.le_refl _) _
theorem eql_fi_no {x f : Fi} (h : x ≠ f) (W : World) : (binOp .eql 37 (.agg #[.int .u32 (x.num : Int), .int .i64 x.lv, .string x.a, .string x.z]) (.agg #[.int .u32 (f.num : Int), .int .i64 f.lv, .string f.a, .string f.z])).run Try.prog W = .ok (.bool false) W := by
  have hs : ∀ {a b : ByteArray}, a ≠ b → (a.toList == b.toList) = false := fun {a b} hne => by
    rw [show (a.toList == b.toList) = decide (a = b) from txt_eqB _ _]; exact decide_eq_false hne
  have hf : (Try.prog.fieldsOf 37).toList = (Try.prog.fieldsOf 37).toList := rfl
  rw [run_eql_struct]
  by_cases h1 : x.num = f.num
  · by_cases h2 : x.lv = f.lv
    · by_cases h3 : x.a = f.a
      · have h4 : x.z ≠ f.z := fun h4 => h (Fi.ext' h1 h2 h3 h4)
        simp [go_sem, Try.underlying37, Try.underlying24, Try.underlying3, Try.underlying9, h1, h2, h3, hs h4, Op.eqFields, part]
      · simp [go_sem, Try.underlying37, Try.underlying24, Try.underlying3, Try.underlying9, h1, h2, hs h3, Op.eqFields, part]
    · simp [go_sem, Try.underlying37, Try.underlying24, Try.underlying3, Try.underlying9, h1, h2, Op.eqFields, part]
  · have h1' : ((x.num : Int) == (f.num : Int)) = false := by
      rw [beq_eq_false_iff_ne]; omega
    simp [go_sem, Try.underlying37, Try.underlying24, Try.underlying3, Try.underlying9, h1', Op.eqFields, part]
set_option maxHeartbeats 1000000 in
theorem sameF_yes {w : World} {A A2 : Option Addr} {n c c2 : Nat} {l : List Fi} (h1 : Lies w w.heap.size 4 A n (fcs l)) (h2 : Lies w w.heap.size 4 A2 n (fcs l)) (hn : n ≤ 4611686018427387904) :
    Calls Try.prog 8 #[.slice A n c, .slice A2 n c2] w fun e w' => e = .returned (.bool true) ∧ Below w.heap.size w w' := by
  have H1 := Lib.hid h1; have H2 := Lib.hid h2
  clear h1 h2
  go_enter Try.func8, Try.ntmps8
  go_wp2
  go_loopw [5] (fun i wr => ∃ k q : Nat, k ≤ n ∧ i = .int .i64 (k : Int) ∧ wr = w.drewN q) (fun i _ => n - (intOf i).toNat)
  case atStart => exact ⟨0, 0, Nat.zero_le _, rfl, rfl⟩
  case round =>
    obtain ⟨k, q, hk, rfl, rfl⟩ := hrel
    by_cases hlt : k < n
    · obtain ⟨b, o, x, rfl, hbB, hu, c0, c1, c2', c3⟩ := H1.out.file hlt
      obtain ⟨b2, o2, x2, rfl, hbB2, hu2, d0, d1, d2, d3⟩ := H2.out.file hlt
      rw [hu] at hu2
      injection hu2 with hu2
      subst hu2
      have hi0 : (0 : Int) ≤ (k : Int) := by omega
      have hi1 : (k : Int) < (n : Int) := by omega
      clear hu
      go_wp2
      go_quiet (fail)
      go_wp2
      go_roundw
      case rel => exact ⟨k + 1, _, hlt, by go_num, by first | rfl | (rw [World.drewN_drewN])⟩
      case measure => simp [intOf]; omega
    · obtain rfl : k = n := by omega
      go_wp2
      go_ret
      exact ⟨rfl, below_drewN (Below.refl _ _) _⟩
end Go.Proofs.Ytnnocjnmfabnaaa
