/-
  A string that is made of bytes that lie in memory.
-/
import Derived.Test.YtiodiiedgmobjaaBase
namespace Go.Proofs.Ytiodiiedgmobjaa
open Go.RowKit
set_option linter.unusedVariables false
theorem foldl_push (l : List UInt8) (s : ByteArray) : (l.map fun c => (c.toNat : Int)).foldl (fun r n => r.push (UInt8.ofNat n.toNat)) s = ⟨s.data ++ l.toArray⟩ := by
  induction l generalizing s with
  | nil => simp
  | cons c l ih =>
    simp only [List.map_cons, List.foldl_cons]
    rw [ih]
    simp [ByteArray.push]
/-- a slice of bytes as a string -/
theorem run_str {P : Program} (w : World) (src dst e : TypeId) (hs : P.underlying src = some (.slice e)) (he : P.underlying e = some (.int .u8)) (hd : P.underlying dst = some .string)
    {B n : Nat} {A : Option Addr} {l : List UInt8} (c : Nat) (h : Lies w B 1 A n (l.map bv)) : (convert src dst (.slice A n c)).run P w = .ok (.string ⟨l.toArray⟩) w := by
  rw [run_convert_bytes_string w src dst e A n c hs he hd]
  cases A with
  | none =>
    obtain ⟨_, h2⟩ := h.nil_of
    have : l = [] := by simpa using h2
    subst this
    rfl
  | some ad =>
    have hn : (l.map bv).length = n := by have := h.len; omega
    have hload := run_loadCells_list (P := P) w ad (l.map bv) (fun j v hv => by
      obtain ⟨ad', u, e, _, hx, hc⟩ := h.spot j (by rcases List.getElem?_eq_some_iff.1 hv with ⟨h, _⟩; exact h)
      injection e with e
      subst e
      rw [hv] at hx
      injection hx with hx
      subst hx
      exact hc)
    rw [hn] at hload
    have h2 := run_bytesToString (P := P) w ad n c (l.map fun c => (c.toNat : Int)) (by
      rw [hload]; simp [bv])
    rw [h2, foldl_push]
    simp [ByteArray.empty, ByteArray.emptyWithCapacity]
    rfl
end Go.Proofs.Ytiodiiedgmobjaa
