/-
  Do, told so that a walk goes straight on; what follows of what can be done.
-/
import Derived.Test.YtnnocjnmfabnaaaEdO
namespace Go.Proofs.Ytnnocjnmfabnaaa
open Go.RowKit
set_option linter.unusedVariables false
set_option maxRecDepth 100000

theorem doOk_bare {l : List Fi} (h : AddOk [] l) : DoOk l [] [] := ⟨h, RemOk.nil l, by rw [left_nil]; exact AddOk.nil h.2⟩
theorem doOk_bare_iff {l : List Fi} : DoOk l [] [] ↔ AddOk [] l := ⟨fun h => h.1, doOk_bare⟩
theorem addOk_perm {l L : List Fi} (h : AddOk [] l) (hp : L.Perm l) : AddOk [] L := ⟨fun f hf => h.1 f (hp.mem_iff.1 hf), ((hp.map Fi.num).nodup_iff).2 h.2⟩
theorem doOk_after {l a : List Fi} {r : List Nat} (h : DoOk l a r) : AddOk [] (left l r ++ a) := ⟨fun f hf => (List.mem_append.1 hf).elim (fun q => h.1.1 f (mem_left.1 q).1) (h.2.2.1 f), h.2.2.2⟩
theorem addOk_nil : AddOk [] [] := ⟨fun f hf => (by cases hf), List.nodup_nil⟩

/-- what Do answers -/
def DoU (w : World) (l a : List Fi) (r : List Nat) (N : Nat) (e : Ending) (w' : World) : Prop :=
  ∃ A n c L v, e = .returned (.tuple #[.slice A n c, .int .i64 v]) ∧ Below w.heap.size w w' ∧ Lies w' w'.heap.size 4 A n (fcs L) ∧ L.length = n ∧ n ≤ N ∧ UpFi L ∧ (∀ f ∈ L, szFi f) ∧
    ((v = 0 ∧ DoOk l a r ∧ L.Perm (left l r ++ a)) ∨ (v = 1 ∧ ¬DoOk l a r ∧ L = []))
theorem doU_any {n1 n2 n3 c1 c2 c3 : Nat} {P1 P2 P3 : Option Addr} {l a : List Fi} {r : List Nat} {w : World}
    (h1 : Lies w w.heap.size 4 P1 n1 (fcs l)) (h2 : Lies w w.heap.size 4 P2 n2 (fcs a)) (h3 : Lies w w.heap.size 1 P3 n3 (kvs r))
    (s1 : ∀ f ∈ l, szFi f) (s2 : ∀ f ∈ a, szFi f) (s3 : ∀ k ∈ r, k < 4294967296) (hn : n1 + n2 + n3 ≤ 10000) (j x s : Nat) :
    Calls Try.prog 6 #[.slice P1 n1 c1, .agg #[.slice P2 n2 c2, .slice P3 n3 c3, .int .u32 (j : Int), .int .u32 (x : Int), .int .u64 (s : Int)]] w (DoU w l a r (n1 + n2)) :=
  (do_any n1 n2 n3 P1 P2 P3 c1 c2 c3 l a r j x s w h1 h2 h3 s1 s2 s3 (by omega) (by omega) (by omega)).mono fun e w' ⟨hb, h⟩ => by
    have e1 := h1.flen; have e2 := h2.flen
    rcases h with ⟨hok, A, n, c, L, rfl, hp, hu, hn, ho⟩ | ⟨hno, rfl⟩
    · refine ⟨A, n, c, L, 0, rfl, hb, own_lies ho, hn, ?_, hu, fun f hf => ?_, .inl ⟨rfl, hok, hp⟩⟩
      · rw [← hn, hp.length_eq, List.length_append]
        have := List.length_filter_le (fun f : Fi => !r.contains f.num) l
        unfold left; omega
      · rcases List.mem_append.1 (hp.mem_iff.1 hf) with q | q
        · exact s1 f (mem_left.1 q).1
        · exact s2 f q
    · exact ⟨none, 0, 0, [], 1, rfl, hb, Lies.none_ _ _ _ _, rfl, Nat.zero_le _, List.Pairwise.nil, (fun f hf => by cases hf), .inr ⟨rfl, hno, rfl⟩⟩
/-- an edit that brings and takes none -/
theorem doB_any {n c : Nat} {P : Option Addr} {l : List Fi} {w : World} (h1 : Lies w w.heap.size 4 P n (fcs l)) (s1 : ∀ f ∈ l, szFi f) (hn : n ≤ 10000) (j x s : Nat) :
    Calls Try.prog 6 #[.slice P n c, .agg #[.slice none 0 0, .slice none 0 0, .int .u32 (j : Int), .int .u32 (x : Int), .int .u64 (s : Int)]] w (DoU w l [] [] n) :=
  doU_any (n2 := 0) (n3 := 0) h1 (Lies.none_ _ _ _ _ : Lies w w.heap.size 4 none 0 (fcs [])) (Lies.none_ _ _ _ _ : Lies w w.heap.size 1 none 0 (kvs [])) s1 (fun f hf => by cases hf) (fun k hk => by cases hk) (by omega) j x s
end Go.Proofs.Ytnnocjnmfabnaaa
