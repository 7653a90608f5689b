/-
  Opening a law's arguments: what the reading of an argument says, in this seat's own words ('Lies'), with the form's own reach.
-/
import Derived.Test.YtoljldokehfokaaRows
import Derived.Test.YtoljldokehfokaaBase
import Derived.ProofKit
import Derived.OpenShut
import Derived.ShutString
import Derived.ChangeOld
import Derived.SizedLaws
import Derived.SliceStrings
namespace Go.Proofs.Ytoljldokehfokaa
set_option linter.unusedVariables false
set_option maxRecDepth 100000
open Go.ChangeShapes Go.WideShapes Go.ChangeAt Go.RowKit
open Go.ChangeMaps (open_string shut_string)

theorem fr_own : ownKnob Try.prog.godebug = none := by kernel_rfl
theorem fr_laidOut : laidOutB Try.prog = true := by kernel_rfl

section
variable {H : Type} {enc : TypeId × Value → H} {W : World}

theorem fr_lt {t : TypeId} {v : Value} {d : DataW H} {p : List MemPlace} (k : DataW.Trod enc Try.prog W 0 (fun _ => true) true t v d p) : ∀ x ∈ p, x.block < W.heap.size := by
  obtain ⟨m, hm⟩ := k
  exact DataW.trod_lt m _ _ _ hm

/-- cells that are numbers lie -/
theorem lies_nums {k : IntKind} {x : Addr} {n : Nat} {zs : List Int} (hn : n ≤ zs.length) (hc : ∀ i, i < zs.length → W.cell? (x.add i) = some (.int k (zs.getD i 0))) :
    Lies W W.heap.size 1 (some x) n ((zs.take n).map (Value.int k)) := by
  refine ⟨by simp; omega, fun j hj => ?_⟩
  have hj2 : j < n ∧ j < zs.length := by simp at hj; omega
  have h := hc j hj2.2
  refine ⟨x, _, rfl, ?_, ?_, h⟩
  · have := World.block_lt_of_cell? W _ h; rw [add_block] at this; exact this
  · rw [List.getElem?_map, List.getElem?_take, if_pos hj2.1, List.getElem?_eq_getElem hj2.2]; simp [hj2.2]

theorem nums_nat {k : IntKind} {zs : List Int} (h : ∀ n ∈ zs, (Lit.int k n).wf = true) (hk : ∀ n : Int, (Lit.int k n).wf = true → 0 ≤ n) :
    ∃ l : List Nat, zs = l.map (fun n : Nat => (n : Int)) := by
  induction zs with
  | nil => exact ⟨[], rfl⟩
  | cons z zs ih =>
    obtain ⟨l, hl⟩ := ih (fun n hn => h n (by simp [hn]))
    have h0 := hk z (h z (by simp))
    exact ⟨z.toNat :: l, by rw [List.map_cons, ← hl]; congr 1; omega⟩

theorem wf_u8 {n : Int} (h : (Lit.int .u8 n).wf = true) : 0 ≤ n ∧ n < 256 := by
  simp [Lit.wf, IntKind.min, IntKind.max, IntKind.signed, IntKind.bits] at h; omega
theorem wf_u16 {n : Int} (h : (Lit.int .u16 n).wf = true) : 0 ≤ n ∧ n < 65536 := by
  simp [Lit.wf, IntKind.min, IntKind.max, IntKind.signed, IntKind.bits] at h; omega
theorem wf_u32 {n : Int} (h : (Lit.int .u32 n).wf = true) : 0 ≤ n ∧ n < 4294967296 := by
  simp [Lit.wf, IntKind.min, IntKind.max, IntKind.signed, IntKind.bits] at h; omega
theorem wf_i64 {n : Int} (h : (Lit.int .i64 n).wf = true) : -9223372036854775808 ≤ n ∧ n ≤ 9223372036854775807 := by
  simp [Lit.wf, IntKind.min, IntKind.max, IntKind.signed, IntKind.bits] at h; omega
theorem wf_u64 {n : Int} (h : (Lit.int .u64 n).wf = true) : 0 ≤ n ∧ n < 18446744073709551616 := by
  simp [Lit.wf, IntKind.min, IntKind.max, IntKind.signed, IntKind.bits] at h; omega

theorem bytes_of_nums {zs : List Int} (h : ∀ n ∈ zs, (Lit.int .u8 n).wf = true) : ∃ l : List UInt8, zs.map (Value.int .u8) = l.map bv := by
  induction zs with
  | nil => exact ⟨[], rfl⟩
  | cons z zs ih =>
    obtain ⟨l, hl⟩ := ih (fun n hn => h n (by simp [hn]))
    have h0 := wf_u8 (h z (by simp))
    refine ⟨UInt8.ofNat z.toNat :: l, ?_⟩
    rw [List.map_cons, List.map_cons, hl]
    congr 1
    unfold bv
    rw [UInt8.toNat_ofNat']
    congr 1
    omega

/-- an argument of bytes -/
theorem fr_bytes {t e : TypeId} {v : Value} {d : DataW H} {p : List MemPlace} {ts : List TypeId} {ds : List (DataW H)} {j base : Nat} (ht : Try.prog.underlying t = some (.slice e)) (he : Try.prog.underlying e = some (.int .u8)) (hc : Try.prog.cellsOf e = 1) (hby : Try.prog.bytesOf e = 1)
    (hv : Value.okWide Try.prog W .any base t v) (h : DataW.Trod enc Try.prog W 0 (fun _ => true) true t v d p) (hsz : (DataW.weightsEach Try.prog ts ds).all (· ≤ reachBytes) = true) (hjt : ts[j]? = some t) (hjd : ds[j]? = some d) :
    ∃ (A : Option Addr) (n c : Nat) (l : List UInt8), v = .slice A n c ∧ Lies W W.heap.size 1 A n (l.map bv) ∧ n ≤ c ∧ c ≤ 140737488351232 := by
  obtain ⟨A, n, c, rfl⟩ := okWide_slice ht hv
  obtain ⟨fuel, hf⟩ := h
  rcases open_ints ht he hc hf with ⟨hcs, hx⟩ | ⟨x, l, c', zs, hcs, _, hl, hm, hz, hx, hcell, hwz⟩
  · simp [Value.cells] at hcs
    obtain ⟨rfl, rfl, rfl⟩ := hcs
    exact ⟨none, 0, 0, [], rfl, Lies.none_ _ _ _ _, Nat.le_refl _, by omega⟩
  · simp [Value.cells] at hcs
    obtain ⟨rfl, rfl, rfl⟩ := hcs
    simp only [Prod.mk.injEq] at hx
    obtain ⟨rfl, _⟩ := hx
    have hs := sized_slice hsz hjt hjd ht
    have hz2 : zs.length = c := by simpa using hz
    rw [hby] at hs
    simp only [lits, List.length_map, List.length_take, List.length_drop, reachBytes] at hs
    obtain ⟨bs, hbs⟩ := bytes_of_nums (zs := zs.take n) (fun m hm => hwz m (List.mem_of_mem_take hm))
    refine ⟨some x, n, c, bs, rfl, ?_, hl, by omega⟩
    rw [← hbs]
    exact lies_nums (by omega) hcell

/-- an argument of texts -/
theorem fr_str {t : TypeId} {v : Value} {d : DataW H} {p : List MemPlace} {ts : List TypeId} {ds : List (DataW H)} {j base : Nat} (ht : Try.prog.underlying t = some .string)
    (hv : Value.okWide Try.prog W .any base t v) (h : DataW.Trod enc Try.prog W 0 (fun _ => true) true t v d p) (hsz : (DataW.weightsEach Try.prog ts ds).all (· ≤ reachBytes) = true) (hjt : ts[j]? = some t) (hjd : ds[j]? = some d) :
    ∃ s, v = .string s ∧ s.size ≤ 140737488351232 := by
  obtain ⟨s, rfl, rfl, rfl, _⟩ := open_string ht hv h
  have hs := sized_string hsz hjt hjd
  refine ⟨s, rfl, ?_⟩
  simp only [reachBytes] at hs
  have e : s.data.toList.length = s.size := by rw [Array.length_toList]; rfl
  rw [e] at hs
  exact hs

/-- an argument that is an array of bytes -/
theorem fr_arr {t e : TypeId} {n : Nat} {v : Value} {d : DataW H} {p : List MemPlace} {base : Nat} (ht : Try.prog.underlying t = some (.array n e)) (he : Try.prog.underlying e = some (.int .u8)) (hc : Try.prog.cellsOf e = 1) (hct : Try.prog.cellsOf t = n)
    (hv : Value.okWide Try.prog W .any base t v) (h : DataW.Trod enc Try.prog W 0 (fun _ => true) true t v d p) :
    ∃ l : List UInt8, v = .agg (l.map bv).toArray ∧ l.length = n := by
  unfold Value.okWide at hv
  rw [ht] at hv
  obtain ⟨cs, rfl, hsz, _⟩ := hv
  obtain ⟨fuel, hf⟩ := h
  obtain ⟨xs, m, _, _, _, hxl, hxs⟩ := DataW.trod_array ht hf
  simp only [Value.cells] at hxs
  rw [hct] at hsz
  have hcell : ∀ i, i < n → ∃ z : Int, cs.toList[i]? = some (.int .u8 z) ∧ (Lit.int .u8 z).wf = true := by
    intro i hi
    have h1 := hxs i hi
    rw [hc, Nat.mul_one] at h1
    obtain ⟨y, hy⟩ : ∃ y, xs[i]? = some y := ⟨xs[i]'(by omega), List.getElem?_eq_getElem (by omega)⟩
    rw [hy] at h1
    obtain ⟨z, hz, _, hw⟩ := DataW.trod_int he h1
    refine ⟨z, ?_, hw⟩
    have h2 : ((cs.toList.drop i).take 1)[0]? = some (.int .u8 z) := by rw [hz]; rfl
    rw [List.getElem?_take, if_pos (by decide), List.getElem?_drop, Nat.add_zero] at h2
    exact h2
  have hall : ∀ (l : List Value), (∀ u ∈ l, ∃ z : Int, u = .int .u8 z ∧ (Lit.int .u8 z).wf = true) → ∃ q : List UInt8, l = q.map bv := by
    intro l
    induction l with
    | nil => exact fun _ => ⟨[], rfl⟩
    | cons u l ih =>
      intro hl
      obtain ⟨q, hq⟩ := ih (fun x hx => hl x (by simp [hx]))
      obtain ⟨z, rfl, hw⟩ := hl u (by simp)
      have h0 := wf_u8 hw
      refine ⟨UInt8.ofNat z.toNat :: q, ?_⟩
      rw [List.map_cons, ← hq]
      congr 1
      unfold bv
      rw [UInt8.toNat_ofNat']
      congr 1
      omega
  obtain ⟨q, hq⟩ := hall cs.toList (fun u hu => by
    obtain ⟨i, hi, hiu⟩ := List.getElem_of_mem hu
    have hi2 : i < n := by rw [← hsz]; simpa using hi
    obtain ⟨z, hz, hw⟩ := hcell i hi2
    rw [List.getElem?_eq_getElem hi, hiu] at hz
    injection hz with hz
    exact ⟨z, hz, hw⟩)
  refine ⟨q, ?_, ?_⟩
  · rw [← hq]
  · have := congrArg List.length hq
    simp at this
    omega

/-- an argument of numbers of 64 bits -/
theorem fr_nums {t e : TypeId} {v : Value} {d : DataW H} {p : List MemPlace} {ts : List TypeId} {ds : List (DataW H)} {j base : Nat} (ht : Try.prog.underlying t = some (.slice e)) (he : Try.prog.underlying e = some (.int .u64)) (hc : Try.prog.cellsOf e = 1) (hby : Try.prog.bytesOf e = 8)
    (hv : Value.okWide Try.prog W .any base t v) (h : DataW.Trod enc Try.prog W 0 (fun _ => true) true t v d p) (hsz : (DataW.weightsEach Try.prog ts ds).all (· ≤ reachBytes) = true) (hjt : ts[j]? = some t) (hjd : ds[j]? = some d) :
    ∃ (A : Option Addr) (n c : Nat) (l : List Nat), v = .slice A n c ∧ Lies W W.heap.size 1 A n (l.map (fun x : Nat => Value.int .u64 (x : Int))) ∧ (∀ x ∈ l, x < 18446744073709551616) ∧ n ≤ c ∧ c ≤ 140737488351232 := by
  obtain ⟨A, n, c, rfl⟩ := okWide_slice ht hv
  obtain ⟨fuel, hf⟩ := h
  rcases open_ints ht he hc hf with ⟨hcs, hx⟩ | ⟨x, l, c', zs, hcs, _, hl, hm, hz, hx, hcell, hwz⟩
  · simp [Value.cells] at hcs
    obtain ⟨rfl, rfl, rfl⟩ := hcs
    exact ⟨none, 0, 0, [], rfl, Lies.none_ _ _ _ _, by simp, Nat.le_refl _, by omega⟩
  · simp [Value.cells] at hcs
    obtain ⟨rfl, rfl, rfl⟩ := hcs
    simp only [Prod.mk.injEq] at hx
    obtain ⟨rfl, _⟩ := hx
    have hs := sized_slice hsz hjt hjd ht
    have hz2 : zs.length = c := by simpa using hz
    rw [hby] at hs
    simp only [lits, List.length_map, List.length_take, List.length_drop, reachBytes] at hs
    obtain ⟨bs, hbs⟩ := nums_nat (k := .u64) (zs := zs.take n) (fun m hm => hwz m (List.mem_of_mem_take hm)) (fun m hm => (wf_u64 hm).1)
    refine ⟨some x, n, c, bs, rfl, ?_, ?_, hl, by omega⟩
    · have h1 := lies_nums (k := .u64) (n := n) (by omega) hcell
      rw [hbs, List.map_map] at h1
      exact h1
    · intro y hy
      have h1 : ((y : Nat) : Int) ∈ zs.take n := by rw [hbs]; exact List.mem_map_of_mem hy
      have h2 := wf_u64 (hwz _ (List.mem_of_mem_take h1))
      omega

/-- an argument of texts, a list of them -/
theorem fr_strs {t e : TypeId} {v : Value} {d : DataW H} {p : List MemPlace} {ts : List TypeId} {ds : List (DataW H)} {j base : Nat} (ht : Try.prog.underlying t = some (.slice e)) (he : Try.prog.underlying e = some .string) (hc : Try.prog.cellsOf e = 1) (hby : Try.prog.bytesOf e = 16)
    (hv : Value.okWide Try.prog W .any base t v) (h : DataW.Trod enc Try.prog W 0 (fun _ => true) true t v d p) (hsz : (DataW.weightsEach Try.prog ts ds).all (· ≤ reachBytes) = true) (hjt : ts[j]? = some t) (hjd : ds[j]? = some d) :
    ∃ (A : Option Addr) (n c : Nat) (l : List ByteArray), v = .slice A n c ∧ Lies W W.heap.size 1 A n (l.map Value.string) ∧ (∀ x ∈ l, x.size ≤ 140737488351232) ∧ n ≤ c ∧ c ≤ 140737488351232 := by
  obtain ⟨A, n, c, rfl⟩ := okWide_slice ht hv
  obtain ⟨fuel, hf⟩ := h
  rcases open_strings ht he hc hf with ⟨hcs, hx⟩ | ⟨x, l, c', ss, hcs, _, hl, hm, hz, hx, hcell, hws⟩
  · simp [Value.cells] at hcs
    obtain ⟨rfl, rfl, rfl⟩ := hcs
    exact ⟨none, 0, 0, [], rfl, Lies.none_ _ _ _ _, by simp, Nat.le_refl _, by omega⟩
  · simp [Value.cells] at hcs
    obtain ⟨rfl, rfl, rfl⟩ := hcs
    simp only [Prod.mk.injEq] at hx
    obtain ⟨rfl, _⟩ := hx
    have hs := sized_slice hsz hjt hjd ht
    have hz2 : ss.length = c := by simpa using hz
    rw [hby] at hs
    simp only [strs, List.length_map, List.length_take, List.length_drop, reachBytes] at hs
    refine ⟨some x, n, c, ss.take n, rfl, ?_, ?_, hl, by omega⟩
    · refine ⟨by simp; omega, fun i hi => ?_⟩
      have hi2 : i < n ∧ i < ss.length := by simp at hi; omega
      have hh := hcell i hi2.2
      refine ⟨x, _, rfl, ?_, ?_, hh⟩
      · have := World.block_lt_of_cell? W _ hh; rw [add_block] at this; exact this
      · rw [List.getElem?_map, List.getElem?_take, if_pos hi2.1, List.getElem?_eq_getElem hi2.2]; simp [hi2.2]
    · intro s hs2
      have hmem : s.data.toList.length ∈ DataW.weights Try.prog t (DataW.slice (strs (ss.take n)) (strs (ss.drop n)) : DataW H) := by
        simp only [DataW.weights, ht]
        refine List.mem_cons_of_mem _ (List.mem_append_left _ ?_)
        have key : ∀ l : List ByteArray, s ∈ l → s.data.toList.length ∈ DataW.weightsAll Try.prog e (strs l : List (DataW H)) := by
          intro l
          induction l with
          | nil => intro h; cases h
          | cons a l ih =>
            intro h
            simp only [strs, List.map_cons, DataW.weightsAll, DataW.weights]
            rcases List.mem_cons.1 h with rfl | h
            · simp
            · exact List.mem_append_right _ (ih h)
        exact key _ hs2
      have h3 := List.all_eq_true.1 hsz _ (DataW.weights_mem_each hjt hjd _ hmem)
      have h4 : s.data.toList.length ≤ reachBytes := of_decide_eq_true h3
      unfold reachBytes at h4
      have e : s.data.toList.length = s.size := by rw [Array.length_toList]; rfl
      omega

end
end Go.Proofs.Ytoljldokehfokaa
