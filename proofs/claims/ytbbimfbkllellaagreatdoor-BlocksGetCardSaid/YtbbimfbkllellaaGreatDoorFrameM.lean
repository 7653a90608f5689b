/-
  Opening a law's arguments: what the reading of an argument says, in this seat's own words ('Lies'), with the form's own reach.
  Opening a law's arguments: marks, entries, and lists of them.
-/
import Derived.Test.YtbbimfbkllellaaGreatDoorRows
import Derived.Test.YtbbimfbkllellaaGreatDoorBase
import Derived.ProofKit
import Derived.OpenShut
import Derived.ShutString
import Derived.ChangeOld
import Derived.SizedLaws
import Derived.SliceStrings
import Derived.Test.YtbbimfbkllellaaGreatDoorMarks
import Derived.Deep.Slices
import Derived.Deep.Strs
import Derived.ChangeSame
namespace Go.Proofs.YtbbimfbkllellaaGreatDoor
set_option linter.unusedVariables false
set_option maxRecDepth 100000
open Go.ChangeShapes Go.WideShapes Go.ChangeAt Go.RowKit
open Go.ChangeMaps (open_string shut_string)

theorem fr_own : ownKnob Tryz.prog.godebug = none := by kernel_rfl
theorem fr_laidOut : laidOutB Tryz.prog = true := by kernel_rfl

section
variable {H : Type} {enc : TypeId × Value → H} {W : World}

theorem fr_lt {t : TypeId} {v : Value} {d : DataW H} {p : List MemPlace} (k : DataW.Trod enc Tryz.prog W 0 (fun _ => true) true t v d p) : ∀ x ∈ p, x.block < W.heap.size := by
  obtain ⟨m, hm⟩ := k
  exact DataW.trod_lt m _ _ _ hm

/-- cells that are numbers lie -/
theorem lies_nums {k : IntKind} {x : Addr} {n : Nat} {zs : List Int} (hn : n ≤ zs.length) (hc : ∀ i, i < zs.length → W.cell? (x.add i) = some (.int k (zs.getD i 0))) :
    Lies W W.heap.size 1 (some x) n ((zs.take n).map (Value.int k)) := by
  refine ⟨by simp; omega, fun j hj => ?_⟩
  have hj2 : j < n ∧ j < zs.length := by simp at hj; omega
  have h := hc j hj2.2
  refine ⟨x, _, rfl, ?_, ?_, h⟩
  · have := World.block_lt_of_cell? W _ h; rw [add_block] at this; exact this
  · rw [List.getElem?_map, List.getElem?_take, if_pos hj2.1, List.getElem?_eq_getElem hj2.2]; simp [hj2.2]

theorem nums_nat {k : IntKind} {zs : List Int} (h : ∀ n ∈ zs, (Lit.int k n).wf = true) (hk : ∀ n : Int, (Lit.int k n).wf = true → 0 ≤ n) :
    ∃ l : List Nat, zs = l.map (fun n : Nat => (n : Int)) := by
  induction zs with
  | nil => exact ⟨[], rfl⟩
  | cons z zs ih =>
    obtain ⟨l, hl⟩ := ih (fun n hn => h n (by simp [hn]))
    have h0 := hk z (h z (by simp))
    exact ⟨z.toNat :: l, by rw [List.map_cons, ← hl]; congr 1; omega⟩

theorem wf_u8 {n : Int} (h : (Lit.int .u8 n).wf = true) : 0 ≤ n ∧ n < 256 := by
  simp [Lit.wf, IntKind.min, IntKind.max, IntKind.signed, IntKind.bits] at h; omega
theorem wf_u16 {n : Int} (h : (Lit.int .u16 n).wf = true) : 0 ≤ n ∧ n < 65536 := by
  simp [Lit.wf, IntKind.min, IntKind.max, IntKind.signed, IntKind.bits] at h; omega
theorem wf_u32 {n : Int} (h : (Lit.int .u32 n).wf = true) : 0 ≤ n ∧ n < 4294967296 := by
  simp [Lit.wf, IntKind.min, IntKind.max, IntKind.signed, IntKind.bits] at h; omega
theorem wf_i64 {n : Int} (h : (Lit.int .i64 n).wf = true) : -9223372036854775808 ≤ n ∧ n ≤ 9223372036854775807 := by
  simp [Lit.wf, IntKind.min, IntKind.max, IntKind.signed, IntKind.bits] at h; omega
theorem wf_u64 {n : Int} (h : (Lit.int .u64 n).wf = true) : 0 ≤ n ∧ n < 18446744073709551616 := by
  simp [Lit.wf, IntKind.min, IntKind.max, IntKind.signed, IntKind.bits] at h; omega

theorem bytes_of_nums {zs : List Int} (h : ∀ n ∈ zs, (Lit.int .u8 n).wf = true) : ∃ l : List UInt8, zs.map (Value.int .u8) = l.map bv := by
  induction zs with
  | nil => exact ⟨[], rfl⟩
  | cons z zs ih =>
    obtain ⟨l, hl⟩ := ih (fun n hn => h n (by simp [hn]))
    have h0 := wf_u8 (h z (by simp))
    refine ⟨UInt8.ofNat z.toNat :: l, ?_⟩
    rw [List.map_cons, List.map_cons, hl]
    congr 1
    unfold bv
    rw [UInt8.toNat_ofNat']
    congr 1
    omega

/-- an argument of bytes -/
theorem fr_bytes {t e : TypeId} {v : Value} {d : DataW H} {p : List MemPlace} {ts : List TypeId} {ds : List (DataW H)} {j base : Nat} (ht : Tryz.prog.underlying t = some (.slice e)) (he : Tryz.prog.underlying e = some (.int .u8)) (hc : Tryz.prog.cellsOf e = 1) (hby : Tryz.prog.bytesOf e = 1)
    (hv : Value.okWide Tryz.prog W .any base t v) (h : DataW.Trod enc Tryz.prog W 0 (fun _ => true) true t v d p) (hsz : (DataW.weightsEach Tryz.prog ts ds).all (· ≤ reachBytes) = true) (hjt : ts[j]? = some t) (hjd : ds[j]? = some d) :
    ∃ (A : Option Addr) (n c : Nat) (l : List UInt8), v = .slice A n c ∧ Lies W W.heap.size 1 A n (l.map bv) ∧ n ≤ c ∧ c ≤ 140737488351232 := by
  obtain ⟨A, n, c, rfl⟩ := okWide_slice ht hv
  obtain ⟨fuel, hf⟩ := h
  rcases open_ints ht he hc hf with ⟨hcs, hx⟩ | ⟨x, l, c', zs, hcs, _, hl, hm, hz, hx, hcell, hwz⟩
  · simp [Value.cells] at hcs
    obtain ⟨rfl, rfl, rfl⟩ := hcs
    exact ⟨none, 0, 0, [], rfl, Lies.none_ _ _ _ _, Nat.le_refl _, by omega⟩
  · simp [Value.cells] at hcs
    obtain ⟨rfl, rfl, rfl⟩ := hcs
    simp only [Prod.mk.injEq] at hx
    obtain ⟨rfl, _⟩ := hx
    have hs := sized_slice hsz hjt hjd ht
    have hz2 : zs.length = c := by simpa using hz
    rw [hby] at hs
    simp only [lits, List.length_map, List.length_take, List.length_drop, reachBytes] at hs
    obtain ⟨bs, hbs⟩ := bytes_of_nums (zs := zs.take n) (fun m hm => hwz m (List.mem_of_mem_take hm))
    refine ⟨some x, n, c, bs, rfl, ?_, hl, by omega⟩
    rw [← hbs]
    exact lies_nums (by omega) hcell

/-- an argument of texts -/
theorem fr_str {t : TypeId} {v : Value} {d : DataW H} {p : List MemPlace} {ts : List TypeId} {ds : List (DataW H)} {j base : Nat} (ht : Tryz.prog.underlying t = some .string)
    (hv : Value.okWide Tryz.prog W .any base t v) (h : DataW.Trod enc Tryz.prog W 0 (fun _ => true) true t v d p) (hsz : (DataW.weightsEach Tryz.prog ts ds).all (· ≤ reachBytes) = true) (hjt : ts[j]? = some t) (hjd : ds[j]? = some d) :
    ∃ s, v = .string s ∧ s.size ≤ 140737488351232 := by
  obtain ⟨s, rfl, rfl, rfl, _⟩ := open_string ht hv h
  have hs := sized_string hsz hjt hjd
  refine ⟨s, rfl, ?_⟩
  simp only [reachBytes] at hs
  have e : s.data.toList.length = s.size := by rw [Array.length_toList]; rfl
  rw [e] at hs
  exact hs

/-- an argument that is an array of bytes -/
theorem fr_arr {t e : TypeId} {n : Nat} {v : Value} {d : DataW H} {p : List MemPlace} {base : Nat} (ht : Tryz.prog.underlying t = some (.array n e)) (he : Tryz.prog.underlying e = some (.int .u8)) (hc : Tryz.prog.cellsOf e = 1) (hct : Tryz.prog.cellsOf t = n)
    (hv : Value.okWide Tryz.prog W .any base t v) (h : DataW.Trod enc Tryz.prog W 0 (fun _ => true) true t v d p) :
    ∃ l : List UInt8, v = .agg (l.map bv).toArray ∧ l.length = n := by
  unfold Value.okWide at hv
  rw [ht] at hv
  obtain ⟨cs, rfl, hsz, _⟩ := hv
  obtain ⟨fuel, hf⟩ := h
  obtain ⟨xs, m, _, _, _, hxl, hxs⟩ := DataW.trod_array ht hf
  simp only [Value.cells] at hxs
  rw [hct] at hsz
  have hcell : ∀ i, i < n → ∃ z : Int, cs.toList[i]? = some (.int .u8 z) ∧ (Lit.int .u8 z).wf = true := by
    intro i hi
    have h1 := hxs i hi
    rw [hc, Nat.mul_one] at h1
    obtain ⟨y, hy⟩ : ∃ y, xs[i]? = some y := ⟨xs[i]'(by omega), List.getElem?_eq_getElem (by omega)⟩
    rw [hy] at h1
    obtain ⟨z, hz, _, hw⟩ := DataW.trod_int he h1
    refine ⟨z, ?_, hw⟩
    have h2 : ((cs.toList.drop i).take 1)[0]? = some (.int .u8 z) := by rw [hz]; rfl
    rw [List.getElem?_take, if_pos (by decide), List.getElem?_drop, Nat.add_zero] at h2
    exact h2
  have hall : ∀ (l : List Value), (∀ u ∈ l, ∃ z : Int, u = .int .u8 z ∧ (Lit.int .u8 z).wf = true) → ∃ q : List UInt8, l = q.map bv := by
    intro l
    induction l with
    | nil => exact fun _ => ⟨[], rfl⟩
    | cons u l ih =>
      intro hl
      obtain ⟨q, hq⟩ := ih (fun x hx => hl x (by simp [hx]))
      obtain ⟨z, rfl, hw⟩ := hl u (by simp)
      have h0 := wf_u8 hw
      refine ⟨UInt8.ofNat z.toNat :: q, ?_⟩
      rw [List.map_cons, ← hq]
      congr 1
      unfold bv
      rw [UInt8.toNat_ofNat']
      congr 1
      omega
  obtain ⟨q, hq⟩ := hall cs.toList (fun u hu => by
    obtain ⟨i, hi, hiu⟩ := List.getElem_of_mem hu
    have hi2 : i < n := by rw [← hsz]; simpa using hi
    obtain ⟨z, hz, hw⟩ := hcell i hi2
    rw [List.getElem?_eq_getElem hi, hiu] at hz
    injection hz with hz
    exact ⟨z, hz, hw⟩)
  refine ⟨q, ?_, ?_⟩
  · rw [← hq]
  · have := congrArg List.length hq
    simp at this
    omega

/-- an argument of numbers of 64 bits -/
theorem fr_nums {t e : TypeId} {v : Value} {d : DataW H} {p : List MemPlace} {ts : List TypeId} {ds : List (DataW H)} {j base : Nat} (ht : Tryz.prog.underlying t = some (.slice e)) (he : Tryz.prog.underlying e = some (.int .u64)) (hc : Tryz.prog.cellsOf e = 1) (hby : Tryz.prog.bytesOf e = 8)
    (hv : Value.okWide Tryz.prog W .any base t v) (h : DataW.Trod enc Tryz.prog W 0 (fun _ => true) true t v d p) (hsz : (DataW.weightsEach Tryz.prog ts ds).all (· ≤ reachBytes) = true) (hjt : ts[j]? = some t) (hjd : ds[j]? = some d) :
    ∃ (A : Option Addr) (n c : Nat) (l : List Nat), v = .slice A n c ∧ Lies W W.heap.size 1 A n (l.map (fun x : Nat => Value.int .u64 (x : Int))) ∧ (∀ x ∈ l, x < 18446744073709551616) ∧ n ≤ c ∧ c ≤ 140737488351232 := by
  obtain ⟨A, n, c, rfl⟩ := okWide_slice ht hv
  obtain ⟨fuel, hf⟩ := h
  rcases open_ints ht he hc hf with ⟨hcs, hx⟩ | ⟨x, l, c', zs, hcs, _, hl, hm, hz, hx, hcell, hwz⟩
  · simp [Value.cells] at hcs
    obtain ⟨rfl, rfl, rfl⟩ := hcs
    exact ⟨none, 0, 0, [], rfl, Lies.none_ _ _ _ _, by simp, Nat.le_refl _, by omega⟩
  · simp [Value.cells] at hcs
    obtain ⟨rfl, rfl, rfl⟩ := hcs
    simp only [Prod.mk.injEq] at hx
    obtain ⟨rfl, _⟩ := hx
    have hs := sized_slice hsz hjt hjd ht
    have hz2 : zs.length = c := by simpa using hz
    rw [hby] at hs
    simp only [lits, List.length_map, List.length_take, List.length_drop, reachBytes] at hs
    obtain ⟨bs, hbs⟩ := nums_nat (k := .u64) (zs := zs.take n) (fun m hm => hwz m (List.mem_of_mem_take hm)) (fun m hm => (wf_u64 hm).1)
    refine ⟨some x, n, c, bs, rfl, ?_, ?_, hl, by omega⟩
    · have h1 := lies_nums (k := .u64) (n := n) (by omega) hcell
      rw [hbs, List.map_map] at h1
      exact h1
    · intro y hy
      have h1 : ((y : Nat) : Int) ∈ zs.take n := by rw [hbs]; exact List.mem_map_of_mem hy
      have h2 := wf_u64 (hwz _ (List.mem_of_mem_take h1))
      omega

/-- an argument of texts, a list of them -/
theorem fr_strs {t e : TypeId} {v : Value} {d : DataW H} {p : List MemPlace} {ts : List TypeId} {ds : List (DataW H)} {j base : Nat} (ht : Tryz.prog.underlying t = some (.slice e)) (he : Tryz.prog.underlying e = some .string) (hc : Tryz.prog.cellsOf e = 1) (hby : Tryz.prog.bytesOf e = 16)
    (hv : Value.okWide Tryz.prog W .any base t v) (h : DataW.Trod enc Tryz.prog W 0 (fun _ => true) true t v d p) (hsz : (DataW.weightsEach Tryz.prog ts ds).all (· ≤ reachBytes) = true) (hjt : ts[j]? = some t) (hjd : ds[j]? = some d) :
    ∃ (A : Option Addr) (n c : Nat) (l : List ByteArray), v = .slice A n c ∧ Lies W W.heap.size 1 A n (l.map Value.string) ∧ (∀ x ∈ l, x.size ≤ 140737488351232) ∧ n ≤ c ∧ c ≤ 140737488351232 := by
  obtain ⟨A, n, c, rfl⟩ := okWide_slice ht hv
  obtain ⟨fuel, hf⟩ := h
  rcases open_strings ht he hc hf with ⟨hcs, hx⟩ | ⟨x, l, c', ss, hcs, _, hl, hm, hz, hx, hcell, hws⟩
  · simp [Value.cells] at hcs
    obtain ⟨rfl, rfl, rfl⟩ := hcs
    exact ⟨none, 0, 0, [], rfl, Lies.none_ _ _ _ _, by simp, Nat.le_refl _, by omega⟩
  · simp [Value.cells] at hcs
    obtain ⟨rfl, rfl, rfl⟩ := hcs
    simp only [Prod.mk.injEq] at hx
    obtain ⟨rfl, _⟩ := hx
    have hs := sized_slice hsz hjt hjd ht
    have hz2 : ss.length = c := by simpa using hz
    rw [hby] at hs
    simp only [strs, List.length_map, List.length_take, List.length_drop, reachBytes] at hs
    refine ⟨some x, n, c, ss.take n, rfl, ?_, ?_, hl, by omega⟩
    · refine ⟨by simp; omega, fun i hi => ?_⟩
      have hi2 : i < n ∧ i < ss.length := by simp at hi; omega
      have hh := hcell i hi2.2
      refine ⟨x, _, rfl, ?_, ?_, hh⟩
      · have := World.block_lt_of_cell? W _ hh; rw [add_block] at this; exact this
      · rw [List.getElem?_map, List.getElem?_take, if_pos hi2.1, List.getElem?_eq_getElem hi2.2]; simp [hi2.2]
    · intro s hs2
      have hmem : s.data.toList.length ∈ DataW.weights Tryz.prog t (DataW.slice (strs (ss.take n)) (strs (ss.drop n)) : DataW H) := by
        simp only [DataW.weights, ht]
        refine List.mem_cons_of_mem _ (List.mem_append_left _ ?_)
        have key : ∀ l : List ByteArray, s ∈ l → s.data.toList.length ∈ DataW.weightsAll Tryz.prog e (strs l : List (DataW H)) := by
          intro l
          induction l with
          | nil => intro h; cases h
          | cons a l ih =>
            intro h
            simp only [strs, List.map_cons, DataW.weightsAll, DataW.weights]
            rcases List.mem_cons.1 h with rfl | h
            · simp
            · exact List.mem_append_right _ (ih h)
        exact key _ hs2
      have h3 := List.all_eq_true.1 hsz _ (DataW.weights_mem_each hjt hjd _ hmem)
      have h4 : s.data.toList.length ≤ reachBytes := of_decide_eq_true h3
      unfold reachBytes at h4
      have e : s.data.toList.length = s.size := by rw [Array.length_toList]; rfl
      omega

end
end Go.Proofs.YtbbimfbkllellaaGreatDoor

namespace Go.Proofs.YtbbimfbkllellaaGreatDoor
set_option linter.unusedVariables false
set_option maxRecDepth 100000
open Go.ChangeShapes Go.WideShapes Go.ChangeAt Go.RowKit Go.Deep

section
variable {H : Type} {enc : TypeId × Value → H} {W : World} {base : Nat} {sp : Nat → Bool} {held : Bool}

/-- cells that read as a mark -/
theorem trod_mark {fuel : Nat} {cs : List Value} {x : DataW H × List MemPlace} (h : DataW.trod enc Tryz.prog W base sp held fuel 25 cs = some x) :
    ∃ m : Mk, cs = [.string m.k, .int .u64 (m.s : Int), .bool m.g] ∧ m.s < 18446744073709551616 ∧ m.k.size ∈ DataW.weights Tryz.prog 25 x.1 := by
  obtain ⟨y0, y1, y2, n, rfl, hl, h0, h1, h2⟩ := trod_struct3 Tryz.underlying25 h
  obtain ⟨k, e0, hx0, _⟩ := DataW.trod_string Tryz.underlying9 h0
  obtain ⟨s, e1, _, ws⟩ := DataW.trod_int Tryz.underlying23 h1
  obtain ⟨g, e2, _⟩ := DataW.trod_bool Tryz.underlying4 h2
  have hs := wf_u64 ws
  obtain ⟨m, rfl⟩ := Int.eq_ofNat_of_zero_le hs.1
  have hC : Tryz.prog.cellsOf 25 = 3 := by kernel_rfl
  have c0 : Tryz.prog.cellsOf 9 = 1 := by kernel_rfl
  have c1 : Tryz.prog.cellsOf 23 = 1 := by kernel_rfl
  have c2 : Tryz.prog.cellsOf 4 = 1 := by kernel_rfl
  rw [hC] at hl
  simp only [c0] at e0; simp only [c1] at e1; simp only [c2] at e2
  refine ⟨⟨k, m, g⟩, ?_, (by show m < 18446744073709551616; omega), ?_⟩
  · match cs, hl with
    | [a, b, c], _ => simp at e0 e1 e2; simp [e0, e1, e2]
  · simp only [DataW.weights, Tryz.underlying25, List.map_cons, List.map_nil, DataW.weightsEach, hx0]
    have : k.data.toList.length = k.size := by rw [Array.length_toList]; rfl
    rw [this]; simp
/-- cells that read as an entry -/
theorem trod_entry {fuel : Nat} {cs : List Value} {x : DataW H × List MemPlace} (h : DataW.trod enc Tryz.prog W base sp held fuel 59 cs = some x) :
    ∃ m : En, cs = [.string m.m.k, .int .u64 (m.m.s : Int), .bool m.m.g, .string m.x] ∧ m.m.s < 18446744073709551616 ∧ m.m.k.size ∈ DataW.weights Tryz.prog 59 x.1 ∧ m.x.size ∈ DataW.weights Tryz.prog 59 x.1 := by
  obtain ⟨y0, y1, n, rfl, hl, h0, h1⟩ := trod_struct2 Tryz.underlying59 h
  obtain ⟨m, e0, ms, mw⟩ := trod_mark h0
  obtain ⟨v, e1, hx1, _⟩ := DataW.trod_string Tryz.underlying9 h1
  have hC : Tryz.prog.cellsOf 59 = 4 := by kernel_rfl
  have c0 : Tryz.prog.cellsOf 25 = 3 := by kernel_rfl
  have c1 : Tryz.prog.cellsOf 9 = 1 := by kernel_rfl
  rw [hC] at hl
  simp only [c0] at e0; simp only [c1] at e1
  refine ⟨⟨m, v⟩, ?_, ms, ?_, ?_⟩
  · match cs, hl with
    | [a, b, c, d], _ => simp at e0 e1; simp [e0, e1]
  · simp only [DataW.weights, Tryz.underlying59, List.map_cons, List.map_nil, DataW.weightsEach, hx1]
    exact List.mem_append_left _ mw
  · simp only [DataW.weights, Tryz.underlying59, List.map_cons, List.map_nil, DataW.weightsEach, hx1]
    have : v.data.toList.length = v.size := by rw [Array.length_toList]; rfl
    rw [this]; simp
end

section
variable {H : Type} {enc : TypeId × Value → H} {W : World}
theorem reach_of {ts : List TypeId} {ds : List (DataW H)} {j : Nat} {t : TypeId} {d : DataW H} {x : Nat} (hsz : (DataW.weightsEach Tryz.prog ts ds).all (· ≤ reachBytes) = true) (hjt : ts[j]? = some t) (hjd : ds[j]? = some d) (hx : x ∈ DataW.weights Tryz.prog t d) : x ≤ 140737488351232 := by
  have h3 := List.all_eq_true.1 hsz _ (DataW.weights_mem_each hjt hjd _ hx)
  have h4 : x ≤ reachBytes := of_decide_eq_true h3
  unfold reachBytes at h4
  exact h4

/-- an argument that is a mark -/
theorem fr_mark {v : Value} {d : DataW H} {p : List MemPlace} {ts : List TypeId} {ds : List (DataW H)} {j base : Nat}
    (hv : Value.okWide Tryz.prog W .any base 25 v) (h : DataW.Trod enc Tryz.prog W 0 (fun _ => true) true 25 v d p) (hsz : (DataW.weightsEach Tryz.prog ts ds).all (· ≤ reachBytes) = true) (hjt : ts[j]? = some 25) (hjd : ds[j]? = some d) :
    ∃ m : Mk, v = m.v ∧ m.s < 18446744073709551616 ∧ m.k.size ≤ 140737488351232 := by
  obtain ⟨cs, rfl, _⟩ := okWide_struct Tryz.underlying25 hv
  obtain ⟨fuel, hf⟩ := h
  obtain ⟨m, e, ms, mw⟩ := trod_mark hf
  refine ⟨m, ?_, ms, reach_of hsz hjt hjd mw⟩
  obtain ⟨l⟩ := cs
  have : l = [.string m.k, .int .u64 (m.s : Int), .bool m.g] := by simpa [Value.cells] using e
  rw [this]; rfl
/-- an argument that is an entry -/
theorem fr_entry {v : Value} {d : DataW H} {p : List MemPlace} {ts : List TypeId} {ds : List (DataW H)} {j base : Nat}
    (hv : Value.okWide Tryz.prog W .any base 59 v) (h : DataW.Trod enc Tryz.prog W 0 (fun _ => true) true 59 v d p) (hsz : (DataW.weightsEach Tryz.prog ts ds).all (· ≤ reachBytes) = true) (hjt : ts[j]? = some 59) (hjd : ds[j]? = some d) :
    ∃ x : En, v = x.v ∧ x.m.s < 18446744073709551616 ∧ x.m.k.size ≤ 140737488351232 ∧ x.x.size ≤ 140737488351232 := by
  obtain ⟨cs, rfl, _⟩ := okWide_struct Tryz.underlying59 hv
  obtain ⟨fuel, hf⟩ := h
  obtain ⟨m, e, ms, mw, mx⟩ := trod_entry hf
  refine ⟨m, ?_, ms, reach_of hsz hjt hjd mw, reach_of hsz hjt hjd mx⟩
  obtain ⟨l⟩ := cs
  have : l = [.string m.m.k, .int .u64 (m.m.s : Int), .bool m.m.g, .string m.x] := by simpa [Value.cells] using e
  rw [this]; rfl

theorem weights_all6 {P : Program} {e : TypeId} {d : DataW H} {x : Nat} (hx : x ∈ DataW.weights P e d) : ∀ {l : List (DataW H)}, d ∈ l → x ∈ DataW.weightsAll P e l
  | a :: l, h => by
    simp only [DataW.weightsAll]
    rcases List.mem_cons.1 h with rfl | h
    · exact List.mem_append_left _ hx
    · exact List.mem_append_right _ (weights_all6 hx h)

/-- a list of k cells each, read one by one -/
theorem list_lies {α : Type} (f : α → List Value) (k : Nat) (hk : ∀ a, (f a).length = k) (hk0 : 0 < k) (x : Addr) (n : Nat)
    (h : ∀ i, i < n → ∃ a : α, ∀ j, j < k → W.cell? (x.add (i * k + j)) = (f a)[j]?) : ∃ l : List α, l.length = n ∧ Lies W W.heap.size k (some x) n (l.flatMap f) ∧ ∀ i a, l[i]? = some a → ∀ j, j < k → W.cell? (x.add (i * k + j)) = (f a)[j]? := by
  have hall : ∀ m, m ≤ n → ∃ l : List α, l.length = m ∧ ∀ i a, l[i]? = some a → ∀ j, j < k → W.cell? (x.add (i * k + j)) = (f a)[j]? := by
    intro m
    induction m with
    | zero => exact fun _ => ⟨[], rfl, fun i a ha => by simp at ha⟩
    | succ m ih =>
      intro hm
      obtain ⟨l, hl, hl2⟩ := ih (by omega)
      obtain ⟨a, ha⟩ := h m (by omega)
      refine ⟨l ++ [a], by simp [hl], fun i b hb => ?_⟩
      by_cases him : i < m
      · rw [List.getElem?_append_left (by omega)] at hb
        exact hl2 i b hb
      · have : i = m := by
          have := (List.getElem?_eq_some_iff.1 hb).1
          simp at this; omega
        subst this
        rw [List.getElem?_append_right (by omega), hl] at hb
        simp at hb
        subst hb
        exact ha
  obtain ⟨l, hl, hl2⟩ := hall n (Nat.le_refl _)
  have flen : ∀ l : List α, (l.flatMap f).length = l.length * k := flat_len f k hk
  have fget : ∀ (l : List α) (i j : Nat) (a : α), l[i]? = some a → j < k → (l.flatMap f)[i * k + j]? = (f a)[j]? := flat_get f k hk
  refine ⟨l, hl, ⟨by rw [flen, hl], fun q hq => ?_⟩, hl2⟩
  rw [flen] at hq
  have hi : q / k < l.length := Nat.div_lt_of_lt_mul (by rw [Nat.mul_comm]; exact hq)
  have hj : q % k < k := Nat.mod_lt _ hk0
  have hqe : q / k * k + q % k = q := by rw [Nat.mul_comm]; exact Nat.div_add_mod q k
  have h1 := hl2 (q / k) l[q / k] (List.getElem?_eq_getElem hi) (q % k) hj
  have h2 := fget l (q / k) (q % k) l[q / k] (List.getElem?_eq_getElem hi) hj
  rw [hqe] at h1 h2
  have h3 : (f l[q / k])[q % k]? = some ((f l[q / k])[q % k]'(by rw [hk]; exact hj)) := List.getElem?_eq_getElem _
  refine ⟨x, _, rfl, ?_, h2.trans h3, h1.trans h3⟩
  have := World.block_lt_of_cell? W _ (h1.trans h3)
  rw [add_block] at this; exact this

/-- an argument that is a list of entries -/
theorem fr_entries {v : Value} {d : DataW H} {p : List MemPlace} {ts : List TypeId} {ds : List (DataW H)} {j base : Nat}
    (hv : Value.okWide Tryz.prog W .any base 27 v) (h : DataW.Trod enc Tryz.prog W 0 (fun _ => true) true 27 v d p) (hsz : (DataW.weightsEach Tryz.prog ts ds).all (· ≤ reachBytes) = true) (hjt : ts[j]? = some 27) (hjd : ds[j]? = some d) :
    ∃ (A : Option Addr) (n c : Nat) (l : List En), v = .slice A n c ∧ Lies W W.heap.size 4 A n (ecs l) ∧ (∀ x ∈ l, x.m.s < 18446744073709551616 ∧ x.m.k.size ≤ 140737488351232 ∧ x.x.size ≤ 140737488351232) ∧ l.length = n ∧ n ≤ c ∧ c ≤ 140737488351232 := by
  obtain ⟨A, n, c, rfl⟩ := okWide_slice Tryz.underlying27 hv
  obtain ⟨fuel, hf⟩ := h
  rcases Go.Deep.open_slice Tryz.underlying27 hf with ⟨hcs, hx⟩ | ⟨a, len, cap, m, k, D, Pl, hcs, _, hl, hm, hmm, hx, hcell⟩
  · simp [Value.cells] at hcs
    obtain ⟨rfl, rfl, rfl⟩ := hcs
    exact ⟨none, 0, 0, [], rfl, Lies.none_ _ _ _ _, (fun m h => by cases h), rfl, Nat.le_refl _, by omega⟩
  · simp [Value.cells] at hcs
    obtain ⟨rfl, rfl, rfl⟩ := hcs
    simp only [Prod.mk.injEq] at hx
    obtain ⟨rfl, _⟩ := hx
    have hmc : m = c := by simpa using hmm
    subst hmc
    have hs := sized_slice hsz hjt hjd Tryz.underlying27
    have hb : 1 ≤ Tryz.prog.bytesOf 59 := of_decide_eq_true (by kernel_rfl)
    simp only [List.length_map, List.length_range, reachBytes] at hs
    have hc2 : m ≤ 140737488351232 := by
      have : m * 1 ≤ (n + (m - n)) * Tryz.prog.bytesOf 59 := Nat.mul_le_mul (by omega) hb
      omega
    have hC : Tryz.prog.cellsOf 59 = 4 := by kernel_rfl
    have hone : ∀ i, i < n → ∃ q : En, (q.m.s < 18446744073709551616 ∧ q.m.k.size ≤ 140737488351232 ∧ q.x.size ≤ 140737488351232) ∧ ∀ j, j < 4 → W.cell? (a.add (i * 4 + j)) = (En.cs q)[j]? := by
      intro i hi
      obtain ⟨cs', hc', ht'⟩ := hcell i (by omega)
      rw [hC] at hc'
      obtain ⟨q, e, qs, qw, qx⟩ := trod_entry ht'
      obtain ⟨_, _, hat⟩ := World.cells?_some hc'
      have hmem : ∀ z, z ∈ DataW.weights Tryz.prog 59 (D i) → z ∈ DataW.weights Tryz.prog 27 (DataW.slice ((List.range n).map D) ((List.range (m - n)).map fun j => D (n + j)) : DataW H) := fun z hz => by
        simp only [DataW.weights, Tryz.underlying27]
        exact List.mem_cons_of_mem _ (List.mem_append_left _ (weights_all6 hz (List.mem_map_of_mem (List.mem_range.2 hi))))
      refine ⟨q, ⟨qs, reach_of hsz hjt hjd (hmem _ qw), reach_of hsz hjt hjd (hmem _ qx)⟩, fun j hj => ?_⟩
      rw [← add_add, hat j hj, e]; rfl
    obtain ⟨l, hll, hly, hat⟩ := list_lies (W := W) (fun q : {q : En // q.m.s < 18446744073709551616 ∧ q.m.k.size ≤ 140737488351232 ∧ q.x.size ≤ 140737488351232} => En.cs q.1) 4 (fun _ => rfl) (by decide) a n (fun i hi => by
      obtain ⟨q, hq, hc⟩ := hone i hi
      exact ⟨⟨q, hq⟩, hc⟩)
    refine ⟨some a, n, m, l.map (·.1), rfl, ?_, fun q hq => ?_, by simp [hll], hl, hc2⟩
    · unfold ecs; rw [List.flatMap_map]; exact hly
    · obtain ⟨q', _, rfl⟩ := List.mem_map.1 hq
      exact q'.2
end
end Go.Proofs.YtbbimfbkllellaaGreatDoor

