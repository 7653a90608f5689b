/-
  Layer 11's laws: nums, meet; two edits with no number in common.
-/
import Derived.Test.YtbnndajpjhgafaaEdX
import Derived.Test.YtbnndajpjhgafaaEdU
namespace Go.Proofs.Ytbnndajpjhgafaa
open Go.RowKit
set_option linter.unusedVariables false
set_option maxRecDepth 100000

/-- the numbers of an edit -/
def numE (x : Edt) : List Nat := x.rem ++ nms x.add
theorem ed_lieY (w : World) (P1 : Option Addr) (n1 c1 : Nat) (P2 : Option Addr) (n2 c2 : Nat) (j x s : Nat) : EtAt (edW w P1 n1 c1 P2 n2 c2 j x s) w.heap.size P1 n1 c1 P2 n2 c2 j x s ∧ Below w.heap.size w (edW w P1 n1 c1 P2 n2 c2 j x s) := ⟨heap_alloc_new w _, al_below w _⟩
section
variable {w : World} {n1 n2 c1 c2 : Nat} {P1 P2 : Option Addr}
set_option maxHeartbeats 2000000 in
theorem nums_any (x : Edt) (h1 : Lies w w.heap.size 4 P1 n1 (fcs x.add)) (h2 : Lies w w.heap.size 1 P2 n2 (kvs x.rem)) (hs : SzEd x) (hn : n1 + n2 ≤ 1000) :
    Calls Try.prog 35 #[.agg #[.slice P1 n1 c1, .slice P2 n2 c2, .int .u32 (x.jn : Int), .int .u32 (x.nx : Int), .int .u64 (x.sq : Int)]] w fun e w' => ∃ A c, e = .returned (.slice A (n2 + n1) c) ∧ Lies w' w'.heap.size 1 A (n2 + n1) (kvs (numE x)) ∧ Below w.heap.size w w' := by
  obtain ⟨i0, hi, hz0, hz1, hz2⟩ := info_parts u32_info
  have hla := h1.flen
  obtain ⟨hE, hB⟩ := ed_lieY w P1 n1 c1 P2 n2 c2 x.jn x.nx x.sq
  obtain ⟨W1, hW1⟩ : ∃ W, edW w P1 n1 c1 P2 n2 c2 x.jn x.nx x.sq = W := ⟨_, rfl⟩
  rw [hW1] at hE hB
  have HB := Lib.hid hB; have HE := Lib.hid hE; have HL1 := Lib.hid (up_lies h1 hB); have HL2 := Lib.hid (up_lies h2 hB); have HLa := Lib.hid hla
  obtain ⟨g, hg⟩ : ∃ g, w.heap.size = g := ⟨_, rfl⟩
  rw [hg] at HE
  obtain ⟨k0, k1, k2, k3, k4⟩ := HE.out.cells
  clear h1 h2 hE hB hla
  go_enter Try.func35, Try.ntmps35
  go_wp2_with (at_builtin; refine wpList_app _ rfl _ _ 23 rfl W1.heap.size 24 i0 _ 1 4 Try.underlying23 hi hz0 hz1 hz2 rfl (by decide) (.slice none 0 0) 0 [] rfl ⟨rfl, .inl ⟨rfl, rfl⟩⟩ W1.heap.size P2 n2 c2 (kvs x.rem) rfl HL2.out (kvs_one _) (by unfold maxLen; omega) (by omega) (Nat.le_refl _) ?_)
  intro v3 w3 hown3 hg3 _
  have hb3 : Below W1.heap.size W1 w3 := (Below.refl _ _).grown hg3 (Nat.le_refl _) (fun k hk => by cases hk)
  have O3 : w3.ownsRow W1.heap.size 24 1 v3 n2 (kvs x.rem) := by simpa using hown3
  have HO3 := Lib.hid O3; have HB3 := Lib.hid hb3
  clear hown3 hg3 hb3 O3 k0 k1 k2 k3 k4
  go_wp2_with fail
  go_loopw [3, 4] (fun v i wr => ∃ k : Nat, k ≤ n1 ∧ i = .int .i64 (k : Int) ∧ wr.ownsRow W1.heap.size 24 1 v (n2 + k) (kvs (x.rem ++ nms (x.add.take k))) ∧ Below W1.heap.size W1 wr) (fun _ i _ => n1 - (intOf i).toNat)
  case atStart => exact ⟨0, Nat.zero_le _, rfl, by simpa [nms] using HO3.out, HB3.out⟩
  case round =>
    obtain ⟨k, hk, rfl, hown, hb⟩ := hrel
    have hbs := hb.size
    obtain ⟨A1, cc, rfl, hnc1, hcm1, hA1⟩ := own_shape hown
    obtain ⟨k0, k1, k2, k3, k4⟩ := (HE.out.below hb HE.out.lt).cells
    by_cases hlt : k < n1
    · obtain ⟨b, o, f, rfl, _, hf, e0, e1, e2, e3⟩ := (up_lies HL1.out hb).file hlt
      have HX := Lib.hid (show kvs (x.rem ++ nms (x.add.take (k + 1))) = kvs (x.rem ++ nms (x.add.take k)) ++ [.int .u32 (f.num : Int)] from by
        rw [List.take_add_one, hf, nms_app, ← List.append_assoc, kvs_app]; rfl)
      have hj0 : (0 : Int) ≤ (k : Int) := by omega
      have hj1 : (k : Int) < (n1 : Int) := by omega
      clear hf
      go_wp2_with (at_builtin; refine wpList_app _ rfl (.tmp 15) (.tmp 22) 23 rfl W1.heap.size 24 i0 _ 1 4 Try.underlying23 hi hz0 hz1 hz2 rfl (by decide) (.slice A1 (n2 + k) cc) (n2 + k) (kvs (x.rem ++ nms (x.add.take k))) rfl (hown.alloc _) (wr.heap.size + 1) (some ⟨wr.heap.size, 0, none⟩) 1 1 [.int .u32 (f.num : Int)] rfl ?d1 ?d2 ?d3 ?d4 ?d5 ?_)
      case d1 => exact one_lies rfl _ _
      case d2 => intro u hu; simp at hu; subst hu; rfl
      case d3 => unfold maxLen; omega
      case d4 => omega
      case d5 => simp; omega
      intro v2 w2 hown2 hg2 _
      have hb2 : Below W1.heap.size W1 w2 := (hb.alloc hbs _).grown hg2 (by simp; omega) (fun j hj => (hown.lt j hj).1)
      have hown3 : w2.ownsRow W1.heap.size 24 1 v2 (n2 + (k + 1)) (kvs (x.rem ++ nms (x.add.take (k + 1)))) := by rw [HX.out, ← Nat.add_assoc]; exact hown2
      clear hown2 hg2 hown HX
      go_wp2
      go_roundw
      case rel => exact ⟨k + 1, hlt, by go_num, hown3, hb2⟩
      case measure => simp [intOf]; omega
    · obtain rfl : k = n1 := by omega
      rw [show x.add.take k = x.add from List.take_of_length_le (by have := HLa.out; omega)] at hown
      have HF : Hid (∃ A c, Ending.returned (.slice A1 (n2 + k) cc) = .returned (.slice A (n2 + k) c) ∧ Lies wr wr.heap.size 1 A (n2 + k) (kvs (numE x)) ∧ Below w.heap.size w wr) := ⟨A1, cc, rfl, own_lies hown, be_trans HB.out hb⟩
      clear hown hb
      go_wp2
      go_ret
      exact HF.out
end

/-! two edits with no number in common -/
theorem left_app (a b : List Fi) (r : List Nat) : left (a ++ b) r = left a r ++ left b r := by unfold left; rw [List.filter_append]
theorem left_comm (l : List Fi) (r s : List Nat) : left (left l r) s = left (left l s) r := by
  unfold left
  rw [List.filter_filter, List.filter_filter]
  exact List.filter_congr fun f _ => Bool.and_comm _ _
theorem left_all {l : List Fi} {r : List Nat} (h : ∀ f ∈ l, f.num ∉ r) : left l r = l := by
  unfold left
  rw [List.filter_eq_self]
  intro f hf
  have := h f hf
  simp [this]
theorem left_perm {l m : List Fi} (h : l.Perm m) (r : List Nat) : (left l r).Perm (left m r) := List.Perm.filter _ h
theorem both_ok {l a : List Fi} {x y : Edt} (hx : DoOk l x.add x.rem) (hy : DoOk l y.add y.rem) (hxy : ∀ k ∈ numE x, k ∉ numE y) (hp : a.Perm (left l x.rem ++ x.add)) : DoOk a y.add y.rem := by
  have ha := addOk_perm (doOk_after hx) hp
  have ax : ∀ f ∈ x.add, f.num ∉ numE y := fun f hf => hxy _ (List.mem_append_right _ (List.mem_map_of_mem hf))
  refine ⟨ha, ⟨hy.2.1.1, fun k hk => ?_⟩, ⟨hy.2.2.1, ?_⟩⟩
  · obtain ⟨f, hf, rfl⟩ := nms_mem.1 (hy.2.1.2 k hk)
    refine List.mem_map_of_mem (hp.mem_iff.2 (List.mem_append_left _ (mem_left.2 ⟨hf, fun h => ?_⟩)))
    exact hxy _ (List.mem_append_left _ h) (List.mem_append_left _ hk)
  · rw [nms_app, List.nodup_append]
    have hyn := hy.2.2.2
    rw [nms_app, List.nodup_append] at hyn
    refine ⟨left_nodup ha.2 _, hyn.2.1, fun p hp2 q hq e => ?_⟩
    obtain ⟨f, hf, rfl⟩ := nms_mem.1 hp2
    obtain ⟨hfa, hfr⟩ := mem_left.1 hf
    rcases List.mem_append.1 (hp.mem_iff.1 hfa) with q1 | q1
    · exact hyn.2.2 f.num (List.mem_map_of_mem (mem_left.2 ⟨(mem_left.1 q1).1, hfr⟩)) q hq e
    · exact ax f q1 (List.mem_append_right _ (e ▸ hq))
theorem both_perm {l a b : List Fi} {x y : Edt} (hxy : ∀ k ∈ numE x, k ∉ numE y) (hp : a.Perm (left l x.rem ++ x.add)) (hq : b.Perm (left l y.rem ++ y.add)) : (left a y.rem ++ y.add).Perm (left b x.rem ++ x.add) := by
  have h1 : (left a y.rem ++ y.add).Perm ((left (left l x.rem) y.rem ++ x.add) ++ y.add) := by
    refine List.Perm.append_right _ ((left_perm hp _).trans ?_)
    rw [left_app, left_all (l := x.add) fun f hf h => hxy _ (List.mem_append_right _ (List.mem_map_of_mem hf)) (List.mem_append_left _ h)]
  have h2 : (left b x.rem ++ x.add).Perm ((left (left l y.rem) x.rem ++ y.add) ++ x.add) := by
    refine List.Perm.append_right _ ((left_perm hq _).trans ?_)
    rw [left_app, left_all (l := y.add) fun f hf h => hxy _ (List.mem_append_left _ h) (List.mem_append_right _ (List.mem_map_of_mem hf))]
  refine h1.trans (List.Perm.trans ?_ h2.symm)
  rw [left_comm l y.rem x.rem, List.append_assoc, List.append_assoc]
  exact List.Perm.append_left _ List.perm_append_comm
end Go.Proofs.Ytbnndajpjhgafaa
