/-
  Contracts of package blocks: the function that writes places; encoded.
  Contracts of package blocks: encoded.
-/
import Derived.Test.YtghfhojpnbpjoaaBlkE
namespace Go.Proofs.Ytghfhojpnbpjoaa
open Go.RowKit
set_option linter.unusedVariables false
set_option maxRecDepth 100000

/-- what holds behind k places: the bytes -/
structure Enc2 (w0 : World) (B : Nat) (A : Option Addr) (n c : Nat) (L : List Nat) (pre : List UInt8) (k : Nat) (W : World) : Prop where
  base : Below w0.heap.size w0 W
  b : ∃ v, Box W w0.heap.size 25 v ∧ W.ownsRow w0.heap.size 5 1 v (pre ++ (L.take k).flatMap two).length ((pre ++ (L.take k).flatMap two).map bv)
  l : W.ownsRow w0.heap.size 3 1 (.slice A n c) n (L.map iv)
  hB : ∀ ad, A = some ad → ad.block < B
theorem Enc2.up {w0 W W' : World} {B n c k : Nat} {A : Option Addr} {L : List Nat} {pre : List UInt8} (h : Enc2 w0 B A n c L pre k W) (hb : Below W.heap.size W W') : Enc2 w0 B A n c L pre k W' := by
  obtain ⟨vb, hb1, hb2⟩ := h.b
  exact ⟨h.base.trans (hb.mono h.base.size), ⟨vb, hb1.below hb hb1.lt, own_below hb2 hb⟩, own_below h.l hb, h.hB⟩
theorem lies_own {w : World} {base e c B n : Nat} {A : Option Addr} {xs : List Value} (h : w.ownsRow base e 1 (.slice A n c) n xs) (hB : ∀ ad, A = some ad → ad.block < B) : Lies w B 1 A n xs := by
  have L := Lies.of_own h
  refine ⟨L.len, fun j hj => ?_⟩
  obtain ⟨ad, u, e, _, r⟩ := L.spot j hj
  exact ⟨ad, u, e, hB ad e, r⟩
theorem Enc2.row {w0 W W2 : World} {B n c k m : Nat} {A : Option Addr} {L : List Nat} {pre : List UInt8} {v v2 : Value} {o : Obj} (hm : L[k]? = some m) (h : Enc2 w0 B A n c L pre k W)
    (hbx : Box W w0.heap.size 25 v) (hown : W.ownsRow w0.heap.size 5 1 v (pre ++ (L.take k).flatMap two).length ((pre ++ (L.take k).flatMap two).map bv))
    (hg : (W.alloc o).grownBy W2 v.ownBlock) (hown2 : W2.ownsRow w0.heap.size 5 1 v2 ((pre ++ (L.take k).flatMap two).length + 2) ((pre ++ (L.take k).flatMap two).map bv ++ (two m).map bv)) :
    Enc2 w0 B A n c L pre (k + 1) (W2.setCell ⟨w0.heap.size, 0, none⟩ v2) := by
  have hup : Enc2 w0 B A n c L pre k (W.alloc o) := h.up ((Below.refl _ _).alloc (Nat.le_refl _) _)
  have hownA := hown.alloc (w := W) o
  have hbxA := hbx.alloc o
  have g1 : Box W2 w0.heap.size 25 v := hbxA.grown hg (hbxA.not_own hownA (by decide))
  have g4 := own_other hownA hup.l (by decide) hg
  have hbw : Below w0.heap.size w0 W2 := hup.base.grown hg hup.base.size (fun j hj => (hownA.lt j hj).1)
  have ht : pre ++ (L.take (k + 1)).flatMap two = (pre ++ (L.take k).flatMap two) ++ two m := by rw [List.take_add_one, hm]; simp
  refine ⟨hbw.setCell (p := ⟨w0.heap.size, 0, none⟩) (Nat.le_refl _) _, ⟨v2, g1.set v2, ?_⟩, own_setBox g4 g1 (by decide) _, h.hB⟩
  rw [ht, List.length_append, List.map_append]
  exact own_setBox hown2 g1 (by decide) _
theorem two_bv (m : Nat) (hm : m < 65536) : (two m).map bv = [.int .u8 ((m / 256 : Nat) : Int), .int .u8 ((m % 256 : Nat) : Int)] := by
  unfold two
  rw [List.map_cons, List.map_cons, List.map_nil, bv_ofNat _ (by omega)]
  have h : bv (UInt8.ofNat m) = .int .u8 ((m % 256 : Nat) : Int) := by unfold bv; rw [UInt8.toNat_ofNat']
  rw [h]

set_option maxHeartbeats 2000000 in
theorem enc2_any (w0 : World) (A : Option Addr) (n c B k m : Nat) (i : Value) (L : List Nat) (pre : List UInt8) (W : World) (hm : L[k]? = some m) (hmx : ∀ x ∈ L, x < 65536) (hln : L.length ≤ 1000) (hpl : pre.length ≤ 1000000) (hR : Enc2 w0 B A n c L pre k W) :
    Calls Try.prog 61 #[i, .int .i64 (m : Int), .pointer (some ⟨w0.heap.size, 0, none⟩)] W fun e W' => e = .returned (.bool true) ∧ Enc2 w0 B A n c L pre (k + 1) W' := by
  obtain ⟨i0, hi, hz0, hz1, hz2⟩ := info_parts byte_info
  obtain ⟨vb, hb1, hb2⟩ := hR.b
  obtain ⟨Q, hQ⟩ : ∃ Q, pre ++ (L.take k).flatMap two = Q := ⟨_, rfl⟩
  have HQ := Lib.hid hQ
  obtain ⟨lb, hlb2⟩ : ∃ q, Q.length = q := ⟨_, rfl⟩
  have HLB := Lib.hid hlb2
  rw [hQ, hlb2] at hb2
  obtain ⟨Ab, cb, rfl, hbc, hbm, _⟩ := own_shape hb2
  have hm1 := hmx m (List.mem_of_getElem? hm)
  have hlb : lb ≤ 1003000 := by
    rw [← hlb2, ← hQ, List.length_append, flat_two, List.length_take]; omega
  have HR := Lib.hid hR; have HM := Lib.hid hm; have HBx := Lib.hid hb1; have HOw := Lib.hid hb2
  have HT := Lib.hid (two_bv m hm1)
  have cb1 := hb1.cell
  have hbs := hR.base.size
  have e1 : (m : Int) / 256 = ((m / 256 : Nat) : Int) := by omega
  have a1 : ((m / 256 : Nat) : Int) < 256 := by omega
  have e2 : (m : Int) % 256 = ((m % 256 : Nat) : Int) := by omega
  obtain ⟨a, ha⟩ : ∃ a, m / 256 = a := ⟨_, rfl⟩
  obtain ⟨b, hb⟩ : ∃ b, m % 256 = b := ⟨_, rfl⟩
  rw [ha] at e1 a1 HT
  rw [hb] at e2 HT
  unfold maxLen at hbm
  clear hb1 hb2 hR hm hmx ha hb hlb2 hbc hln hpl hQ
  go_enter Try.func61, Try.ntmps61
  go_wp2_with (at_builtin; refine wpList_app _ rfl (.tmp 6) (.tmp 12) 25 rfl w0.heap.size 5 i0 _ 1 1 Try.underlying25 hi hz0 hz1 hz2 rfl (by decide) (.slice Ab lb cb) lb (Q.map bv) rfl (HOw.out.alloc _) (W.heap.size + 1) (some ⟨W.heap.size, 0, none⟩) 2 2 [.int .u8 (a : Int), .int .u8 (b : Int)] rfl (lits_lie rfl _ _) (by intro u hu; simp at hu; rcases hu with rfl | rfl <;> rfl) (by unfold maxLen; omega) (by omega) (by simp; omega) ?_)
  intro v2 w2 hown2 hg2 _
  obtain ⟨A2, c2, rfl, hn2, hm2', _⟩ := own_shape hown2
  have HF : Hid (Enc2 w0 B A n c L pre (k + 1) (w2.setCell ⟨w0.heap.size, 0, none⟩ (.slice A2 (lb + 2) c2))) := Enc2.row HM.out HR.out HBx.out (by rw [HQ.out, HLB.out]; exact HOw.out) hg2 (by rw [HQ.out, HLB.out, HT.out]; exact hown2)
  have hgA := HBx.out.alloc (.cells #[.int .u8 (a : Int), .int .u8 (b : Int)] 5)
  have kB := hgA.grown hg2 (hgA.not_own (HOw.out.alloc (w := W) (.cells #[.int .u8 (a : Int), .int .u8 (b : Int)] 5)) (by decide))
  have kc := kB.cell; have kf := kB.frozen
  clear hg2 kB hgA
  go_wp2
  go_ret
  exact ⟨rfl, HF.out⟩
end Go.Proofs.Ytghfhojpnbpjoaa

namespace Go.Proofs.Ytghfhojpnbpjoaa
open Go.RowKit
set_option linter.unusedVariables false
set_option maxRecDepth 100000

def yes : Nat → Bool := fun _ => true
def Never : World → Prop := fun _ => False
theorem enc1_vis (w0 : World) (B : Nat) (A : Option Addr) (n c : Nat) (S : List En) (hok : okB S = true) (hsq : ∀ e ∈ S, e.m.s < 18446744073709551616) :
    Vis (S.map En.v) 58 #[.pointer (some ⟨w0.heap.size + 1, 0, none⟩), .pointer (some ⟨w0.heap.size, 0, none⟩), .pointer (some ⟨w0.heap.size + 2, 0, none⟩)] yes (EncR w0 B A n c S) Never where
  ent := enters_of Try.func58 (by kernel_rfl) rfl
  go k v W hv hR := by
    rw [List.getElem?_map] at hv
    obtain ⟨x, hx, rfl⟩ : ∃ x, S[k]? = some x ∧ v = x.v := by
      cases h : S[k]? with
      | none => rw [h] at hv; cases hv
      | some x => rw [h] at hv; injection hv with hv; exact ⟨x, rfl, hv.symm⟩
    refine (enc1_any S k x hx hok hsq w0 A n c B W hR).mono fun e W' ⟨he, h⟩ => ?_
    exact ⟨he, fun _ => h, fun q => by cases q⟩
  up k W W' hR hb := hR.up hb
theorem enc2_vis (w0 : World) (B : Nat) (A : Option Addr) (n c : Nat) (L : List Nat) (pre : List UInt8) (hmx : ∀ x ∈ L, x < 65536) (hln : L.length ≤ 1000) (hpl : pre.length ≤ 1000000) :
    Vis ((L.map Int.ofNat).map fun i => Value.int .i64 i) 61 #[.pointer (some ⟨w0.heap.size, 0, none⟩)] yes (Enc2 w0 B A n c L pre) Never where
  ent := enters_of Try.func61 (by kernel_rfl) rfl
  go k v W hv hR := by
    rw [List.map_map, List.getElem?_map] at hv
    obtain ⟨m, hm, rfl⟩ : ∃ m, L[k]? = some m ∧ v = iv m := by
      cases h : L[k]? with
      | none => rw [h] at hv; cases hv
      | some x => rw [h] at hv; injection hv with hv; exact ⟨x, rfl, hv.symm⟩
    refine (enc2_any w0 A n c B k m _ L pre W hm hmx hln hpl hR).mono fun e W' ⟨he, h⟩ => ?_
    exact ⟨he, fun _ => h, fun q => by cases q⟩
  up k W W' hR hb := hR.up hb
theorem visP_yes {n : Nat} {R : Nat → World → Prop} {e : Ending} {w' : World} (h : VisP n yes R Never e w') : e = .returned (.int .i64 (n : Int)) ∧ R n w' := by
  obtain ⟨k, hk, he, hz, h3⟩ := h
  rcases h3 with ⟨rfl, h⟩ | ⟨_, h, _⟩
  · exact ⟨he, h⟩
  · cases h
theorem ivs_map (L : List Nat) : (L.map Int.ofNat).map (fun i => Value.int .i64 i) = L.map iv := by rw [List.map_map]; rfl

set_option maxHeartbeats 4000000 in
theorem enc_any (S : List En) (hok : okB S = true) (hsq : ∀ e ∈ S, e.m.s < 18446744073709551616) (A : Option Addr) (n c B : Nat) (w : World) (hL : EL w B A n c S) :
    Calls Try.prog 32 #[.slice A n c] w fun e w' => PutAns w (encB S) e w' := by
  obtain ⟨i1, hi1, hy0, hy1, hy2⟩ := info_parts int_info
  have hln := hL.lies.elen
  have hok2 := (okB_iff S).1 hok
  have hmf : ∀ (fn : Fn) (first cap : Array Value) (w : World), (Instr.makeFunc fn first cap).run Try.prog w = .ok (.func fn first cap) w := fun _ _ _ _ => rfl
  obtain ⟨W1, hW1⟩ : ∃ W, w.alloc (.cells #[.slice none 0 0] 25) = W := ⟨_, rfl⟩
  obtain ⟨W2, hW2⟩ : ∃ W, W1.alloc (.cells #[.slice none 0 0] 107) = W := ⟨_, rfl⟩
  obtain ⟨W3, hW3⟩ : ∃ W, W2.alloc (.cells #[.string ByteArray.empty] 9) = W := ⟨_, rfl⟩
  have z1 : W1.heap.size = w.heap.size + 1 := by rw [← hW1]; simp
  have z2 : W2.heap.size = w.heap.size + 2 := by rw [← hW2]; simp [z1]
  have z3 : W3.heap.size = w.heap.size + 3 := by rw [← hW3]; simp [z2]
  have x1 : Box W1 w.heap.size 25 (.slice none 0 0) := by rw [← hW1]; exact Box.new w _ _
  have x2 : Box W2 (w.heap.size + 1) 107 (.slice none 0 0) := by rw [← hW2, ← z1]; exact Box.new W1 _ _
  have x3 : SBox W3 (w.heap.size + 2) ByteArray.empty := by rw [← hW3, ← z2]; exact Box.new W2 _ _
  have b1 : Below w.heap.size w W1 := by rw [← hW1]; exact (Below.refl _ _).alloc (Nat.le_refl _) _
  have b2 : Below w.heap.size w W2 := by rw [← hW2]; exact b1.alloc (by omega) _
  have b3 : Below w.heap.size w W3 := by rw [← hW3]; exact b2.alloc (by omega) _
  have x1' : Box W3 w.heap.size 25 (.slice none 0 0) := by
    have h2 : Box W2 w.heap.size 25 (.slice none 0 0) := by rw [← hW2]; exact x1.alloc _
    rw [← hW3]; exact h2.alloc _
  have x2' : Box W3 (w.heap.size + 1) 107 (.slice none 0 0) := by rw [← hW3]; exact x2.alloc _
  have hR0 : EncR w B A n c S 0 W3 := ⟨b3, hL.B, hL.keep (fun p hp => b3.cell (Nat.lt_of_lt_of_le hp hL.B)) b3.size, ⟨_, x1', World.ownsRow_nil _ _ _ _⟩, ⟨_, x2', World.ownsRow_nil _ _ _ _⟩, x3⟩
  have hnx : n ≤ 64 := by omega
  have HV := Lib.hid (visitE_any S A n c B 58 #[.pointer (some ⟨w.heap.size + 1, 0, none⟩), .pointer (some ⟨w.heap.size, 0, none⟩), .pointer (some ⟨w.heap.size + 2, 0, none⟩)] yes (EncR w B A n c S) Never W3
    (enc1_vis w B A n c S hok hsq) (fun k W h => ⟨h.el.B, h.el.lies⟩) (by omega) hR0)
  have H1 := Lib.hid hW1; have H2 := Lib.hid hW2; have H3 := Lib.hid hW3
  have HN := Lib.hid hln
  have HOK := Lib.hid hok2; have HOk := Lib.hid hok
  have HZ := Lib.hid (And.intro z1 z2)
  clear hW1 hW2 hW3 z1 z2 z3 x1 x2 x3 b1 b2 b3 x1' x2' hR0 hL hok hok2 hsq hln
  go_enter Try.func32, Try.ntmps32
  go_wp2_with fail
  rw [show ((w.alloc (.cells #[.slice none 0 0] 25)).alloc (.cells #[.slice none 0 0] 107)).alloc (.cells #[.string ⟨#[]⟩] 9) = W3 from by rw [H1.out, H2.out]; exact H3.out]
  clear H1 H2 H3
  refine HV.out.mono ?_
  rintro e w4 hv
  obtain ⟨rfl, hR⟩ := visP_yes hv
  have htk : S.take n = S := List.take_of_length_le (by rw [HN.out]; exact Nat.le_refl _)
  obtain ⟨vb, hb1, hb2⟩ := hR.b
  obtain ⟨vo, ho1, ho2⟩ := hR.o
  rw [htk] at hb2 ho2
  obtain ⟨Ab, cb, rfl, hbc, hbm, _⟩ := own_shape hb2
  obtain ⟨lo, hlo⟩ : ∃ m, (places S).length = m := ⟨_, rfl⟩
  rw [hlo] at ho2
  obtain ⟨Ao, co, rfl, hoc, hom, _⟩ := own_shape ho2
  have hpl := places_len S
  rw [hlo, HN.out] at hpl
  have co1 := ho1.cell
  have hbs := hR.base.size
  have HR := Lib.hid hR; have HBo := Lib.hid ho2; have HBb := Lib.hid hb2; have HBx := Lib.hid hb1
  have HLo := Lib.hid hlo; have HTK := Lib.hid htk
  have hpl2 : lo ≤ 16 := by omega
  have HPL := Lib.hid hpl
  unfold maxLen at hom hbm
  clear hv hb1 hb2 ho1 ho2 hR hlo htk hpl HV hbc
  go_wp2_with (at_builtin; refine wpList_app _ rfl (.tmp 9) (.tmp 12) 107 rfl w.heap.size 3 i1 _ 1 8 Try.underlying107 hi1 hy0 hy1 hy2 rfl (by decide) (.slice Ao lo co) lo ((places S).map iv) rfl (HBo.out.alloc _) (w4.heap.size + 1) (some ⟨w4.heap.size, 0, none⟩) 1 1 [iv lo] rfl (one_lies rfl _ _) (by intro u hu; simp at hu; subst hu; rfl) (by unfold maxLen; omega) (by omega) (by simp; omega) ?_)
  intro v5 w5 hown5 hg5 _
  obtain ⟨A5, c5, rfl, hn5, hm5, hA5⟩ := own_shape hown5
  have hup := HR.out.up ((Below.refl w4.heap.size w4).alloc (Nat.le_refl _) (.cells #[.int .i64 (lo : Int)] 3))
  have hownA := HBo.out.alloc (w := w4) (.cells #[.int .i64 (lo : Int)] 3)
  have hbxA := HBx.out.alloc (.cells #[.int .i64 (lo : Int)] 3)
  have k1 := hbxA.grown hg5 (hbxA.not_own hownA (by decide))
  have k2 := own_other hownA (HBb.out.alloc (w := w4) (.cells #[.int .i64 (lo : Int)] 3)) (by decide) hg5
  have hbw : Below w.heap.size w w5 := hup.base.grown hg5 hup.base.size (fun j hj => (hownA.lt j hj).1)
  have hq : (places S ++ [lo]).map iv = (places S).map iv ++ [iv lo] := by simp
  have hE0 : Enc2 w w5.heap.size A5 (lo + 1) c5 (places S ++ [lo]) (body S) 0 w5 := by
    refine ⟨hbw, ⟨_, k1, ?_⟩, ?_, fun ad had => (hA5.2 ad had).2⟩
    · simpa using k2
    · rw [hq]; exact hown5
  have hbl := bodyG_len S 0 ByteArray.empty HOK.out.2.2.1
  have hpls : ∀ x ∈ places S ++ [lo], x < 65536 := by
    intro x hx
    rw [List.mem_append] at hx
    rcases hx with hx | hx
    · have := offG_le S 0 0 ByteArray.empty x hx
      have := HOK.out.2.1
      omega
    · simp at hx; omega
  have HV2 := Lib.hid (visitN_any ((places S ++ [lo]).map Int.ofNat) A5 (lo + 1) c5 w5.heap.size 61 #[.pointer (some ⟨w.heap.size, 0, none⟩)] yes (Enc2 w w5.heap.size A5 (lo + 1) c5 (places S ++ [lo]) (body S)) Never w5
    (enc2_vis w w5.heap.size A5 (lo + 1) c5 (places S ++ [lo]) (body S) hpls (by rw [List.length_append, HLo.out, List.length_singleton]; omega) (by have := HOK.out.2.1; unfold body; omega))
    (fun k W h => by rw [ivs_map]; exact lies_own h.l h.hB) (by omega) hE0)
  clear hown5 hg5 hup hownA hbxA k1 k2 hbw hq hE0 hbl hpls hA5 hn5 hm5 co1
  go_wp2_with fail
  refine HV2.out.mono ?_
  rintro e w6 hv2
  obtain ⟨rfl, hE⟩ := visP_yes hv2
  obtain ⟨v6, hb6, ho6⟩ := hE.b
  have hfin : body S ++ ((places S ++ [lo]).take (lo + 1)).flatMap two = encB S := by
    unfold encB tailB
    rw [List.take_of_length_le (by rw [List.length_append, HLo.out, List.length_singleton]; exact Nat.le_refl _), HLo.out]
  rw [hfin] at ho6
  have HO6 := Lib.hid ho6
  have HB6 := Lib.hid hE.base
  have c6 := hb6.cell
  obtain ⟨A6, c6', rfl, _⟩ := own_shape ho6
  clear hv2 hE hb6 ho6 hfin HV2
  go_wp2
  go_ret
  exact ⟨_, rfl, HO6.out, HB6.out⟩
end Go.Proofs.Ytghfhojpnbpjoaa

