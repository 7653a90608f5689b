/-
  Contracts of package order: Put.
-/
import Derived.Test.YtodmgmfanpnabaaGreatDoorOrdA
namespace Go.Proofs.YtodmgmfanpnabaaGreatDoor
open Go.RowKit
set_option linter.unusedVariables false
set_option maxRecDepth 100000

theorem concat4 (A0 A1 A2 A3 : Option Addr) (n0 n1 n2 n3 c0 c1 c2 c3 : Nat) (l0 l1 l2 l3 : List UInt8) (w : World)
    (h0 : Lies w w.heap.size 1 A0 n0 (l0.map bv)) (h1 : Lies w w.heap.size 1 A1 n1 (l1.map bv)) (h2 : Lies w w.heap.size 1 A2 n2 (l2.map bv)) (h3 : Lies w w.heap.size 1 A3 n3 (l3.map bv))
    (hs : l0.length + l1.length + l2.length + l3.length ≤ 1099511627776) :
    Calls Tryz.prog 211 #[.slice (some ⟨w.heap.size, 0, none⟩) 4 4] (w.alloc (.cells #[.slice A0 n0 c0, .slice A1 n1 c1, .slice A2 n2 c2, .slice A3 n3 c3] 54)) fun e w' =>
      ∃ v, e = .returned v ∧ w'.ownsRow w.heap.size 5 1 v (l0 ++ (l1 ++ (l2 ++ l3))).length ((l0 ++ (l1 ++ (l2 ++ l3))).map bv) ∧ Below w.heap.size w w' := by
  have hc : cat [⟨A0, n0, c0, l0⟩, ⟨A1, n1, c1, l1⟩, ⟨A2, n2, c2, l2⟩, ⟨A3, n3, c3, l3⟩] = l0 ++ (l1 ++ (l2 ++ l3)) := by simp [cat]
  have hb : Below w.heap.size w (w.alloc (.cells #[.slice A0 n0 c0, .slice A1 n1 c1, .slice A2 n2 c2, .slice A3 n3 c3] 54)) := (Below.refl _ _).alloc (Nat.le_refl _) _
  have hz : (w.alloc (.cells #[.slice A0 n0 c0, .slice A1 n1 c1, .slice A2 n2 c2, .slice A3 n3 c3] 54)).heap.size = w.heap.size + 1 := by simp
  have hl := lits_lie (w := w) rfl (([⟨A0, n0, c0, l0⟩, ⟨A1, n1, c1, l1⟩, ⟨A2, n2, c2, l2⟩, ⟨A3, n3, c3, l3⟩] : List Rcd).map Rcd.v) 54
  have h := concat_any (some ⟨w.heap.size, 0, none⟩) 4 4 [⟨A0, n0, c0, l0⟩, ⟨A1, n1, c1, l1⟩, ⟨A2, n2, c2, l2⟩, ⟨A3, n3, c3, l3⟩] (w.alloc (.cells #[.slice A0 n0 c0, .slice A1 n1 c1, .slice A2 n2 c2, .slice A3 n3 c3] 54))
    (by rw [hz]; exact hl)
    (by
      intro r hr
      simp only [List.mem_cons, List.not_mem_nil, or_false] at hr
      rcases hr with rfl | rfl | rfl | rfl
      · exact (h0.below hb).more hb.size
      · exact (h1.below hb).more hb.size
      · exact (h2.below hb).more hb.size
      · exact (h3.below hb).more hb.size)
    (by rw [hc]; simp only [List.length_append]; omega) (by omega)
  rw [hc] at h
  refine h.mono fun e w' ⟨v, he, ho, hb2⟩ => ⟨v, he, own_base ho hb.size, hb.trans (hb2.mono hb.size)⟩

/-- three answers that lie, the others as they were -/
def All3 (w0 w3 : World) (A1 A2 A3 : Option Addr) (n1 n2 n3 : Nat) (l1 l2 l3 : List UInt8) : Prop :=
  Below w0.heap.size w0 w3 ∧ Lies w3 w3.heap.size 1 A1 n1 (l1.map bv) ∧ Lies w3 w3.heap.size 1 A2 n2 (l2.map bv) ∧ Lies w3 w3.heap.size 1 A3 n3 (l3.map bv)
section
variable {wa wb wc wd : World} {l1 l2 l3 : List UInt8} {A1 A2 A3 : Option Addr} {n1 c1 n2 c2 n3 c3 : Nat}
theorem all123 (h1 : Ans wa l1 A1 n1 c1 wb) (h2 : Ans wb l2 A2 n2 c2 wc) (h3 : Ans wc l3 A3 n3 c3 wd) : All3 wa wd A1 A2 A3 n1 n2 n3 l1 l2 l3 := ans3 h1 h2 h3
end
/-- what Concat answered at the end of Put -/
def CatP (w w3 : World) (L : List UInt8) (v : Value) (w' : World) : Prop := w'.ownsRow w.heap.size 5 1 v L.length (L.map bv) ∧ Below w.heap.size w w' ∧ Below w3.heap.size w3 w'
theorem cat_put {A A1 A2 A3 : Option Addr} {n n1 n2 n3 c c1 c2 c3 : Nat} {l l1 l2 l3 : List UInt8} {w w0 w3 : World} (hl : Lies w w.heap.size 1 A n (l.map bv)) (hb : Below w.heap.size w w0) (h : All3 w0 w3 A1 A2 A3 n1 n2 n3 l1 l2 l3)
    (hs : l.length + l1.length + l2.length + l3.length ≤ 1099511627776) :
    Calls Tryz.prog 211 #[.slice (some ⟨w3.heap.size, 0, none⟩) 4 4] (w3.alloc (.cells #[.slice A n c, .slice A1 n1 c1, .slice A2 n2 c2, .slice A3 n3 c3] 54)) fun e w' => ∃ v, e = .returned v ∧ CatP w w3 (l ++ (l1 ++ (l2 ++ l3))) v w' := by
  obtain ⟨hb3, h1, h2, h3⟩ := h
  have hbw := hb.trans (hb3.mono hb.size)
  exact (concat4 A A1 A2 A3 n n1 n2 n3 c c1 c2 c3 l l1 l2 l3 w3 ((hl.below hbw).more hbw.size) h1 h2 h3 hs).mono fun e w' ⟨v, he, ho, hb4⟩ => ⟨v, he, own_base ho hbw.size, hbw.trans (hb4.mono hbw.size), hb4⟩
theorem cat_on {w w0 w3 w4 : World} {L : List UInt8} {v : Value} {A1 A2 A3 : Option Addr} {n1 n2 n3 : Nat} {l1 l2 l3 : List UInt8} (h : All3 w0 w3 A1 A2 A3 n1 n2 n3 l1 l2 l3) (h4 : CatP w w3 L v w4) : Below w0.heap.size w0 w4 := h.1.trans (h4.2.2.mono h.1.size)
theorem cat_al {w0 w3 : World} {A1 A2 A3 : Option Addr} {n1 n2 n3 : Nat} {l1 l2 l3 : List UInt8} (h : All3 w0 w3 A1 A2 A3 n1 n2 n3 l1 l2 l3) (o : Obj) : Below w0.heap.size w0 (w3.alloc o) := h.1.alloc h.1.size o

/-- what Put answers -/
def PutAns (w : World) (l : List UInt8) (e : Ending) (w' : World) : Prop := ∃ v, e = .returned v ∧ w'.ownsRow w.heap.size 5 1 v l.length (l.map bv) ∧ Below w.heap.size w w'

set_option maxRecDepth 100000 in
set_option maxHeartbeats 4000000 in
theorem oput_any (A : Option Addr) (n c : Nat) (l : List UInt8) (x : En) (w : World) (h1 : Lies w w.heap.size 1 A n (l.map bv)) (hk : x.m.s < 18446744073709551616) (hs : n + x.m.k.size + x.x.size ≤ 137438953472) :
    Calls Tryz.prog 213 #[.slice A n c, x.v] w fun e w' => PutAns w (l ++ encE x) e w' := by
  have hln := h1.blen
  have hg : w.heap.size < (w.alloc (.cells #[.string x.m.k, .int .u64 (x.m.s : Int), .bool x.m.g, .string x.x] 130)).heap.size := by simp
  have HB0 : Hid (Below w.heap.size w (w.alloc (.cells #[.string x.m.k, .int .u64 (x.m.s : Int), .bool x.m.g, .string x.x] 130)).drew) := ((Below.refl _ _).alloc (Nat.le_refl _) _).drew
  have HE : Hid (EnAt (w.alloc (.cells #[.string x.m.k, .int .u64 (x.m.s : Int), .bool x.m.g, .string x.x] 130)).drew w.heap.size x) := EnAt.new w x
  have P1 : Hid (∀ W, Calls Tryz.prog 236 #[.slice none 0 0, .string x.m.k] W fun e w' => ∃ A n c, e = .returned (.slice A n c) ∧ Ans W (Vi.enc x.m.k.size ++ x.m.k.data.toList) A n c w') := fun W => putText_ans x.m.k W (by omega)
  have P2 : Hid (∀ W, Calls Tryz.prog 212 #[.slice none 0 0, .int .u64 (x.m.s : Int)] W fun e w' => ∃ A n c, e = .returned (.slice A n c) ∧ Ans W (Vi.enc x.m.s) A n c w') := fun W => put_ans x.m.s W hk
  have P3 : Hid (∀ W, Calls Tryz.prog 237 #[.agg #[.string x.m.k, .int .u64 (x.m.s : Int), .bool x.m.g, .string x.x]] W fun e w' => ∃ A n c, e = .returned (.slice A n c) ∧ Ans W (tailE x) A n c w') := fun W => state_ans x W (by omega)
  have HL := Lib.hid h1
  have HLEN : Hid (l.length + (Vi.enc x.m.k.size ++ x.m.k.data.toList).length + (Vi.enc x.m.s).length + (tailE x).length ≤ 1099511627776) := by
    have := tailE_len x; have := Vi.enc_len x.m.k.size; have := Vi.enc_len x.m.s
    unfold Hid
    rw [List.length_append, txt_len]; omega
  have HX : Hid (l ++ encE x = l ++ ((Vi.enc x.m.k.size ++ x.m.k.data.toList) ++ (Vi.enc x.m.s ++ tailE x))) := rfl
  rw [HX.out]
  clear HX h1 hk hs hln
  unfold En.v
  go_enter Tryz.func213, Tryz.ntmps213
  go_wp2_with fail
  generalize hW0 : (w.alloc (.cells #[.string x.m.k, .int .u64 (x.m.s : Int), .bool x.m.g, .string x.x] 130)) = W0 at *
  have KE : Hid (∀ W', Below W0.drew.heap.size W0.drew W' → W'.cell? ⟨w.heap.size, 0, none⟩ = some (.string x.m.k) ∧ W'.cell? ⟨w.heap.size, 1, none⟩ = some (.int .u64 (x.m.s : Int)) ∧ W'.cell? ⟨w.heap.size, 2, none⟩ = some (.bool x.m.g) ∧ W'.cell? ⟨w.heap.size, 3, none⟩ = some (.string x.x)) :=
    fun W' hb => (HE.out.below hb hg).cell
  have HG := Lib.hid hg
  clear hW0 HE hg
  go_region_held3 (fun w' => w'.cell? ⟨w.heap.size, 0, none⟩ = some (.string x.m.k) ∧ w'.cell? ⟨w.heap.size, 1, none⟩ = some (.int .u64 (x.m.s : Int)) ∧ w'.cell? ⟨w.heap.size, 2, none⟩ = some (.bool x.m.g) ∧ w'.cell? ⟨w.heap.size, 3, none⟩ = some (.string x.x))
    (first
      | exact KE.out _ (Below.refl _ _)
      | exact KE.out _ hf1.2.2 | exact KE.out _ (ans2 hf1 hf2) | exact KE.out _ (all123 hf1 hf2 hf3).1 | exact KE.out _ (cat_al (all123 hf1 hf2 hf3) _) | exact KE.out _ (cat_on (all123 hf1 hf2 hf3) hf4)
      | fail)
    (first
    | (go_at_call 236; refine (P1.out _).mono ?_; rintro e w1 ⟨A1, n1, c1, rfl, hf1⟩)
    | (go_at_call 212; refine (P2.out _).mono ?_; rintro e w2 ⟨A2, n2, c2, rfl, hf2⟩)
    | (go_at_call 237; refine (P3.out _).mono ?_; rintro e w3 ⟨A3, n3, c3, rfl, hf3⟩)
    | (go_at_call 211; refine (cat_put HL.out HB0.out (all123 hf1 hf2 hf3) HLEN.out).mono ?_; rintro e w4 ⟨v4, rfl, hf4⟩)
    | fail)
  go_wp2
  go_ret
  exact ⟨_, rfl, hf4.1, hf4.2.1⟩
end Go.Proofs.YtodmgmfanpnabaaGreatDoor
