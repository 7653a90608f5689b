/-
  Package edits: numbers, encodedFile, encoded, Put.
-/
import Derived.Test.YtnnocjnmfabnaaaEdC
import Derived.Test.YtnnocjnmfabnaaaEdN
import Derived.Test.YtnnocjnmfabnaaaInA
import Derived.Test.YtnnocjnmfabnaaaRcC
import Derived.Deep.RegionHeld3
import Derived.LoopTactic
namespace Go.Proofs.Ytnnocjnmfabnaaa
open Go.RowKit
set_option linter.unusedVariables false
set_option maxRecDepth 100000

theorem gotP_of {w w' : World} {v : Value} {l : List UInt8} (h : w'.ownsRow w.heap.size 5 1 v l.length (l.map bv)) (hb : Below w.heap.size w w') : Got w l.length l (.returned v) w' := got_of h hb
theorem putN_any (k : Nat) (w : World) (hk : k < 18446744073709551616) : Calls Try.prog 40 #[.slice none 0 0, .int .u64 (k : Int)] w fun e w' => Got w (Vi.enc k).length (Vi.enc k) e w' :=
  (put_any none 0 0 k [] w (Lies.none_ _ _ _ _) hk (by omega)).mono fun e w' ⟨v, he, ho, hb⟩ => by
    rw [he]; exact got_of (by simpa using ho) hb
theorem putT_any (s : ByteArray) (w : World) (hs : s.size ≤ 549755813888) : Calls Try.prog 42 #[.slice none 0 0, .string s] w fun e w' => Got w (txtB s).length (txtB s) e w' :=
  (putText_any none 0 0 s [] w (Lies.none_ _ _ _ _) (by omega)).mono fun e w' ⟨v, he, ho, hb⟩ => by
    rw [he]
    have e1 : (txtB s).length = 0 + ((Vi.enc s.size).length + s.size) := by unfold txtB; rw [List.length_append, slen]; omega
    rw [e1]
    exact got_of (by simpa [txtB] using ho) hb
/-- numbers as bytes -/
def nbs (ks : List Nat) : List UInt8 := ks.flatMap Vi.enc
theorem nbs_app (a b : List Nat) : nbs (a ++ b) = nbs a ++ nbs b := by unfold nbs; simp
theorem nbs_len (ks : List Nat) : (nbs ks).length ≤ 10 * ks.length := by
  unfold nbs
  induction ks with
  | nil => simp
  | cons k ks ih =>
    have := Vi.enc_len k
    rw [List.flatMap_cons, List.length_append, List.length_cons]; omega
theorem nbs_take {ks : List Nat} {i k : Nat} (h : ks[i]? = some k) : nbs (ks.take (i + 1)) = nbs (ks.take i) ++ Vi.enc k := by
  rw [List.take_add_one, h, nbs_app]
  unfold nbs
  simp
/-- numbers as values -/
def uvs (r : List Nat) : List Value := r.map fun (k : Nat) => Value.int .u64 (k : Int)
theorem Lies.numU {w : World} {B n k : Nat} {A : Option Addr} {r : List Nat} (h : Lies w B 1 A n (uvs r)) (hk : k < n) : ∃ b o x, A = some ⟨b, o, none⟩ ∧ b < B ∧ r[k]? = some x ∧ w.cell? ⟨b, o + k, none⟩ = some (.int .u64 (x : Int)) := by
  obtain ⟨b, o, u, e, hb, hu, hc⟩ := h.at_ hk
  unfold uvs at hu
  rw [List.getElem?_map] at hu
  cases hx : r[k]? with
  | none => rw [hx] at hu; cases hu
  | some x =>
    rw [hx] at hu
    injection hu with hu
    subst hu
    exact ⟨b, o, x, e, hb, rfl, hc⟩
def NumR (w : World) (ks : List Nat) (n : Nat) (v i : Value) (wr : World) : Prop :=
  ∃ k : Nat, k ≤ n ∧ i = .int .i64 (k : Int) ∧ wr.ownsRow w.heap.size 5 1 v (nbs (ks.take k)).length ((nbs (ks.take k)).map bv) ∧ Below w.heap.size w wr

set_option maxHeartbeats 4000000 in
theorem numbers_any (A : Option Addr) (n c : Nat) (ks : List Nat) (w : World) (h : Lies w w.heap.size 1 A n (uvs ks)) (hk : ∀ k ∈ ks, k < 18446744073709551616) (hn : n ≤ 10000) :
    Calls Try.prog 28 #[.slice A n c] w fun e w' => Got w (nbs ks).length (nbs ks) e w' := by
  obtain ⟨i0, hi, hz0, hz1, hz2⟩ := info_parts byte_info
  have hln : ks.length = n := by have := h.len; unfold uvs at this; simpa using this
  have HL := Lib.hid h; have HK := Lib.hid hk; have HLn := Lib.hid hln
  have HR : Hid (NumR w ks n (.slice none 0 0) (.int .i64 0) w) := ⟨0, Nat.zero_le _, rfl, World.ownsRow_nil _ _ _ _, Below.refl _ _⟩
  clear h hk hln
  go_enter Try.func28, Try.ntmps28
  go_wp2
  go_loopw [3, 8] (fun v i wr => NumR w ks n v i wr) (fun _ i _ => n - (intOf i).toNat)
  case atStart => exact HR.out
  case round =>
    clear HR
    obtain ⟨k, hk, rfl, ho, hb⟩ := hrel
    by_cases hlt : k < n
    · obtain ⟨fb, fo, x, rfl, hfb, hx, c0⟩ := ((HL.out.below hb).more hb.size).numU hlt
      have hx64 := HK.out x (List.mem_of_getElem? hx)
      have hi0 : (0 : Int) ≤ (k : Int) := by omega
      have hi1 : (k : Int) < (n : Int) := by omega
      have hit : ((k : Int)).toNat = k := by simp
      obtain ⟨Av, cv, rfl, _⟩ := own_shape ho
      have HP := Lib.hid (putN_any x wr hx64)
      have HS := Lib.hid (nbs_take hx)
      have hel := Vi.enc_len x
      have hnl := nbs_len (ks.take k)
      rw [List.length_take, HLn.out] at hnl
      have HO := Lib.hid ho; have HB := Lib.hid hb
      obtain ⟨X, hX⟩ : ∃ X, nbs (ks.take k) = X := ⟨_, rfl⟩
      obtain ⟨e, he⟩ : ∃ e, Vi.enc x = e := ⟨_, rfl⟩
      rw [hX] at HO HS hnl ⊢
      rw [he] at HS HP hel
      obtain ⟨N, hN⟩ : ∃ N, X.length = N := ⟨_, rfl⟩
      rw [hN] at HO hnl ⊢
      obtain ⟨M, hM⟩ : ∃ M, e.length = M := ⟨_, rfl⟩
      rw [hM] at HP hel
      have HN := Lib.hid hN; have HM := Lib.hid hM
      clear ho hb hx hX he hN hM
      go_wp2_with fail
      with_reducible refine Calls.mono HP.out ?_
      rintro e2 w2 ⟨A2, c2, rfl, hc21, hc22, ho2, hb2⟩
      have HO2 := Lib.hid (own_below HO.out hb2); have HB2 := Lib.hid (HB.out.trans (hb2.mono HB.out.size)); have HL2 := Lib.hid (Lies.of_own ho2)
      clear ho2 hb2 HP HO HB c0
      go_wp2_with (at_builtin; refine wpList_app _ rfl (.tmp 12) (.tmp 14) 39 rfl w.heap.size 5 i0 _ 1 1 Try.underlying39 hi hz0 hz1 hz2 rfl (by decide) _ _ _ rfl HO2.out w2.heap.size A2 M _ _ rfl HL2.out (bv_one _) (by unfold maxLen; omega) (by omega) HB2.out.size ?_)
      intro v3 w3 ho3 hg3 _
      have HFin : Hid (NumR w ks n v3 (.int .i64 ((k + 1 : Nat) : Int)) w3) := ⟨k + 1, hlt, rfl, by rw [HS.out, List.length_append, HN.out, HM.out, List.map_append]; exact ho3, HB2.out.grown hg3 HB2.out.size (fun j hj => (HO2.out.lt j hj).1)⟩
      clear ho3 hg3 HO2 HB2 HL2
      go_wp2
      go_roundw
      case rel => exact HFin.out
      case measure => simp [intOf]; omega
    · have hnl : ¬ ((k : Int) < (n : Int)) := by omega
      obtain ⟨Av, cv, rfl, _⟩ := own_shape ho
      have HF : Hid (Got w (nbs ks).length (nbs ks) (.returned (.slice Av (nbs (ks.take k)).length cv)) wr) := by
        have e : k = n := by omega
        subst e
        rw [List.take_of_length_le (by rw [HLn.out]; exact Nat.le_refl _)] at ho ⊢
        exact got_of ho hb
      clear ho hb
      go_wp2
      go_ret
      exact HF.out

theorem concatE (rs : List Rcd) (w : World) (h : LyAll w w.heap.size rs) (hs : (cat rs).length ≤ 1099511627776) (hn : rs.length ≤ 1000) :
    Calls Try.prog 41 #[.slice (some ⟨w.heap.size, 0, none⟩) rs.length rs.length] (w.alloc (.cells (rs.map Rcd.v).toArray 39)) fun e w' =>
      ∃ v, e = .returned v ∧ w'.ownsRow w.heap.size 5 1 v (cat rs).length ((cat rs).map bv) ∧ Below w.heap.size w w' := by
  have hb : Below w.heap.size w (w.alloc (.cells (rs.map Rcd.v).toArray 39)) := (Below.refl _ _).alloc (Nat.le_refl _) _
  have hz : (w.alloc (.cells (rs.map Rcd.v).toArray 39)).heap.size = w.heap.size + 1 := by simp
  have hl := lits_lie (w := w) rfl (rs.map Rcd.v) 39
  rw [List.length_map] at hl
  exact (concat_any (some ⟨w.heap.size, 0, none⟩) rs.length rs.length rs _ (by rw [hz]; exact hl) (fun r hr => ((h r hr).below hb).more hb.size) hs hn).mono fun e w' ⟨v, he, ho, hb2⟩ => ⟨v, he, own_base ho hb.size, hb.trans (hb2.mono hb.size)⟩
theorem join3 {W : World} {L : List UInt8} {A0 A1 A2 : Option Addr} {n0 n1 n2 c0 c1 c2 N : Nat} {l0 l1 l2 : List UInt8}
    (h0 : Lies W W.heap.size 1 A0 n0 (l0.map bv)) (h1 : Lies W W.heap.size 1 A1 n1 (l1.map bv)) (h2 : Lies W W.heap.size 1 A2 n2 (l2.map bv)) (hL : L = l0 ++ (l1 ++ l2)) (hN : L.length = N) (hs : N ≤ 549755813888) :
    Calls Try.prog 41 #[.slice (some ⟨W.heap.size, 0, none⟩) 3 3] (W.alloc (.cells #[.slice A0 n0 c0, .slice A1 n1 c1, .slice A2 n2 c2] 39)) fun e w' => Got W N L e w' := by
  have hc : cat [⟨A0, n0, c0, l0⟩, ⟨A1, n1, c1, l1⟩, ⟨A2, n2, c2, l2⟩] = L := by rw [hL]; simp [cat]
  have h := concatE [⟨A0, n0, c0, l0⟩, ⟨A1, n1, c1, l1⟩, ⟨A2, n2, c2, l2⟩] W (by
    intro r hr
    simp only [List.mem_cons, List.not_mem_nil, or_false] at hr
    rcases hr with rfl | rfl | rfl
    · exact h0
    · exact h1
    · exact h2) (by rw [hc]; omega) (by show 3 ≤ 1000; omega)
  rw [hc] at h
  exact h.mono fun e w' ⟨v, he, ho, hb2⟩ => by rw [he, ← hN]; exact got_of ho hb2
/-- numbers that a literal lays -/
theorem numbersL (ks : List Nat) (w : World) (hk : ∀ k ∈ ks, k < 18446744073709551616) (hn : ks.length ≤ 1000) :
    Calls Try.prog 28 #[.slice (some ⟨w.heap.size, 0, none⟩) ks.length ks.length] (w.alloc (.cells (uvs ks).toArray 25)) fun e w' => Got w (nbs ks).length (nbs ks) e w' := by
  have hb : Below w.heap.size w (w.alloc (.cells (uvs ks).toArray 25)) := (Below.refl _ _).alloc (Nat.le_refl _) _
  have hz : (w.alloc (.cells (uvs ks).toArray 25)).heap.size = w.heap.size + 1 := by simp
  have hl := lits_lie (w := w) rfl (uvs ks) 25
  have hul : (uvs ks).length = ks.length := by unfold uvs; simp
  rw [hul] at hl
  refine (numbers_any (some ⟨w.heap.size, 0, none⟩) ks.length ks.length ks _ (by rw [hz]; exact hl) hk (by omega)).mono ?_
  rintro e w' ⟨A, c, rfl, h1, h2, ho, hb2⟩
  exact ⟨A, c, rfl, h1, h2, own_base ho hb.size, hb.trans (hb2.mono hb.size)⟩

set_option maxHeartbeats 4000000 in
theorem encFile_any (f : Fi) (w : World) (hok : okFi f = true) (hn : f.num < 4294967296) :
    Calls Try.prog 29 #[.agg #[.int .u32 (f.num : Int), .int .i64 f.lv, .string f.a, .string f.z]] w fun e w' => Got w (encFi f).length (encFi f) e w' := by
  obtain ⟨h0, h4, hca, hcz, _⟩ := (okFi_iff f).1 hok
  have ha := (chk_size hca).2; have hz := (chk_size hcz).2
  obtain ⟨W0, hW0⟩ : ∃ W0, fiW w f = W0 := ⟨_, rfl⟩
  have hf0 : FiAt W0 w.heap.size f := by rw [← hW0]; exact FiAt.new w f
  have hb0 : Below w.heap.size w W0 := by rw [← hW0]; exact fiW_below w f
  have HW0 : Hid (w.alloc (.cells #[.int .u32 (f.num : Int), .int .i64 f.lv, .string f.a, .string f.z] 37) = W0) := hW0
  have KE : Hid (∀ W', Below W0.drew.heap.size W0.drew W' → W'.cell? ⟨w.heap.size, 0, none⟩ = some (.int .u32 (f.num : Int)) ∧ W'.cell? ⟨w.heap.size, 1, none⟩ = some (.int .i64 f.lv) ∧ W'.cell? ⟨w.heap.size, 2, none⟩ = some (.string f.a) ∧ W'.cell? ⟨w.heap.size, 3, none⟩ = some (.string f.z)) := fun W' hb =>
    ((show FiAt W0.drew w.heap.size f from hf0).below hb hf0.lt).cells
  have hw1 : IntKind.u64.wrap (f.num : Int) = (f.num : Int) := by rw [IntKind.wrap_u64]; omega
  obtain ⟨lv, hlvn⟩ : ∃ lv : Nat, f.lv = (lv : Int) := ⟨f.lv.toNat, by omega⟩
  have hw2 : IntKind.u64.wrap f.lv = (lv : Int) := by rw [hlvn, IntKind.wrap_u64]; omega
  have hlvt : f.lv.toNat = lv := by omega
  have N1 := numbersL [f.num, lv] W0.drew (by intro k hk; simp at hk; rcases hk with rfl | rfl <;> omega) (by simp)
  have N2 : Hid (Calls Try.prog 28 #[.slice (some ⟨W0.heap.size, 0, none⟩) 2 2] (W0.alloc (.cells #[.int .u64 (f.num : Int), .int .u64 (lv : Int)] 25)).drew fun e w' => Got W0.drew (nbs [f.num, lv]).length (nbs [f.num, lv]) e w') := N1
  have P2 := Lib.hid (fun W => putT_any f.a W (by omega))
  have P3 := Lib.hid (fun W => putT_any f.z W (by omega))
  have hL : encFi f = nbs [f.num, lv] ++ (txtB f.a ++ txtB f.z) := by unfold encFi nbs; rw [hlvt]; simp
  have hlen : (encFi f).length ≤ 549755813888 := by
    have q1 := Vi.enc_len f.num; have q2 := Vi.enc_len f.lv.toNat; have q3 := Vi.enc_len f.a.size; have q4 := Vi.enc_len f.z.size
    unfold encFi txtB
    simp only [List.length_append, slen]; omega
  obtain ⟨l0, hl0⟩ : ∃ x, nbs [f.num, lv] = x := ⟨_, rfl⟩
  obtain ⟨l1, hl1⟩ : ∃ x, txtB f.a = x := ⟨_, rfl⟩
  obtain ⟨l2, hl2⟩ : ∃ x, txtB f.z = x := ⟨_, rfl⟩
  obtain ⟨L, hLL⟩ : ∃ x, encFi f = x := ⟨_, rfl⟩
  rw [hLL, hl0, hl1, hl2] at hL
  rw [hLL] at hlen ⊢
  rw [hl0] at N2; rw [hl1] at P2; rw [hl2] at P3
  obtain ⟨n0, hn0⟩ : ∃ x, l0.length = x := ⟨_, rfl⟩
  obtain ⟨n1, hn1⟩ : ∃ x, l1.length = x := ⟨_, rfl⟩
  obtain ⟨n2, hn2⟩ : ∃ x, l2.length = x := ⟨_, rfl⟩
  obtain ⟨N, hN⟩ : ∃ x, L.length = x := ⟨_, rfl⟩
  rw [hN] at hlen ⊢
  rw [hn0] at N2; rw [hn1] at P2; rw [hn2] at P3
  have HL := Lib.hid hL; have HN := Lib.hid hN; have HLen := Lib.hid hlen; have HB0 := Lib.hid hb0
  clear N1 hL hlen hl0 hl1 hl2 hLL hn0 hn1 hn2 hN hf0 hb0 hW0 hlvn hlvt hok h4 hca hcz
  go_enter Try.func29, Try.ntmps29
  go_wp2_with fail
  rw [HW0.out]
  go_region_held3 (fun w' => w'.cell? ⟨w.heap.size, 0, none⟩ = some (.int .u32 (f.num : Int)) ∧ w'.cell? ⟨w.heap.size, 1, none⟩ = some (.int .i64 f.lv) ∧ w'.cell? ⟨w.heap.size, 2, none⟩ = some (.string f.a) ∧ w'.cell? ⟨w.heap.size, 3, none⟩ = some (.string f.z))
    (first | exact KE.out _ (Below.refl _ _) | exact KE.out _ ((Below.refl _ _).alloc (Nat.le_refl _) _) | exact KE.out ((W0.alloc _).drew) ((Below.refl W0.drew.heap.size W0.drew).alloc (Nat.le_refl _) _) | exact KE.out _ b1 | exact KE.out _ b2 | exact KE.out _ b3 | exact KE.out _ (b3.alloc b3.size _) | exact KE.out _ b4 | fail)
    (first
    | (go_at_call 28; (with_reducible refine Calls.mono N2.out ?_); rintro e w1 ⟨A1, c1, rfl, _, _, ho1, b1⟩)
    | (go_at_call 42; (with_reducible refine Calls.mono (P2.out _) ?_); rintro e w2 ⟨A2, c2, rfl, _, _, ho2, hb2⟩; have b2 := b1.trans (hb2.mono b1.size))
    | (go_at_call 42; (with_reducible refine Calls.mono (P3.out _) ?_); rintro e w3 ⟨A3, c3, rfl, _, _, ho3, hb3⟩; have b3 := b2.trans (hb3.mono b2.size))
    | (go_at_call 41; refine (join3 (((Lies.of_own ho1).below (hb2.trans (hb3.mono hb2.size))).more (hb2.trans (hb3.mono hb2.size)).size) (((Lies.of_own ho2).below hb3).more hb3.size) (Lies.of_own ho3) HL.out HN.out HLen.out).mono ?_; rintro e w4 ⟨A4, c4, rfl, h41, h42, ho4, hb4⟩; have b4 := b3.trans (hb4.mono b3.size))
    | fail)
  have HF : Hid (Got w N L (.returned (.slice A4 N c4)) w4) := ⟨A4, c4, rfl, h41, h42, own_base ho4 (Nat.le_trans (show w.heap.size ≤ W0.drew.heap.size from HB0.out.size) b3.size), HB0.out.trans (((show Below W0.heap.size W0 W0.drew from (Below.refl _ _).drew).trans b4).mono HB0.out.size)⟩
  clear ho1 ho2 ho3 ho4 hb2 hb3 hb4 b1 b2 b3 b4 KE N2 P2 P3
  go_wp2
  go_ret
  exact HF.out

/-- files as bytes -/
def fbs (l : List Fi) : List UInt8 := l.flatMap encFi
theorem fbs_take {l : List Fi} {i : Nat} {f : Fi} (h : l[i]? = some f) : fbs (l.take (i + 1)) = fbs (l.take i) ++ encFi f := by
  rw [List.take_add_one, h]
  unfold fbs
  simp
theorem encFi_len {f : Fi} (h : okFi f = true) : (encFi f).length ≤ 104 := by
  obtain ⟨h0, h4, hca, hcz, _⟩ := (okFi_iff f).1 h
  have ha := (chk_size hca).2; have hz := (chk_size hcz).2
  have q1 := Vi.enc_len f.num; have q2 := Vi.enc_len f.lv.toNat; have q3 := Vi.enc_len f.a.size; have q4 := Vi.enc_len f.z.size
  unfold encFi txtB
  simp only [List.length_append, slen]; omega
theorem fbs_len {l : List Fi} (h : ∀ f ∈ l, okFi f = true) : (fbs l).length ≤ 104 * l.length := by
  unfold fbs
  induction l with
  | nil => simp
  | cons k ks ih =>
    have h1 := encFi_len (h k (by simp))
    have h2 := ih fun f hf => h f (by simp [hf])
    rw [List.flatMap_cons, List.length_append, List.length_cons]; omega
/-- an edit, in its block -/
def EtAt (w : World) (g : Nat) (A1 : Option Addr) (n1 c1 : Nat) (A2 : Option Addr) (n2 c2 : Nat) (j x s : Nat) : Prop :=
  w.heap[g]? = some (.cells #[.slice A1 n1 c1, .slice A2 n2 c2, .int .u32 (j : Int), .int .u32 (x : Int), .int .u64 (s : Int)] 27 (0, 0))
section
variable {w w' : World} {g n1 c1 n2 c2 j x s : Nat} {A1 A2 : Option Addr}
theorem EtAt.lt (h : EtAt w g A1 n1 c1 A2 n2 c2 j x s) : g < w.heap.size := (Array.getElem?_eq_some_iff.1 h).1
theorem EtAt.below {B : Nat} (h : EtAt w g A1 n1 c1 A2 n2 c2 j x s) (hb : Below B w w') (hg : g < B) : EtAt w' g A1 n1 c1 A2 n2 c2 j x s := (hb.block g hg).trans h
theorem EtAt.cells (h : EtAt w g A1 n1 c1 A2 n2 c2 j x s) : w.cell? ⟨g, 0, none⟩ = some (.slice A1 n1 c1) ∧ w.cell? ⟨g, 1, none⟩ = some (.slice A2 n2 c2) ∧ w.cell? ⟨g, 2, none⟩ = some (.int .u32 (j : Int)) ∧ w.cell? ⟨g, 3, none⟩ = some (.int .u32 (x : Int)) ∧ w.cell? ⟨g, 4, none⟩ = some (.int .u64 (s : Int)) :=
  ⟨cell_of_row _ _ 0 _ _ (0, 0) h, cell_of_row _ _ 1 _ _ (0, 0) h, cell_of_row _ _ 2 _ _ (0, 0) h, cell_of_row _ _ 3 _ _ (0, 0) h, cell_of_row _ _ 4 _ _ (0, 0) h⟩
end
end Go.Proofs.Ytnnocjnmfabnaaa
