/-
  The walk of EditsBack.
-/
import Derived.Test.YtbnndajpjhgafaaEdX
import Derived.Test.YtbnndajpjhgafaaEdK
import Derived.Test.YtbnndajpjhgafaaTwin
import Derived.Test.YtbnndajpjhgafaaKpX
namespace Go.Proofs.Ytbnndajpjhgafaa
open Go.RowKit
set_option linter.unusedVariables false
set_option maxRecDepth 100000

theorem encEd_len {x : Edt} (h : okEd x = true) : 5 ≤ (encEd x).length ∧ (encEd x).length ≤ 50 + 104 * x.add.length + 10 * x.rem.length := by
  have h1 := fbs_len (List.all_eq_true.1 h); have h2 := nbs_len x.rem
  have p := fun n => Vi.enc_pos n; have q := fun n => Vi.enc_len n
  have e1 : encEd x = Vi.enc x.add.length ++ (fbs x.add ++ (Vi.enc x.rem.length ++ (nbs x.rem ++ (Vi.enc x.jn ++ (Vi.enc x.nx ++ Vi.enc x.sq))))) := rfl
  rw [e1]
  simp only [List.length_append]
  have := p x.add.length; have := p x.rem.length; have := p x.jn; have := p x.nx; have := p x.sq
  have := q x.add.length; have := q x.rem.length; have := q x.jn; have := q x.nx; have := q x.sq
  omega
theorem szFi_ok {f : Fi} (h : okFi f = true) (hn : f.num < 4294967296) : szFi f := by
  obtain ⟨h1, h2, h3, h4, _⟩ := (okFi_iff f).1 h
  have a := chk_size h3; have z := chk_size h4
  exact ⟨hn, by omega, by omega, by omega⟩
theorem ed_lie (w : World) (P1 : Option Addr) (n1 c1 : Nat) (P2 : Option Addr) (n2 c2 : Nat) (j x s : Nat) : EtAt (edW w P1 n1 c1 P2 n2 c2 j x s) w.heap.size P1 n1 c1 P2 n2 c2 j x s ∧ Below w.heap.size w (edW w P1 n1 c1 P2 n2 c2 j x s) := ⟨heap_alloc_new w _, al_below w _⟩
def edZ : Edt := ⟨[], [], 0, 0, 0⟩

/-- what is left to do, from Get on -/
def BackEnd (W : World) (lb : List UInt8) (e : Ending) (w' : World) : Prop := e = .returned (.bool true) ∧ Below W.heap.size W w'

set_option hygiene false in
local macro "back_tail" wt:ident : tactic => `(tactic| (
  have HGt := Lib.hid (edGet_any Ab nb cb lb $wt (up_lies HLb.out HT.out) hbc (by unfold maxLen; omega) (by omega))
  go_wp2_with fail
  with_reducible refine Calls.mono HGt.out ?_
  rintro e u1 ⟨hbu1, hyes, hno⟩
  have HU1 := Lib.hid (be_trans HT.out hbu1)
  clear hbu1 HGt
  cases hgot : gotEd lb with
  | none =>
    obtain rfl := hno hgot
    have HU2 := Lib.hid (be_trans HU1.out (ed_lie u1 none 0 0 none 0 0 0 0 0).2)
    have HS2 := Lib.hid (sameEd_yes (w := edW u1 none 0 0 none 0 0 0 0 0) (c1 := 0) (c2 := 0) (d1 := 0) (d2 := 0) edZ (Lies.none_ _ _ _ _ : Lies _ _ 4 none 0 (fcs [])) (Lies.none_ _ _ _ _ : Lies _ _ 1 none 0 (kvs [])) (Lies.none_ _ _ _ _ : Lies _ _ 4 none 0 (fcs [])) (Lies.none_ _ _ _ _ : Lies _ _ 1 none 0 (kvs [])) (by omega) (by omega))
    clear hno hyes
    go_wp2_with fail
    refine Calls.mono HS2.out ?_
    rintro e u4 ⟨rfl, hb4⟩
    have HF := Lib.hid (be_trans HU2.out hb4)
    clear hb4 HS2
    go_wp2
    go_ret
    exact ⟨rfl, HF.out⟩
  | some y =>
    obtain ⟨Y1, m1, d1, Y2, m2, d2, rfl, hm1, hm2, o1, o2⟩ := hyes y hgot
    obtain ⟨hok, hsz, hen⟩ := gotEd_back hgot
    have hby := (ed_lie u1 Y1 m1 d1 Y2 m2 d2 y.jn y.nx y.sq).2
    have HU2 := Lib.hid (be_trans HU1.out hby)
    have hlb := HLb.out.blen
    have HP2 := Lib.hid (edPut_any y m1 m2 d1 d2 Y1 Y2 (edW u1 Y1 m1 d1 Y2 m2 d2 y.jn y.nx y.sq) (up_lies (own_lies o1) hby) (up_lies (own_lies o2) hby) (fun f hf => szFi_ok (List.all_eq_true.1 hok f hf) (hsz.add f hf)) hsz (by omega) (by omega))
    have HOk := Lib.hid hok; have HEn := Lib.hid hen
    clear hno hyes hby o1 o2 hok hsz hen hgot hlb
    go_wp2_with fail
    refine Calls.mono HP2.out ?_
    rintro e u4 ⟨hb4, (⟨_, A4, c4, rfl, q1, q2, o4⟩ | ⟨hbad, _⟩)⟩
    case inr => rw [HOk.out] at hbad; cases hbad
    rw [HEn.out] at q1 o4
    rw [HEn.out]
    have HU4 := Lib.hid (be_trans HU2.out hb4)
    have hlen : lb.length = nb := HLb.out.blen
    rw [hlen] at q1 o4
    rw [hlen]
    have HS3 := Lib.hid (same_any A4 Ab nb nb c4 cb u4.heap.size lb lb u4 (own_lies o4) (up_lies HLb.out HU4.out) (by omega))
    rw [sameB_self] at HS3
    clear hb4 o4 HP2 hlen
    go_wp2_with fail
    with_reducible refine Calls.mono HS3.out ?_
    rintro e u5 ⟨rfl, q, rfl⟩
    have HF : Hid (Below W.heap.size W (u4.drewN q)) := below_drewN HU4.out q
    clear HS3
    go_wp2
    go_ret
    exact ⟨rfl, HF.out⟩))

set_option maxHeartbeats 4000000 in
theorem editsBack_walk (A1 : Option Addr) (n1 c1 : Nat) (A2 : Option Addr) (n2 c2 : Nat) (x : Edt) (Ab : Option Addr) (nb cb : Nat) (lb : List UInt8) (W : World)
    (ha : Lies W W.heap.size 4 A1 n1 (fcs x.add)) (hr : Lies W W.heap.size 1 A2 n2 (kvs x.rem)) (hsa : ∀ f ∈ x.add, szFi f) (hsx : SzEd x) (hc1 : n1 ≤ c1 ∧ c1 ≤ 140737488351232) (hc2 : n2 ≤ c2 ∧ c2 ≤ 140737488351232)
    (hlb0 : Lies W W.heap.size 1 Ab nb (lb.map bv)) (hbc : nb ≤ cb) (hcb : cb ≤ 140737488351232) :
    Calls Try.prog 3 #[edV A1 n1 c1 A2 n2 c2 x, .slice Ab nb cb] W fun e W' => e = .returned (.bool true) ∧ Below W.heap.size W W' := by
  obtain ⟨i0, hi, hz0, hz1, hz2⟩ := info_parts byte_info
  have HI := Lib.hid (show _ ∧ _ ∧ _ ∧ _ from ⟨hi, hz0, hz1, hz2⟩)
  clear hi hz0 hz1 hz2
  have HL0 : Hid (EdArg W none 0 [] A1 n1 A2 n2 x) := ⟨Lies.none_ _ _ _ _, ha, hr, (fun f hf => by cases hf), hsa, hsx⟩
  have HLb := Lib.hid hlb0
  obtain ⟨hE, hB⟩ := ed_lie W A1 n1 c1 A2 n2 c2 x.jn x.nx x.sq
  obtain ⟨W0, hW0⟩ : ∃ W0, edW W A1 n1 c1 A2 n2 c2 x.jn x.nx x.sq = W0 := ⟨_, rfl⟩
  rw [hW0] at hE hB
  obtain ⟨g, hg⟩ : ∃ g, W.heap.size = g := ⟨_, rfl⟩
  rw [hg] at hE
  have HB := Lib.hid hB; have HE := Lib.hid hE
  have HNa := Lib.hid ha.flen; have HNr := Lib.hid hr.klen
  clear ha hr hsa hsx hB hE hlb0
  unfold edV
  go_enter Try.func3, Try.ntmps3
  go_wp2_with fail
  have HG := Lib.hid hg
  clear hg hW0
  with_reducible refine Calls.mono (alive11_any W0) ?_
  rintro e w1 ⟨rfl, hb1⟩
  have H1 := Lib.hid (be_trans HB.out hb1)
  have HE1 := Lib.hid (HE.out.below hb1 HE.out.lt)
  have HA1 := Lib.hid (HL0.out.up H1.out)
  obtain ⟨k0, k1, k2, k3, k4⟩ := HE1.out.cells
  have HGr := Lib.hid (great11_any (c := 0) (c1 := c1) (c2 := c2) (j := x.jn) (x := x.nx) (s := x.sq) (P2 := A2) HA1.out.hl HA1.out.sl HA1.out.ha HA1.out.sa (by omega) (by omega) (by omega : n2 ≤ 140737488351232))
  clear hb1 HB HE HL0
  go_wp2_with fail
  with_reducible refine Calls.mono HGr.out ?_
  rintro e w2 ⟨b, rfl, hb3, hb2⟩
  have H2 := Lib.hid (be_trans H1.out hb2)
  have HE2 := Lib.hid (HE1.out.below hb2 HE1.out.lt)
  have HA2 := Lib.hid (HA1.out.up hb2)
  have H300 := Lib.hid hb3
  clear hb2 hb3 HGr HE1 HA1 k0 k1 k2 k3 k4 H1
  cases b with
  | true =>
    go_wp2_with fail
    with_reducible refine Calls.mono (alive11_any w2) ?_
    rintro e w3 ⟨rfl, hb3⟩
    have HF := Lib.hid (be_trans H2.out hb3)
    clear hb3
    go_wp2
    go_ret
    exact ⟨rfl, HF.out⟩
  | false =>
    have hn300 : 0 + n1 + n2 ≤ 300 := H300.out rfl
    by_cases hbig : 40000 < nb
    · have hbi : ((nb : Int) > 40000) := by omega
      go_wp2_with fail
      with_reducible refine Calls.mono (alive11_any w2) ?_
      rintro e w3 ⟨rfl, hb3⟩
      have HF := Lib.hid (be_trans H2.out hb3)
      clear hb3
      go_wp2
      go_ret
      exact ⟨rfl, HF.out⟩
    · have hbi : ¬ ((nb : Int) > 40000) := by omega
      obtain ⟨k0, k1, k2, k3, k4⟩ := HE2.out.cells
      go_wp2_with fail
      go_loopw [5, 6] (fun v i wr => ∃ k : Nat, k ≤ n1 ∧ i = .int .i64 (k : Int) ∧ v = .bool ((x.add.take k).all okFi) ∧ Below w2.heap.size w2 wr) (fun _ i _ => n1 - (intOf i).toNat)
      case atStart => exact ⟨0, Nat.zero_le _, rfl, rfl, Below.refl _ _⟩
      case round =>
        clear k0 k1 k2 k3 k4 hbi
        obtain ⟨k, hk, rfl, rfl, hb⟩ := hrel
        obtain ⟨k0, k1, k2, k3, k4⟩ := (HE2.out.below hb HE2.out.lt).cells
        by_cases hlt : k < n1
        · obtain ⟨b5, o5, f, rfl, _, hf, d0, d1, d2, d3⟩ := ((HA2.out.up hb).ha).file hlt
          have HM := Lib.hid (may11_any f wr (HA2.out.sa f (List.mem_of_getElem? hf)))
          have HSk : Hid ((x.add.take (k + 1)).all okFi = ((x.add.take k).all okFi && okFi f)) := by
            unfold Hid; rw [List.take_add_one, hf, List.all_append]; simp
          have hj0 : (0 : Int) ≤ (k : Int) := by omega
          have hj1 : (k : Int) < (n1 : Int) := by omega
          have HBw := Lib.hid hb
          obtain ⟨v, hv⟩ : ∃ v, (x.add.take k).all okFi = v := ⟨_, rfl⟩
          rw [hv] at HSk ⊢
          clear hf hb hv
          cases v with
          | false =>
            go_wp2
            go_roundw
            case rel => exact ⟨k + 1, hlt, by go_num, by rw [HSk.out]; rfl, HBw.out⟩
            case measure => simp [intOf]; omega
          | true =>
            obtain ⟨v2, hv2⟩ : ∃ v2, okFi f = v2 := ⟨_, rfl⟩
            rw [hv2] at HM HSk
            clear hv2
            go_wp2_with fail
            with_reducible refine Calls.mono HM.out ?_
            rintro e w3 ⟨rfl, hb3⟩
            have HB3 := Lib.hid (be_trans HBw.out hb3)
            clear hb3 HM
            go_wp2
            go_roundw
            case rel => exact ⟨k + 1, hlt, by go_num, by rw [HSk.out]; rfl, HB3.out⟩
            case measure => simp [intOf]; omega
        · have hnl : ¬ ((k : Int) < (n1 : Int)) := by omega
          rw [show x.add.take k = x.add from List.take_of_length_le (by have := HNa.out; omega), show x.add.all okFi = okEd x from rfl]
          have HE3 := Lib.hid (HE2.out.below hb HE2.out.lt); have HA3 := Lib.hid (HA2.out.up hb); have H3 := Lib.hid (be_trans H2.out hb)
          have HPu := Lib.hid (edPut_any x n1 n2 c1 c2 A1 A2 wr HA3.out.ha HA3.out.hr HA3.out.sa HA3.out.sx (by omega) (by omega))
          obtain ⟨v, hv⟩ : ∃ v, okEd x = v := ⟨_, rfl⟩
          rw [hv]
          have HV := Lib.hid hv
          clear hb hv HE2 HA2 H2
          go_wp2_with fail
          with_reducible refine Calls.mono HPu.out ?_
          rintro e w4 ⟨hb4, (⟨hok, A4, c4, rfl, q1, q2, o4⟩ | ⟨hbad, rfl⟩)⟩
          case inr =>
            obtain rfl : v = false := by rw [← HV.out, hbad]
            have HT := Lib.hid (be_trans H3.out hb4)
            clear hb4 HPu HE3 HA3 H3 k0 k1 k2 k3 k4 hnl hbad
            back_tail w4
          case inl =>
            obtain rfl : v = true := by rw [← HV.out, hok]
            have hlen := encEd_len hok
            rw [HNa.out, HNr.out] at hlen
            have hgx := gotEd_enc hok HA3.out.sx
            have hg0 := gotEd_more hok HA3.out.sx 0 []
            obtain ⟨X, hX⟩ : ∃ X, encEd x = X := ⟨_, rfl⟩
            rw [hX] at q1 o4 hlen hgx hg0 ⊢
            obtain ⟨N, hN⟩ : ∃ N, X.length = N := ⟨_, rfl⟩
            rw [hN] at q1 o4 hlen ⊢
            have HGx := Lib.hid hgx; have HG0 := Lib.hid hg0
            have H4 := Lib.hid (be_trans H3.out hb4)
            have HE4 := Lib.hid (HE3.out.below hb4 HE3.out.lt); have HA4 := Lib.hid (HA3.out.up hb4)
            have HO4 := Lib.hid (own_lies o4)
            have HGc := Lib.hid (edGet_any A4 N c4 X w4 HO4.out q1 q2 (by omega))
            clear hgx hg0 hX hN hb4 o4 HPu HE3 HA3 H3 k0 k1 k2 k3 k4 hok hnl
            go_wp2_with fail
            refine Calls.mono HGc.out ?_
            rintro e w5 ⟨hb5, hyes, _⟩
            obtain ⟨P1, m1, d1, P2, m2, d2, rfl, hm1, hm2, o51, o52⟩ := hyes x HGx.out
            have e1 : n1 = m1 := by rw [← (own_lies o51).flen, HNa.out]
            have e2 : n2 = m2 := by rw [← (own_lies o52).klen, HNr.out]
            subst e1 e2
            have H5 := Lib.hid (be_trans H4.out hb5)
            have HE5 := Lib.hid (HE4.out.below hb5 HE4.out.lt); have HA5 := Lib.hid (HA4.out.up hb5); have HO5 := Lib.hid (up_lies HO4.out hb5)
            obtain ⟨hey, hb6⟩ := ed_lie w5 P1 n1 d1 P2 n2 d2 x.jn x.nx x.sq
            have H6 := be_trans H5.out hb6
            have HE6 := HE5.out.below hb6 HE5.out.lt; have HA6 := HA5.out.up hb6; have HO6 := up_lies HO5.out hb6
            have HY1 := up_lies (own_lies o51) hb6; have HY2 := up_lies (own_lies o52) hb6
            have HTw := Lib.hid (twin_own A4 N c4 X _ HO6 (by omega))
            have HIt := Lib.hid (show _ ∧ _ ∧ _ ∧ _ ∧ _ ∧ _ ∧ _ from ⟨H6, HE6, HA6, HO6, HY1, HY2, hey⟩)
            clear hb5 hyes o51 o52 hey hb6 H6 HE6 HA6 HO6 HY1 HY2 HGc HE4 HA4 HO4 H4 H5 HE5 HA5 HO5
            go_wp2_with fail
            obtain ⟨w6, hw6⟩ : ∃ w6, edW w5 P1 n1 d1 P2 n2 d2 x.jn x.nx x.sq = w6 := ⟨_, rfl⟩
            rw [hw6] at HTw HIt
            rw [show w5.alloc (.cells #[.slice P1 n1 d1, .slice P2 n2 d2, .int .u32 (x.jn : Int), .int .u32 (x.nx : Int), .int .u64 (x.sq : Int)] 27) = w6 from hw6]
            obtain ⟨gy, hgy⟩ : ∃ gy, w5.heap.size = gy := ⟨_, rfl⟩
            rw [hgy] at HIt ⊢
            clear hw6 hgy
            with_reducible refine Calls.mono HTw.out ?_
            rintro e w7 ⟨g7, c7, rfl, q71, q72, o7, hb7⟩
            obtain ⟨hi, hz0, hz1, hz2⟩ := HI.out
            go_wp2_with (at_builtin; refine wpList_app _ rfl (.tmp 76) (.tmp 77) 28 rfl w6.heap.size 5 i0 _ 1 1 Try.underlying28 hi hz0 hz1 hz2 rfl (by decide) (.slice (some ⟨g7, 0, none⟩) N c7) N (X.map bv) rfl (o7.alloc _) (w7.heap.size + 1) (some ⟨w7.heap.size, 0, none⟩) 1 1 [.int .u8 0] rfl ?d1 ?d2 ?d3 ?d4 ?d5 ?_)
            case d1 => exact one_lies rfl _ _
            case d2 => intro u hu; simp at hu; subst hu; rfl
            case d3 => unfold maxLen; omega
            case d4 => omega
            case d5 => have := hb7.size; simp; omega
            intro v8 w8 o8 hg8 _
            have hb8 : Below w6.heap.size w6 w8 := (hb7.alloc hb7.size _).grown hg8 (by simp; have := hb7.size; omega) (fun j hj => (o7.lt j hj).1)
            have o8' : w8.ownsRow w6.heap.size 5 1 v8 (N + 1) ((X ++ [0]).map bv) := by rw [List.map_append]; exact o8
            obtain ⟨A8, c8, rfl, q81, q82, _⟩ := own_shape o8'
            obtain ⟨i1, i2, i3, i4, i5, i6, i7⟩ := HIt.out
            have H8 := Lib.hid (be_trans i1 hb8)
            have HE8 := Lib.hid (i2.below hb8 i2.lt); have HA8 := Lib.hid (i3.up hb8); have HO8 := Lib.hid (up_lies i4 hb8)
            have HY1 := Lib.hid (up_lies i5 hb8); have HY2 := Lib.hid (up_lies i6 hb8); have HEy := Lib.hid (i7.below hb8 i7.lt)
            have HG8 := Lib.hid (edGet_any A8 (N + 1) c8 (X ++ [0]) w8 (own_lies o8') q81 q82 (by omega))
            clear i1 i2 i3 i4 i5 i6 i7 HIt HTw hb7 hb8 o7 o8 o8' hg8 hi hz0 hz1 hz2
            go_wp2_with fail
            refine Calls.mono HG8.out ?_
            rintro e w9 ⟨hb9, _, hno⟩
            obtain rfl := hno HG0.out
            have hb10 := be_trans hb9 (ed_lie w9 none 0 0 none 0 0 0 0 0).2
            have HS10 := Lib.hid (sameEd_yes (c1 := d1) (c2 := d2) (d1 := c1) (d2 := c2) x (up_lies HY1.out hb10) (up_lies HY2.out hb10) (HA8.out.up hb10).ha (HA8.out.up hb10).hr (by omega) (by omega))
            have H10 := Lib.hid (be_trans H8.out hb10)
            have he10 := HE8.out.below hb10 HE8.out.lt; have hy10 := HEy.out.below hb10 HEy.out.lt
            have kk : ∀ {v : Value} {a : Addr}, (edW w9 none 0 0 none 0 0 0 0 0).cell? a = some v → (w9.alloc (.cells #[.slice none 0 0, .slice none 0 0, .int .u32 0, .int .u32 0, .int .u64 0] 27)).cell? a = some v := fun h => h
            have k0 := kk he10.cells.1; have k1 := kk he10.cells.2.1; have k2 := kk he10.cells.2.2.1; have k3 := kk he10.cells.2.2.2.1; have k4 := kk he10.cells.2.2.2.2
            have y0 := kk hy10.cells.1; have y1 := kk hy10.cells.2.1; have y2 := kk hy10.cells.2.2.1; have y3 := kk hy10.cells.2.2.2.1; have y4 := kk hy10.cells.2.2.2.2
            have hN5 : ¬ ((N : Int) < 5) := by omega
            clear hb9 hno HG8 he10 hy10 hb10 kk HY1 HY2 HEy HO8 HE8 HA8 H8
            go_wp2_with fail
            refine Calls.mono HS10.out ?_
            rintro e w11 ⟨rfl, hb11⟩
            have HT := Lib.hid (be_trans H10.out hb11)
            clear hb11 HS10 H10 k0 k1 k2 k3 k4 y0 y1 y2 y3 y4
            back_tail w11
end Go.Proofs.Ytbnndajpjhgafaa
