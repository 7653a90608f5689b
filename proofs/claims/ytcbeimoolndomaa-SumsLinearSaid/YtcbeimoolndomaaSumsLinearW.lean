/-
  The walk of SumsLinear.
-/
import Derived.Test.YtcbeimoolndomaaSumsSealedW
import Derived.Test.YtcbeimoolndomaaLaw2C
import Derived.Test.YtcbeimoolndomaaStep
import Derived.Test.YtcbeimoolndomaaRows3
import Derived.Deep.RegionWith
namespace Go.Proofs.Ytcbeimoolndomaa
open Go.RowKit
set_option linter.unusedVariables false

/-- no block of their own in common -/
def Dist (v u : Value) : Prop := ∀ k, v.ownBlock = some k → u.ownBlock ≠ some k
theorem Dist.symm {v u : Value} (h : Dist v u) : Dist u v := fun k hu hv => h k hv hu
theorem Dist.nil (v : Value) : Dist (.slice none 0 0) v := fun k h => by simp [Value.ownBlock] at h
theorem keep_row {wr w' : World} {o : Obj} {base e n : Nat} {u v : Value} {ys : List Value} (h : wr.ownsRow base e 1 u n ys) (hg : (wr.alloc o).grownBy w' v.ownBlock) (hd : Dist u v) : w'.ownsRow base e 1 u n ys :=
  (h.alloc o).kept hg (by
    cases hq : u.ownBlock with
    | none => exact .inl rfl
    | some k => exact .inr (fun e => hd k hq e.symm))
theorem new_dist {wr : World} {base e n : Nat} {u v v' : Value} {ys : List Value} (h : wr.ownsRow base e 1 u n ys) (hat : v'.ownBlock = v.ownBlock ∨ v'.ownBlock = some (wr.heap.size + 1)) (hd : Dist v u) : Dist v' u := by
  intro k hk hu
  rcases hat with e | e
  · rw [e] at hk; exact hd k hk hu
  · rw [e] at hk
    injection hk with hk
    have := (h.lt k hu).2
    omega

/-- four lists of the call's own, and a table -/
structure L4 (w : World) (g : Nat) (na nb nc nd : Nat) (la lb lc ld : List UInt8) (va vb vc vd : Value) (wr : World) : Prop where
  a : wr.ownsRow w.heap.size 5 1 va na (la.map bv)
  b : wr.ownsRow w.heap.size 5 1 vb nb (lb.map bv)
  c : wr.ownsRow w.heap.size 5 1 vc nc (lc.map bv)
  d : wr.ownsRow w.heap.size 5 1 vd nd (ld.map bv)
  ab : Dist va vb
  ac : Dist va vc
  ad : Dist va vd
  bc : Dist vb vc
  bd : Dist vb vd
  cd : Dist vc vd
  t : Tab wr g 23 Crc.tab
  low : Below w.heap.size w wr
section
variable {w wr w1 : World} {g na nb nc nd : Nat} {la lb lc ld : List UInt8} {va vb vc vd v' : Value} {o : Obj}
theorem L4.rot (h : L4 w g na nb nc nd la lb lc ld va vb vc vd wr) : L4 w g nb nc nd na lb lc ld la vb vc vd va wr :=
  ⟨h.b, h.c, h.d, h.a, h.bc, h.bd, h.ab.symm, h.cd, h.ac.symm, h.ad.symm, h.t, h.low⟩
theorem L4.drew (h : L4 w g na nb nc nd la lb lc ld va vb vc vd wr) : L4 w g na nb nc nd la lb lc ld va vb vc vd wr.drew :=
  ⟨h.a.drew, h.b.drew, h.c.drew, h.d.drew, h.ab, h.ac, h.ad, h.bc, h.bd, h.cd, h.t.drew, below_drew h.low⟩
theorem L4.app (h : L4 w g na nb nc nd la lb lc ld va vb vc vd wr) (x : UInt8) (hown : w1.ownsRow w.heap.size 5 1 v' (na + 1) (la.map bv ++ [.int .u8 (x.toNat : Int)]))
    (hg : (wr.alloc o).grownBy w1 va.ownBlock) (hat : v'.ownBlock = va.ownBlock ∨ v'.ownBlock = some (wr.heap.size + 1)) : L4 w g (na + 1) nb nc nd (la ++ [x]) lb lc ld v' vb vc vd w1 := by
  have hs := h.low.size
  refine ⟨by rw [List.map_append]; exact hown, keep_row h.b hg h.ab.symm, keep_row h.c hg h.ac.symm, keep_row h.d hg h.ad.symm, new_dist h.b hat h.ab, new_dist h.c hat h.ac, new_dist h.d hat h.ad, h.bc, h.bd, h.cd, ?_, ?_⟩
  · exact (h.t.alloc o).grown hg (h.t.not_own h.a (by decide))
  · exact (h.low.alloc hs o).grown hg (by simp; omega) (fun k hk => (h.a.lt k hk).1)
end
theorem Rows3.at_ {w : World} {B n b o i : Nat} {l : List (UInt8 × UInt8 × UInt8)} {p : UInt8 × UInt8 × UInt8} (h : Rows3 w B (some ⟨b, o, none⟩) n l) (hp : l[i]? = some p) :
    w.cell? ⟨b, o + i * 3, none⟩ = some (bv p.1) ∧ w.cell? ⟨b, o + i * 3 + 1, none⟩ = some (bv p.2.1) ∧ w.cell? ⟨b, o + i * 3 + 2, none⟩ = some (bv p.2.2) := by
  obtain ⟨b', o', e, _, r⟩ := h.spot i p hp
  injection e with e
  injection e with e1 e2
  subst e1 e2
  exact r
theorem three_snoc (l : List (UInt8 × UInt8 × UInt8)) (p : UInt8 × UInt8 × UInt8) : Crc.three (l ++ [p]) = Crc.three l ++ [p.1 ^^^ p.2.1 ^^^ p.2.2] := by simp [Crc.three]

set_option maxHeartbeats 8000000 in
set_option maxRecDepth 100000 in
theorem sumsLinear_walk (x y : Nat) (A : Option Addr) (n c : Nat) (l : List (UInt8 × UInt8 × UInt8)) (w : World) (hx : x < 256) (hy : y < 256) (L : Rows3 w w.heap.size A n l) (hnc : n ≤ c) (hc : c ≤ 140737488351232) :
    Calls Try.prog 7 #[.int .u8 (x : Int), .int .u8 (y : Int), .slice A n c] w fun e w' => e = .returned (.bool true) ∧ Below w.heap.size w w' := by
  have HL := Lib.hid L; clear L
  by_cases hbig : 30000 < n
  · have hg : decide ((30000 : Int) < (n : Int)) = true := by simp; omega
    go_enter Try.func7, Try.ntmps7
    go_wp2_with fail
    refine (alive2_any w).mono ?_
    rintro e w1 ⟨rfl, hb1⟩
    have H1 := Lib.hid hb1; clear hb1
    go_wp2_with fail
    refine (alive2_any w1).mono ?_
    rintro e w2 ⟨rfl, hb2⟩
    have H2 := Lib.hid (H1.out.trans (hb2.mono H1.out.size)); clear hb2
    go_wp2
    go_ret
    exact ⟨rfl, H2.out⟩
  · have hg : decide ((30000 : Int) < (n : Int)) = false := by simp; omega
    obtain ⟨i0, hi, hz0, hz1, hz2⟩ := info_parts byte_info
    go_enter Try.func7, Try.ntmps7
    go_wp2_with fail
    refine (alive2_any w).mono ?_
    rintro e w1 ⟨rfl, hb1⟩
    have H1 := Lib.hid hb1; clear hb1
    go_wp2_with fail
    refine (table_any w1).mono ?_
    rintro e w2 ⟨rfl, hb2⟩
    have hb2' := H1.out.trans (hb2.mono H1.out.size)
    have HT := Lib.hid (lay_tab w2 Crc.tab)
    have HB := Lib.hid (lay_below hb2' hb2'.size Crc.tab)
    clear hb2 hb2' H1
    go_wp2_with (first
      | refine wpList_lay rfl rfl ?_
      | refine wpList_laid rfl _ _ rfl noughts Crc.tab rfl rfl noughts_len Crc.tab_len ?_)
    obtain ⟨g, hg0⟩ : ∃ g, w2.heap.size = g := ⟨_, rfl⟩
    rw [hg0] at HT ⊢
    generalize lay w2 Crc.tab = W at *
    clear hg0
    go_loopw [8, 9, 10, 11, 12] (fun va vb vc vd i wr => ∃ k : Nat, k ≤ n ∧ i = .int .i64 (k : Int) ∧ L4 w g k k k k ((l.take k).map (·.1)) ((l.take k).map (·.2.1)) ((l.take k).map (·.2.2)) (Crc.three (l.take k)) va vb vc vd wr) (fun _ _ _ _ i _ => n - (intOf i).toNat)
    case atStart => exact ⟨0, Nat.zero_le _, rfl, own_nil _ _ _, own_nil _ _ _, own_nil _ _ _, own_nil _ _ _, Dist.nil _, Dist.nil _, Dist.nil _, Dist.nil _, Dist.nil _, Dist.nil _, HT.out, HB.out⟩
    case round =>
      clear HT HB
      obtain ⟨k, hk, rfl, h4⟩ := hrel
      obtain ⟨Aa, ca, rfl, _, hca, _⟩ := own_shape h4.a
      obtain ⟨Ab, cb, rfl, _, hcb, _⟩ := own_shape h4.b
      obtain ⟨Ac, cc, rfl, _, hcc, _⟩ := own_shape h4.c
      obtain ⟨Ad, cd, rfl, _, hcd, _⟩ := own_shape h4.d
      have hszr := h4.low.size
      generalize ela : (l.take k).map (·.1) = la at h4
      generalize elb : (l.take k).map (·.2.1) = lb at h4
      generalize elc : (l.take k).map (·.2.2) = lc at h4
      generalize eld : Crc.three (l.take k) = ld at h4
      have EA := Lib.hid ela; have EB := Lib.hid elb; have EC := Lib.hid elc; have ED := Lib.hid eld
      have H := Lib.hid h4
      clear h4 ela elb elc eld
      have hll := HL.out.len
      by_cases hlt : k < n
      · obtain ⟨p, hp⟩ : ∃ p, l[k]? = some p := ⟨_, List.getElem?_eq_getElem (by omega)⟩
        obtain ⟨bb, o, rfl, _⟩ := HL.out.spot k p hp
        have ht : l.take (k + 1) = l.take k ++ [p] := by rw [List.take_add_one, hp]; rfl
        have HK := Lib.hid ht; have HP := Lib.hid hp
        clear ht hp
        have KC : Hid (∀ u, Below w.heap.size w u → u.cell? ⟨bb, o + k * 3, none⟩ = some (.int .u8 (p.1.toNat : Int)) ∧ u.cell? ⟨bb, o + k * 3 + 1, none⟩ = some (.int .u8 (p.2.1.toNat : Int)) ∧ u.cell? ⟨bb, o + k * 3 + 2, none⟩ = some (.int .u8 (p.2.2.toNat : Int))) := fun u hu => (HL.out.below hu).at_ HP.out
        obtain ⟨c0, c1, c2⟩ := KC.out _ H.out.low
        have q0 := p.1.toNat_lt
        have q1 := p.2.1.toNat_lt
        have q2 := p.2.2.toNat_lt
        have hk3 : (0 : Int) ≤ (k : Int) := by omega
        have hk4 : (k : Int) < (n : Int) := by omega
        go_wp2_with (at_builtin; refine wpList_app _ rfl (.tmp 28) (.tmp 34) 26 rfl w.heap.size 5 i0 _ 1 1 Try.underlying26 hi hz0 hz1 hz2 rfl (by decide) (.slice Aa k ca) k (la.map bv) rfl (H.out.a.alloc _) (wr.heap.size + 1) (some ⟨wr.heap.size, 0, none⟩) 1 1 [.int .u8 (p.1.toNat : Int)] rfl ?c1 ?c2 ?c3 ?c4 ?c5 ?_)
        case c1 => exact one_lies rfl _ _
        case c2 => intro u hu; simp at hu; subst hu; rfl
        case c3 => unfold maxLen; omega
        case c4 => omega
        case c5 => simp; omega
        intro v2 w3 hown2 hg2 hat2
        have H2 := Lib.hid (H.out.app p.1 hown2 hg2 hat2).rot
        obtain ⟨Aa2, ca2, rfl, _, hca2, _⟩ := own_shape hown2
        have hs3 := H2.out.low.size
        clear c0 c1 c2 hown2 hg2 hat2 H hszr
        obtain ⟨_, c1, _⟩ := KC.out _ H2.out.low
        go_wp2_with (at_builtin; refine wpList_app _ rfl (.tmp 36) (.tmp 42) 26 rfl w.heap.size 5 i0 _ 1 1 Try.underlying26 hi hz0 hz1 hz2 rfl (by decide) (.slice Ab k cb) k (lb.map bv) rfl (H2.out.a.alloc _) (w3.heap.size + 1) (some ⟨w3.heap.size, 0, none⟩) 1 1 [.int .u8 (p.2.1.toNat : Int)] rfl ?d1 ?d2 ?d3 ?d4 ?d5 ?_)
        case d1 => exact one_lies rfl _ _
        case d2 => intro u hu; simp at hu; subst hu; rfl
        case d3 => unfold maxLen; omega
        case d4 => omega
        case d5 => simp; omega
        intro v3 w4 hown3 hg3 hat3
        have H3 := Lib.hid (H2.out.app p.2.1 hown3 hg3 hat3).rot
        obtain ⟨Ab2, cb2, rfl, _, hcb2, _⟩ := own_shape hown3
        have hs4 := H3.out.low.size
        clear c1 hown3 hg3 hat3 H2 hs3
        obtain ⟨_, _, c2⟩ := KC.out _ H3.out.low
        go_wp2_with (at_builtin; refine wpList_app _ rfl (.tmp 44) (.tmp 50) 26 rfl w.heap.size 5 i0 _ 1 1 Try.underlying26 hi hz0 hz1 hz2 rfl (by decide) (.slice Ac k cc) k (lc.map bv) rfl (H3.out.a.alloc _) (w4.heap.size + 1) (some ⟨w4.heap.size, 0, none⟩) 1 1 [.int .u8 (p.2.2.toNat : Int)] rfl ?e1 ?e2 ?e3 ?e4 ?e5 ?_)
        case e1 => exact one_lies rfl _ _
        case e2 => intro u hu; simp at hu; subst hu; rfl
        case e3 => unfold maxLen; omega
        case e4 => omega
        case e5 => simp; omega
        intro v4 w5 hown4 hg4 hat4
        have H4 := Lib.hid (H3.out.app p.2.2 hown4 hg4 hat4).rot
        obtain ⟨Ac2, cc2, rfl, _, hcc2, _⟩ := own_shape hown4
        have hs5 := H4.out.low.size
        clear c2 hown4 hg4 hat4 H3 hs4
        obtain ⟨z, hz⟩ : ∃ z : UInt8, z = p.1 ^^^ p.2.1 ^^^ p.2.2 := ⟨_, rfl⟩
        have hzn : z.toNat = (p.1.toNat ^^^ p.2.1.toNat) ^^^ p.2.2.toNat := by rw [hz, UInt8.toNat_xor, UInt8.toNat_xor]
        have x1 := u8_xor_nat p.1.toNat p.2.1.toNat q0 q1
        have x2 := u8_xor_nat (p.1.toNat ^^^ p.2.1.toNat) p.2.2.toNat (Nat.xor_lt_two_pow (n := 8) q0 q1) q2
        rw [← hzn] at x2
        generalize p.1.toNat ^^^ p.2.1.toNat = z1 at x1 x2
        have HZ := Lib.hid hz
        clear hzn hz
        go_wp2_with fail
        go_region_held3 (fun w' => w'.cell? ⟨bb, o + k * 3, none⟩ = some (.int .u8 (p.1.toNat : Int)) ∧ w'.cell? ⟨bb, o + k * 3 + 1, none⟩ = some (.int .u8 (p.2.1.toNat : Int)) ∧ w'.cell? ⟨bb, o + k * 3 + 2, none⟩ = some (.int .u8 (p.2.2.toNat : Int)))
          (first | exact KC.out _ hlow6 | exact KC.out _ H4.out.low | exact KC.out _ (below_drew H4.out.low) | exact KC.out _ (Below.alloc (below_drew H4.out.low) hs5 _))
          (first
          | (refine step_app _ (by rfl) (.tmp 52) (.tmp 70) 26 (by rfl) w.heap.size 5 i0 _ 1 1 Try.underlying26 hi hz0 hz1 hz2 rfl (by decide) (.slice Ad k cd) k (ld.map bv) (by rfl) (World.ownsRow.alloc (w := w5.drew) H4.out.a.drew _) (w5.heap.size + 1) (some ⟨w5.heap.size, 0, none⟩) 1 1 [.int .u8 (z.toNat : Int)] (by rfl) (one_lies (w := w5.drew) rfl _ _) (by intro u hu; simp at hu; subst hu; rfl) (by unfold maxLen; omega) (by omega) (by simp; omega) ?_; intro v5 w6 hown5 hg5 hat5; have hat6 : v5.ownBlock = (Value.slice Ad k cd).ownBlock ∨ v5.ownBlock = some (w5.drew.heap.size + 1) := (by simpa using hat5); have hlow6 := (H4.out.drew.app z hown5 hg5 hat6).low)
          | fail)
        have H5 := Lib.hid (H4.out.drew.app z hown5 hg5 hat6).rot
        have G5 : Hid (L4 w g (k + 1) (k + 1) (k + 1) (k + 1) ((l.take (k + 1)).map (·.1)) ((l.take (k + 1)).map (·.2.1)) ((l.take (k + 1)).map (·.2.2)) (Crc.three (l.take (k + 1))) (.slice Aa2 (k + 1) ca2) (.slice Ab2 (k + 1) cb2) (.slice Ac2 (k + 1) cc2) v5 w6) := by
          show L4 _ _ _ _ _ _ _ _ _ _ _ _ _ _ _
          rw [HK.out, List.map_append, List.map_append, List.map_append, three_snoc, EA.out, EB.out, EC.out, ED.out, ← HZ.out]
          exact H5.out
        clear hown5 hg5 hat5 hat6 hlow6 H4 H5 hs5 KC x1 x2
        go_wp2
        go_roundw
        case rel => exact ⟨k + 1, hlt, by go_num, G5.out⟩
        case measure => simp [intOf]; omega
      · obtain rfl : n = k := by omega
        have htake : l.take n = l := List.take_of_length_le (by omega)
        have ea := EA.out; have eb := EB.out; have ec := EC.out; have ed := ED.out
        rw [htake] at ea eb ec ed
        obtain ⟨tx, htx⟩ : ∃ t, Crc.tab[x]? = some t := ⟨_, List.getElem?_eq_getElem (by rw [Crc.tab_len]; exact hx)⟩
        obtain ⟨ty, hty⟩ : ∃ t, Crc.tab[y]? = some t := ⟨_, List.getElem?_eq_getElem (by rw [Crc.tab_len]; exact hy)⟩
        have hxy : x ^^^ y < 256 := Nat.xor_lt_two_pow (n := 8) hx hy
        obtain ⟨txy, htxy⟩ : ∃ t, Crc.tab[x ^^^ y]? = some t := ⟨_, List.getElem?_eq_getElem (by rw [Crc.tab_len]; exact hxy)⟩
        have htt := Crc.tab_xor hx hy
        rw [List.getD_eq_getElem?_getD, List.getD_eq_getElem?_getD, List.getD_eq_getElem?_getD, htx, hty, htxy] at htt
        simp only [Option.getD_some] at htt
        have b1 := u8_xor_nat x y hx hy
        have b2 := u32_xor_nat tx ty (Crc.small_tab tx (List.mem_of_getElem? htx)) (Crc.small_tab ty (List.mem_of_getElem? hty))
        rw [htt] at b2
        have d1 := H.out.t.cell htx
        have d2 := H.out.t.cell hty
        have d3 := H.out.t.cell htxy
        generalize x ^^^ y = xy at *
        have hon := Crc.on_three 0 (by omega) l
        rw [ea, eb, ec, ed] at hon
        have la1 := Crc.on_lt Crc.tab 0 la
        have lb1 := Crc.on_lt Crc.tab 0 lb
        have lc1 := Crc.on_lt Crc.tab 0 lc
        have C1 : Hid (∀ N, Calls Try.prog 17 #[.pointer (some ⟨g, 0, none⟩), .slice Aa n ca] (wr.drewN N) fun e w' => e = .returned (.int .u32 ((Crc.on Crc.tab 0 la : Nat) : Int)) ∧ w' = wr.drewN N) := fun N =>
          of_any g n ca _ _ la Crc.tab _ (H.out.t.drewN N) Crc.tab_len Crc.small_tab ((Lies.of_own H.out.a).drewN N) (by omega)
        have C2 : Hid (∀ N, Calls Try.prog 17 #[.pointer (some ⟨g, 0, none⟩), .slice Ab n cb] (wr.drewN N) fun e w' => e = .returned (.int .u32 ((Crc.on Crc.tab 0 lb : Nat) : Int)) ∧ w' = wr.drewN N) := fun N =>
          of_any g n cb _ _ lb Crc.tab _ (H.out.t.drewN N) Crc.tab_len Crc.small_tab ((Lies.of_own H.out.b).drewN N) (by omega)
        have C3 : Hid (∀ N, Calls Try.prog 17 #[.pointer (some ⟨g, 0, none⟩), .slice Ac n cc] (wr.drewN N) fun e w' => e = .returned (.int .u32 ((Crc.on Crc.tab 0 lc : Nat) : Int)) ∧ w' = wr.drewN N) := fun N =>
          of_any g n cc _ _ lc Crc.tab _ (H.out.t.drewN N) Crc.tab_len Crc.small_tab ((Lies.of_own H.out.c).drewN N) (by omega)
        have C4 : Hid (∀ N, Calls Try.prog 17 #[.pointer (some ⟨g, 0, none⟩), .slice Ad n cd] (wr.drewN N) fun e w' => e = .returned (.int .u32 ((Crc.on Crc.tab 0 ld : Nat) : Int)) ∧ w' = wr.drewN N) := fun N =>
          of_any g n cd _ _ ld Crc.tab _ (H.out.t.drewN N) Crc.tab_len Crc.small_tab ((Lies.of_own H.out.d).drewN N) (by omega)
        generalize Crc.on Crc.tab 0 la = ra at *
        generalize Crc.on Crc.tab 0 lb = rb at *
        generalize Crc.on Crc.tab 0 lc = rc at *
        generalize Crc.on Crc.tab 0 ld = rd at *
        have b3 := u32_xor_nat ra rb la1 lb1
        have b4 := u32_xor_nat (ra ^^^ rb) rc (Nat.xor_lt_two_pow (n := 32) la1 lb1) lc1
        rw [hon] at b4
        generalize ra ^^^ rb = rab at b3 b4
        have i1 : (x : Int) < 256 := by omega
        have i2 : (y : Int) < 256 := by omega
        have i3 : (xy : Int) < 256 := by omega
        have j1 : (0 : Int) ≤ (x : Int) := by omega
        have j2 : (0 : Int) ≤ (y : Int) := by omega
        have j3 : (0 : Int) ≤ (xy : Int) := by omega
        have HB9 := Lib.hid H.out.low
        clear hon ea eb ec ed EA EB EC ED htake htx hty htxy htt H HL hll hlt
        go_wp2_with fail
        go_quiet (first
          | (go_at_call_of 17 (Value.slice Aa n ca); exact Calls.quiet_of_same (C1.out _))
          | (go_at_call_of 17 (Value.slice Ab n cb); exact Calls.quiet_of_same (C2.out _))
          | (go_at_call_of 17 (Value.slice Ac n cc); exact Calls.quiet_of_same (C3.out _))
          | (go_at_call_of 17 (Value.slice Ad n cd); exact Calls.quiet_of_same (C4.out _)))
        go_wp2
        go_ret
        exact ⟨by simp, below_drewN HB9.out _⟩
end Go.Proofs.Ytcbeimoolndomaa
