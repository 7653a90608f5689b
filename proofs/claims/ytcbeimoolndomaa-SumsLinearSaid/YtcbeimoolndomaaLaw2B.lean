/-
  What laws of layer 2 share: a table in a variable of its own; a byte, so often; 'alive', some answers that the document fixes.
-/
import Derived.Test.YtcbeimoolndomaaLaw2A
import Derived.Lib.SlBytesConst
namespace Go.Proofs.Ytcbeimoolndomaa
open Go.RowKit
set_option linter.unusedVariables false

/-- a table, laid into new memory -/
def lay (w : World) (T : List Nat) : World := w.alloc (.cells (arr T) 23)
theorem lay_tab (w : World) (T : List Nat) : Tab (lay w T) w.heap.size 23 T := Tab.new w _ T
theorem lay_size (w : World) (T : List Nat) : (lay w T).heap.size = w.heap.size + 1 := by simp [lay]
theorem lay_below {B : Nat} {a w : World} (h : Below B a w) (hB : B ≤ w.heap.size) (T : List Nat) : Below B a (lay w T) := h.alloc hB _
theorem Tab.lay {w : World} {g : Nat} {t : TypeId} {T : List Nat} (h : Tab w g t T) (T' : List Nat) : Tab (lay w T') g t T := h.alloc _
theorem Lies.lay {w : World} {B k n : Nat} {A : Option Addr} {xs : List Value} (h : Lies w B k A n xs) (hB : B ≤ w.heap.size) (T : List Nat) : Lies (Go.Proofs.Ytcbeimoolndomaa.lay w T) B k A n xs := h.alloc hB _
theorem wpList_lay {ops : Array Oper} {rest : List Oper} {o : Oper} {a : Act} {w : World} {Q : Exit → Act → World → Prop} (hg : o.guard = none) (ho : o.op = .alloc 23)
    (h : wpList Try.prog ops Q rest (a.put o.dst (.pointer (some ⟨w.heap.size, 0, none⟩))) (lay w noughts)) : wpList Try.prog ops Q (o :: rest) a w := wpList_newTab hg ho h
theorem wpList_laid {ops : Array Oper} {rest : List Oper} {o : Oper} {a : Act} {w : World} {Q : Exit → Act → World → Prop} (hgd : o.guard = none) (x y : Operand) (ho : o.op = .store 23 x y) (T T' : List Nat)
    (hx : a.eval x = .pointer (some ⟨w.heap.size, 0, none⟩)) (hy : a.eval y = .agg (arr T')) (hl : T.length = 256) (hl' : T'.length = 256)
    (h : wpList Try.prog ops Q rest (a.put o.dst undef) (lay w T')) : wpList Try.prog ops Q (o :: rest) a (lay w T) := by
  refine wpList_storeTab hgd x y ho w.heap.size hx T' hy T (lay_tab w T) hl hl' ?_
  have e : (lay w T).setRow w.heap.size (arr T') = lay w T' := World.setRow_alloc_new w _ _ _
  rw [e]; exact h
theorem built_none : Try.prog.built 23 [] = some (arr noughts) := by kernel_rfl
/-- a table of noughts, by value -/
theorem wpList_buildNone {ops : Array Oper} {rest : List Oper} {o : Oper} {a : Act} {w : World} {Q : Exit → Act → World → Prop} (hg : o.guard = none) (ho : o.op = .build 23 #[])
    (h : wpList Try.prog ops Q rest (a.put o.dst (.agg (arr noughts))) w) : wpList Try.prog ops Q (o :: rest) a w := by
  have e : Try.prog.built 23 ((#[] : Array (Nat × Operand)).map fun (i, x) => (i, a.eval x)).toList = some (arr noughts) := by
    rw [Array.map_empty]; exact built_none
  refine wpList_build hg _ _ ho (by rw [e]; rfl) ?_
  rw [e]; exact h

theorem small_noughts : Crc.Small noughts := by
  intro x hx
  unfold noughts at hx
  have := List.eq_of_mem_replicate hx
  omega

/-- of bytes that a literal lays -/
theorem of_lit (l : List UInt8) (g r : Nat) (T : List Nat) (w : World) (fz : Nat × Nat) (hT : Tab w g 23 T) (hl : T.length = 256) (hs : Crc.Small T) (hll : l.length ≤ 1000) (hr : Crc.on T 0 l = r) :
    Calls Try.prog 17 #[.pointer (some ⟨g, 0, none⟩), .slice (some ⟨w.heap.size, 0, none⟩) l.length l.length] (w.alloc (.cells (l.map bv).toArray 5 fz)) fun e w' => e = .returned (.int .u32 (r : Int)) ∧ Below w.heap.size w w' := by
  have h := of_any g l.length l.length _ _ l T _ (hT.alloc (.cells (l.map bv).toArray 5 fz)) hl hs (lit_lies_fz w l fz) (by omega)
  rw [hr] at h
  exact h.mono fun e w' ⟨he, hb⟩ => ⟨he, by rw [hb]; exact (Below.refl _ _).alloc (Nat.le_refl _) _⟩
theorem on_lit (l : List UInt8) (g sum r : Nat) (T : List Nat) (w : World) (fz : Nat × Nat) (hT : Tab w g 23 T) (hl : T.length = 256) (hs : Crc.Small T) (hsum : sum < 4294967296) (hll : l.length ≤ 1000) (hr : Crc.on T sum l = r) :
    Calls Try.prog 19 #[.pointer (some ⟨g, 0, none⟩), .int .u32 (sum : Int), .slice (some ⟨w.heap.size, 0, none⟩) l.length l.length] (w.alloc (.cells (l.map bv).toArray 5 fz)) fun e w' => e = .returned (.int .u32 (r : Int)) ∧ Below w.heap.size w w' := by
  have h := on_any g sum l.length l.length _ _ l T _ (hT.alloc (.cells (l.map bv).toArray 5 fz)) hl hs hsum (lit_lies_fz w l fz) (by omega)
  rw [hr] at h
  exact h.mono fun e w' ⟨he, hb⟩ => ⟨he, by rw [hb]; exact (Below.refl _ _).alloc (Nat.le_refl _) _⟩

set_option maxHeartbeats 1000000 in
/-- a byte, so often -/
theorem repeat_any (x : UInt8) (n : Nat) (w : World) (hn : n ≤ 1000) :
    Calls Try.prog 24 #[.int .u8 (x.toNat : Int), .int .i64 (n : Int)] w fun e w' => Got w n (List.replicate n x) e w' := by
  obtain ⟨i0, hi, hz0, hz1, hz2⟩ := info_parts byte_info
  go_enter Try.func24, Try.ntmps24
  go_wp2
  go_loopw [5, 6] (fun v i wr => ∃ k : Nat, k ≤ n ∧ i = .int .i64 (k : Int) ∧ wr.ownsRow w.heap.size 5 1 v k ((List.replicate k x).map bv) ∧ Below w.heap.size w wr) (fun _ i _ => n - (intOf i).toNat)
  case atStart => exact ⟨0, Nat.zero_le _, rfl, ⟨rfl, .inl ⟨rfl, rfl⟩⟩, Below.refl _ _⟩
  case round =>
    obtain ⟨k, hk, rfl, hown, hb⟩ := hrel
    have hbs := hb.size
    obtain ⟨A1, c1, rfl, hnc1, hcm1, hA1⟩ := own_shape hown
    by_cases hlt : k < n
    · have HX := Lib.hid (show List.replicate (k + 1) x = List.replicate k x ++ [x] from List.replicate_succ')
      have hxl := x.toNat_lt
      go_wp2_with (at_builtin; refine wpList_app _ rfl (.tmp 12) (.tmp 14) 26 rfl w.heap.size 5 i0 _ 1 1 Try.underlying26 hi hz0 hz1 hz2 rfl (by decide) (.slice A1 k c1) k ((List.replicate k x).map bv) rfl (hown.alloc _) (wr.heap.size + 1) (some ⟨wr.heap.size, 0, none⟩) 1 1 [.int .u8 (x.toNat : Int)] rfl ?c1 ?c2 ?c3 ?c4 ?c5 ?_)
      case c1 => exact one_lies rfl _ _
      case c2 => intro u hu; simp at hu; subst hu; rfl
      case c3 => unfold maxLen; omega
      case c4 => omega
      case c5 => simp; omega
      intro v2 w2 hown2 hg2 _
      have hb2 : Below w.heap.size w w2 := (hb.alloc hbs _).grown hg2 (by simp; omega) (fun j hj => (hown.lt j hj).1)
      have hown3 : w2.ownsRow w.heap.size 5 1 v2 (k + 1) ((List.replicate (k + 1) x).map bv) := by rw [HX.out, List.map_append, List.map_replicate]; exact hown2
      clear hown2 hg2 hown HX
      go_wp2
      go_roundw
      case rel => exact ⟨k + 1, hlt, by go_num, hown3, hb2⟩
      case measure => simp [intOf]; omega
    · obtain rfl : n = k := by omega
      go_wp2
      go_ret
      exact got_of hown hb
/-- of nothing -/
theorem of_nil (g : Nat) (w : World) (hT : Tab w g 23 Crc.tab) :
    Calls Try.prog 17 #[.pointer (some ⟨g, 0, none⟩), .slice none 0 0] w fun e w' => e = .returned (.int .u32 0) ∧ Below w.heap.size w w' :=
  (of_any g 0 0 0 none [] Crc.tab w hT Crc.tab_len Crc.small_tab (Lies.none_ _ _ _ _) (by omega)).mono fun e w' ⟨he, hw⟩ => ⟨he, by rw [hw]; exact Below.refl _ _⟩
theorem of_none_lit (v : Value) (w : World) (o : Obj) :
    Calls Try.prog 17 #[.pointer none, v] (w.alloc o) fun e w' => e = .returned (.int .u32 0) ∧ Below w.heap.size w w' :=
  (of_none v _).mono fun e w' ⟨he, hw⟩ => ⟨he, by rw [hw]; exact (Below.refl _ _).alloc (Nat.le_refl _) _⟩
theorem repeat_of (x : UInt8) (g r : Nat) (w : World) (A : Option Addr) (c base : Nat) (hT : Tab w g 23 Crc.tab) (h : w.ownsRow base 5 1 (.slice A 32 c) 32 ((List.replicate 32 x).map bv)) (hr : Crc.on Crc.tab 0 (List.replicate 32 x) = r) :
    Calls Try.prog 17 #[.pointer (some ⟨g, 0, none⟩), .slice A 32 c] w fun e w' => e = .returned (.int .u32 (r : Int)) ∧ w' = w := by
  have := of_any g 32 c _ A (List.replicate 32 x) Crc.tab w hT Crc.tab_len Crc.small_tab (Lies.of_own h) (by omega)
  rw [hr] at this
  exact this

set_option maxHeartbeats 2000000 in
set_option maxRecDepth 100000 in
theorem alive2_any (w : World) : Calls Try.prog 22 #[] w fun e w' => e = .returned (.bool true) ∧ Below w.heap.size w w' := by
  have kc := fun (w : World) (C : Array Value) (n c : Nat) => Lib.run_convert_bytes_const (P := Try.prog) w 26 5 C n c Try.underlying26 Try.underlying5
  go_enter Try.func22, Try.ntmps22
  go_wp2_with fail
  refine (table_any w).mono ?_
  rintro e w1 ⟨rfl, hb1⟩
  have TA := ((lay_tab w1 Crc.tab).lay noughts)
  have TN := lay_tab (lay w1 Crc.tab) noughts
  rw [lay_size] at TN
  have HB := Lib.hid (lay_below (lay_below hb1 hb1.size Crc.tab) (by rw [lay_size]; have := hb1.size; omega) noughts)
  have hc0 := TA.cell (k := 0) (x := 0) (by decide +kernel)
  have hc128 := TA.cell (k := 128) (x := 2197175160) (by decide +kernel)
  have hsz : (lay w1 Crc.tab).heap.size = w1.heap.size + 1 := lay_size _ _
  have hsz2 : (lay (lay w1 Crc.tab) noughts).heap.size = w1.heap.size + 1 + 1 := by rw [lay_size, lay_size]
  have HA := Lib.hid TA; have HN := Lib.hid TN
  clear TA TN hb1
  go_wp2_with (first
    | refine wpList_lay rfl rfl ?_
    | refine wpList_laid rfl _ _ rfl noughts Crc.tab rfl rfl noughts_len Crc.tab_len ?_
    | refine wpList_laid rfl _ _ rfl noughts noughts rfl rfl noughts_len noughts_len ?_
    | refine wpList_buildNone rfl rfl ?_)
  refine (of_nil w1.heap.size _ HA.out).mono ?_
  rintro e w2 ⟨rfl, hb2⟩
  have HA2 := Lib.hid (HA.out.below hb2 (by rw [hsz2]; omega))
  have HN2 := Lib.hid (HN.out.below hb2 (by rw [hsz2]; omega))
  have HB2 := Lib.hid (HB.out.trans (hb2.mono HB.out.size))
  have hg2 : w1.heap.size + 1 < w2.heap.size := HN2.out.lt
  clear hb2 HA HN HB hsz hsz2 hc0 hc128
  generalize w1.heap.size = g at *
  go_wp2_with fail
  refine (of_lit [49, 50, 51, 52, 53, 54, 55, 56, 57] g 3808858755 Crc.tab w2 (9, 10) HA2.out Crc.tab_len Crc.small_tab (by decide) (by decide +kernel)).mono ?_
  rintro e w3 ⟨rfl, hb3⟩
  have HA3 := Lib.hid (HA2.out.below hb3 (by omega))
  have HN3 := Lib.hid (HN2.out.below hb3 (by omega))
  have HB3 := Lib.hid (HB2.out.trans (hb3.mono HB2.out.size))
  clear hb3 HA2 HN2 HB2 hg2
  have hg3 : g + 1 < w3.heap.size := HN3.out.lt
  go_wp2_with fail
  refine (repeat_any 0 32 w3 (by omega)).mono ?_
  rintro e w4 ⟨A4, c4, rfl, _, _, hown4, hb4⟩
  have HA4 := Lib.hid (HA3.out.below hb4 (by omega))
  have HN4 := Lib.hid (HN3.out.below hb4 (by omega))
  have HB4 := Lib.hid (HB3.out.trans (hb4.mono HB3.out.size))
  have HO4 := Lib.hid hown4
  clear hb4 HA3 HN3 HB3 hg3 hown4
  go_wp2_with fail
  refine (repeat_of 0 g 2324772522 w4 A4 c4 _ HA4.out HO4.out (by decide +kernel)).mono ?_
  rintro e w5 ⟨rfl, rfl⟩
  clear HO4
  have hg4 : g + 1 < w5.heap.size := HN4.out.lt
  go_wp2_with fail
  refine (repeat_any 255 32 w5 (by omega)).mono ?_
  rintro e w6 ⟨A6, c6, rfl, _, _, hown6, hb6⟩
  have HA6 := Lib.hid (HA4.out.below hb6 (by omega))
  have HN6 := Lib.hid (HN4.out.below hb6 (by omega))
  have HB6 := Lib.hid (HB4.out.trans (hb6.mono HB4.out.size))
  have HO6 := Lib.hid hown6
  clear hb6 HA4 HN4 HB4 hg4 hown6
  go_wp2_with fail
  refine (repeat_of 255 g 1655221059 w6 A6 c6 _ HA6.out HO6.out (by decide +kernel)).mono ?_
  rintro e w7 ⟨rfl, rfl⟩
  clear HO6 HA6
  have hg6 : g + 1 < w7.heap.size := HN6.out.lt
  go_wp2_with fail
  refine (of_none_lit _ w7 _).mono ?_
  rintro e w8 ⟨rfl, hb8⟩
  have HN8 := Lib.hid (HN6.out.below hb8 (by omega))
  have HB8 := Lib.hid (HB6.out.trans (hb8.mono HB6.out.size))
  clear HN6 HB6 hb8
  go_wp2_with fail
  refine (on_lit [97, 98] (g + 1) 5 4294901760 noughts _ (2, 3) HN8.out noughts_len small_noughts (by omega) (by decide) (by decide +kernel)).mono ?_
  rintro e w9 ⟨rfl, hb9⟩
  have HB9 := Lib.hid (HB8.out.trans (hb9.mono HB8.out.size))
  clear hb9 HB8
  go_wp2
  go_ret
  exact ⟨rfl, HB9.out⟩
end Go.Proofs.Ytcbeimoolndomaa
