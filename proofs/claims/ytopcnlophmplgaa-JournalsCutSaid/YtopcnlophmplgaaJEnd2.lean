/-
  Contracts of the laws' helpers: SameRecords.
  A law's own journal on a disk of its own: what Open, Add and Size answer, and what becomes of it; the laws' 'opened'.
  The laws' 'opened': a disk, and a journal on it.
-/
import Derived.Test.YtopcnlophmplgaaRcd
import Derived.Test.YtopcnlophmplgaaSame
import Derived.Deep.RegionHeld3
import Derived.Test.YtopcnlophmplgaaJEnd1
import Derived.Test.YtopcnlophmplgaaAlive5
namespace Go.Proofs.Ytopcnlophmplgaa
open Go.RowKit
set_option linter.unusedVariables false
set_option maxRecDepth 100000

/-- are two lists of byte lists the same? -/
def sameR (a b : List Rcd) : Bool := decide (a.map Rcd.l = b.map Rcd.l)

set_option maxHeartbeats 2000000 in
theorem sameR_any (A A2 : Option Addr) (n m c c2 B : Nat) (l l2 : List Rcd) (w : World) (h1 : Lies w B 1 A n (l.map Rcd.v)) (h2 : Lies w B 1 A2 m (l2.map Rcd.v)) (g1 : ∀ r ∈ l, Lies w B 1 r.A r.n (r.l.map bv) ∧ r.n ≤ 4611686018427387904) (g2 : ∀ r ∈ l2, Lies w B 1 r.A r.n (r.l.map bv)) (hn : n ≤ 4611686018427387904) :
    Calls Try.prog 20 #[.slice A n c, .slice A2 m c2] w fun e w' => e = .returned (.bool (sameR l l2)) ∧ ∃ q, w' = w.drewN q := by
  have H1 := Lib.hid h1; clear h1
  have H2 := Lib.hid h2; clear h2
  have G1 := Lib.hid g1; clear g1
  have G2 := Lib.hid g2; clear g2
  by_cases hnm : n = m
  · subst hnm
    have hne : ((n : Int) != (n : Int)) = false := by simp
    go_enter Try.func20, Try.ntmps20
    go_wp2
    go_loopw [5] (fun i wr => ∃ k q : Nat, k ≤ n ∧ i = .int .i64 (k : Int) ∧ (l.take k).map Rcd.l = (l2.take k).map Rcd.l ∧ wr = w.drewN q) (fun i _ => n - (intOf i).toNat)
    case atStart => exact ⟨0, 0, Nat.zero_le _, rfl, by simp, rfl⟩
    case round =>
      obtain ⟨k, q, hk, rfl, heq, rfl⟩ := hrel
      have HE := Lib.hid heq; clear heq
      by_cases hlt : k < n
      · obtain ⟨b, o, x, rfl, _, hx, hc1⟩ := H1.out.rcd hlt
        obtain ⟨b2, o2, y, rfl, _, hy, hc2⟩ := H2.out.rcd hlt
        have HX := Lib.hid hx; have HY := Lib.hid hy
        have LX := Lib.hid (G1.out x (List.mem_of_getElem? hx)); have LY := Lib.hid (G2.out y (List.mem_of_getElem? hy))
        clear hx hy
        have hi : (k : Int) < (n : Int) := by omega
        have hi0 : (0 : Int) ≤ (k : Int) := by omega
        have KA : Hid (∀ q', (w.drewN q').cell? ⟨b, o + k, none⟩ = some (.slice x.A x.n x.c) ∧ (w.drewN q').cell? ⟨b2, o2 + k, none⟩ = some (.slice y.A y.n y.c)) := fun _ => ⟨hc1, hc2⟩
        have HC1 : Hid (Calls Try.prog 51 #[.slice x.A x.n x.c, .slice y.A y.n y.c] (w.drewN q).drew fun e w' => e = .returned (.bool (sameB x.l y.l)) ∧ ∃ q, w' = w.drewN q) :=
          (same_any x.A y.A x.n y.n x.c y.c B x.l y.l (w.drewN (q + 1)) (LX.out.1.below ⟨rfl, rfl, rfl, Nat.le_refl _, fun _ _ => rfl⟩) (LY.out.below ⟨rfl, rfl, rfl, Nat.le_refl _, fun _ _ => rfl⟩) LX.out.2).mono fun e w' ⟨h, q2, h2⟩ => ⟨h, q + 1 + q2, by rw [h2, World.drewN_drewN]⟩
        by_cases hxy : x.l = y.l
        · have HT := Lib.hid (show (l.take (k + 1)).map Rcd.l = (l2.take (k + 1)).map Rcd.l from by rw [List.take_add_one, List.take_add_one, List.map_append, List.map_append, HE.out, HX.out, HY.out]; simp [hxy])
          have hsb : sameB x.l y.l = true := by simp [sameB, hxy]
          rw [hsb] at HC1
          clear hxy HX HY hc1 hc2
          go_wp2_with fail
          go_region_held3 (fun W => W.cell? ⟨b, o + k, none⟩ = some (.slice x.A x.n x.c) ∧ W.cell? ⟨b2, o2 + k, none⟩ = some (.slice y.A y.n y.c)) (first | exact KA.out (q + 1) | exact KA.out _)
            (first
              | (go_at_call 51; refine HC1.out.mono ?_; rintro e w2 ⟨rfl, q2, rfl⟩)
              | fail)
          go_wp2
          go_roundw
          case rel => exact ⟨k + 1, _, hlt, by go_num, HT.out, rfl⟩
          case measure => simp [intOf]; omega
        · have HT := Lib.hid (show sameR l l2 = false from by
            unfold sameR
            have : l.map Rcd.l ≠ l2.map Rcd.l := by
              intro e
              have e := congrArg (·[k]?) e
              simp only [List.getElem?_map, HX.out, HY.out, Option.map_some] at e
              injection e with e
              exact hxy e
            simp [this])
          have hsb : sameB x.l y.l = false := by simp [sameB, hxy]
          rw [hsb] at HC1
          clear hxy HX HY hc1 hc2
          go_wp2_with fail
          go_region_held3 (fun W => W.cell? ⟨b, o + k, none⟩ = some (.slice x.A x.n x.c) ∧ W.cell? ⟨b2, o2 + k, none⟩ = some (.slice y.A y.n y.c)) (first | exact KA.out (q + 1) | exact KA.out _)
            (first
              | (go_at_call 51; refine HC1.out.mono ?_; rintro e w2 ⟨rfl, q2, rfl⟩)
              | fail)
          go_wp2
          go_ret
          exact ⟨by rw [HT.out]; rfl, _, rfl⟩
      · have HT := Lib.hid (show sameR l l2 = true from by
          have e := HE.out
          rw [List.take_of_length_le (by have := H1.out.rlen; omega), List.take_of_length_le (by have := H2.out.rlen; omega)] at e
          unfold sameR; simp [e])
        go_wp2
        go_ret
        exact ⟨by rw [HT.out]; rfl, _, rfl⟩
  · have hne : ((n : Int) != (m : Int)) = true := by simp; omega
    have HT := Lib.hid (show sameR l l2 = false from by
      unfold sameR
      have : l.map Rcd.l ≠ l2.map Rcd.l := by
        intro e
        have e := congrArg List.length e
        simp at e
        have := H1.out.rlen
        have := H2.out.rlen
        omega
      simp [this])
    go_enter Try.func20, Try.ntmps20
    go_wp2
    go_ret
    exact ⟨by rw [HT.out]; rfl, 0, rfl⟩

end Go.Proofs.Ytopcnlophmplgaa

namespace Go.Proofs.Ytopcnlophmplgaa
open Go.RowKit Go.Maps Go.Sort
set_option linter.unusedVariables false
set_option maxRecDepth 100000

/-- the file's name -/
abbrev jn : ByteArray := ⟨#[106]⟩
/-- on a law's own disk there is one file, with these bytes, which are those of these records; a journal is open on it -/
structure Jn (w0 w : World) (d p f : Nat) (S : St) (b : List UInt8) (rs : List (List UInt8)) : Prop where
  at_ : JAt w0 w d S p jn b.length
  pres : S.pres = .map [(.string [106], .lit (.int .u64 (f : Int)))]
  size : S.size = 1000000
  file : (S.file f).bytes = b
  wf : Jr.WF b rs
  small : ∀ r ∈ rs, r.length ≤ 65536
  room : b.length ≤ 1000000
section
variable {w0 w w' : World} {d p f : Nat} {S : St} {b : List UInt8} {rs : List (List UInt8)} (h : Jn w0 w d p f S b rs)
include h
theorem Jn.key : look S.pres jn.data.toList = some f := by rw [h.pres]; exact look_one f [106]
theorem Jn.len : S.len f = b.length := by show (S.file f).bytes.length = _; rw [h.file]
theorem Jn.left : S.left = 1000000 - b.length := by
  show S.size - tot _ _ = _
  rw [h.pres, one_tot, h.size, h.len]

theorem Jn.below (hb : Below w.heap.size w w') : Jn w0 w' d p f S b rs := ⟨h.at_.below hb, h.pres, h.size, h.file, h.wf, h.small, h.room⟩
theorem Jn.low : Below w0.heap.size w0 w := h.at_.low
/-- a record more -/
theorem jn_add (A : Option Addr) (n c : Nat) (r : List UInt8) (hL : Lies w w.heap.size 1 A n (r.map bv)) (hn : n ≤ 65536) (hnc : n ≤ c) (hcc : c ≤ 9223372036854775807) (hsp : b.length + (Jr.wr b.length r).length ≤ 1000000) :
    Calls Try.prog 14 #[jp p, .slice A n c] w fun x w' => x = .returned (er 0) ∧ Jn w0 w' d p f (S.append f (Jr.wr b.length r)) (b ++ Jr.wr b.length r) (rs ++ [r]) := by
  refine (add_app h.at_ A n c r hL hn hnc hcc (by decide) (by decide) h.key h.len (by omega) ⟨by rw [h.left]; omega, by rw [h.len]; omega⟩).mono fun x w' ⟨hx, hJ⟩ => ⟨hx, ?_⟩
  refine ⟨by rw [List.length_append]; exact hJ, h.pres, h.size, ?_, h.wf.add r, fun q hq => ?_, by rw [List.length_append]; exact hsp⟩
  · show ((upd S.file f ⟨(S.file f).bytes ++ Jr.wr b.length r, (S.file f).sure⟩) f).bytes = _
    rw [upd_same, h.file]
  · rw [List.mem_append, List.mem_singleton] at hq
    rcases hq with hq | rfl
    · exact h.small q hq
    · rw [hL.blen]; exact hn
theorem jn_size : Calls Try.prog 15 #[dp d, .string jn] w fun x w' => x = .returned (.tuple #[.int .i64 (b.length : Int), er 0]) ∧ Below w.heap.size w w' := by
  have := at_size h.at_.at_ jn (by decide) (by decide) h.key
  rw [h.len] at this
  exact this
/-- it is synced -/
theorem jn_sync : Calls Try.prog 34 #[jp p] w fun x w' => x = .returned (er 0) ∧ Jn w0 w' d p f (S.sync f) b rs := by
  refine (sync_as h.at_ 0 (fun w' => JAt w0 w' d (S.sync f) p jn b.length) (fun W hW => ⟨hW.cell rfl, hW.cell rfl⟩) fun W hW _ => ?_).mono fun x w' ⟨hx, hJ⟩ => ⟨hx, hJ, h.pres, h.size, ?_, h.wf, h.small, h.room⟩
  · refine (hW.run (Q := fun x S' => x = .returned (er 0) ∧ S' = S.sync f) (fun F hD => by
      obtain ⟨pm, dm, val, hD⟩ := hD
      exact (sync_ok hD jn (by decide) (argOK1 (by decide)) h.key).mono fun x w' ⟨hx, hl⟩ => ⟨_, ⟨hx, rfl⟩, hl⟩)).mono fun x w' ⟨S', ⟨hx, hS⟩, ha⟩ => ⟨hx, by rw [← hS]; exact ha⟩
  · show ((upd S.file f ⟨(S.file f).bytes, (S.file f).bytes.length⟩) f).bytes = _
    rw [upd_same, h.file]
/-- it is opened once more -/
theorem jn_open : Calls Try.prog 19 #[dp d, .string jn] w fun x w' => ∃ p' A c, ∃ rs' : List Rcd, x = .returned (.tuple #[jp p', .slice A rs.length c, er 0]) ∧ rs'.map Rcd.l = rs ∧ Lies w' w'.heap.size 1 A rs.length (rs'.map Rcd.v) ∧ (∀ r ∈ rs', Lies w' w'.heap.size 1 r.A r.n (r.l.map bv) ∧ r.n ≤ 4611686018427387904) ∧ Jn w0 w' d p' f S b rs ∧ Below w.heap.size w w' := by
  have hlen := h.len
  have hle := h.room
  refine (open_has h.at_.at_ jn (by decide) (by decide) h.key (by omega)).mono fun x w' ⟨p', vr, rs', fin, hx, hR, hA, hJ, hb, hp⟩ => ?_
  rw [h.file] at hR
  obtain ⟨hr, rfl⟩ := hR.one h.wf.reads
  obtain ⟨A, c, rfl, _⟩ := own_shape hA.row
  have hl : rs'.length = rs.length := by rw [← hr, List.length_map]
  refine ⟨p', A, c, rs', ?_, hr, ?_, fun r hm => ?_, ⟨hJ, h.pres, h.size, h.file, h.wf, h.small, h.room⟩, hb⟩
  · rw [hx, hl]
  · rw [← hl]; exact Lies.of_own hA.row
  · have hL := Lies.of_own (hA.each r hm)
    refine ⟨hL, ?_⟩
    have := h.small r.l (by rw [← hr]; exact List.mem_map.2 ⟨r, hm, rfl⟩)
    have := hL.blen
    omega
end
end Go.Proofs.Ytopcnlophmplgaa

namespace Go.Proofs.Ytopcnlophmplgaa
open Go.RowKit Go.Maps Go.Sort
set_option linter.unusedVariables false
set_option maxRecDepth 100000

/-- the disk that 'opened' makes -/
def S1 (f : Nat) : St := (St.new 1000000).create [106] f
theorem S1_file (f : Nat) : (S1 f).file f = ⟨[], 0⟩ := upd_same _ _ _
theorem opened_any {w0 w : World} (hB : Below w0.heap.size w0 w) :
    Calls Try.prog 13 #[] w fun x w' => ∃ d p f, x = .returned (.tuple #[dp d, jp p]) ∧ Jn w0 w' d p f (S1 f) [] [] := by
  have HN := Lib.hid (at_new hB 1000000 (by decide) (by decide))
  clear hB
  go_enter Try.func13, Try.ntmps13
  go_wp2_with fail
  refine HN.out.mono ?_
  rintro x w1 ⟨d, rfl, h1⟩
  have HO := Lib.hid (open_new h1 jn (by decide) (by decide) rfl (by decide))
  clear h1
  go_wp2_with fail
  refine HO.out.mono ?_
  rintro x w2 ⟨p, A, c, f, rfl, hJ, _⟩
  have HJ : Hid (Jn w0 w2 d p f (S1 f) [] []) := ⟨hJ, rfl, rfl, by rw [S1_file], Jr.WF.nil, (fun r hr => by cases hr), by decide⟩
  clear hJ HO
  go_wp2
  go_ret2
  exact ⟨d, p, f, rfl, HJ.out⟩
end Go.Proofs.Ytopcnlophmplgaa

