/-
  A disk of package files in memory: 'DiskAt w F d S': the disk whose struct lies in block d is the disk S, and all that belongs to it lies in blocks of F.
-/
import Derived.Test.YtopcnlophmplgaaDir
namespace Go.Proofs.Ytopcnlophmplgaa
open Go.RowKit Go.Maps
set_option maxRecDepth 100000
set_option linter.unusedVariables false

structure FileC where
  bytes : List UInt8
  sure : Nat
structure St where
  size : Nat
  pres : Dir
  dur : Dir
  file : Nat → FileC
def St.live (S : St) (f : Nat) : Prop := (∃ k, look S.pres k = some f) ∨ ∃ k, look S.dur k = some f
def St.len (S : St) (f : Nat) : Nat := (S.file f).bytes.length
/-- free space -/
def St.left (S : St) : Nat := S.size - tot S.pres S.len

/-- names and files, and nothing else -/
def DirOK (D : Dir) : Prop := ∀ e ∈ ents D, ∃ (k : List UInt8) (b : Nat), e.1 = .string k ∧ e.2 = .lit (.int .u64 (b : Int))

structure FileAt (w : World) (F : Nat → Prop) (f : Nat) (c : FileC) (v : Value) : Prop where
  mem : F f
  cells : w.heap[f]? = some (.cells #[.int .i64 (c.sure : Int), v] 90 (0, 0))
  own : w.ownsRow 0 5 1 v c.bytes.length (c.bytes.map bv)
  row : ∀ r, v.ownBlock = some r → F r
  sure : c.sure ≤ c.bytes.length
  max : c.bytes.length ≤ 1048576

structure DiskAt (w : World) (F : Nat → Prop) (d pm dm : Nat) (S : St) (val : Nat → Value) : Prop where
  box : w.heap[d]? = some (.cells #[.int .i64 (S.size : Int), .map (some pm), .map (some dm)] 95 (0, 0))
  fd : F d
  fp : F pm
  fm : F dm
  ne : pm ≠ dm
  pres : OwnD w pm 64 S.pres
  dur : OwnD w dm 64 S.dur
  presOK : DirOK S.pres
  durOK : DirOK S.dur
  files : ∀ f, S.live f → FileAt w F f (S.file f) (val f)
  apart : ∀ f g, S.live f → S.live g → f ≠ g → ∀ r, (val f).ownBlock = some r → (val g).ownBlock ≠ some r
  inj : ∀ k k' f, look S.pres k = some f → look S.pres k' = some f → k = k'
  lo : 1 ≤ S.size
  hi : S.size ≤ 8388608
  lt : ∀ i, F i → i < w.heap.size

theorem FileAt.keep {w w' : World} {F : Nat → Prop} {f : Nat} {c : FileC} {v : Value} (h : FileAt w F f c v) (hs : ∀ i, F i → w'.heap[i]? = w.heap[i]?) : FileAt w' F f c v := by
  refine ⟨h.mem, (hs f h.mem).trans h.cells, ?_, h.row, h.sure, h.max⟩
  obtain ⟨h1, h2⟩ := h.own
  refine ⟨h1, ?_⟩
  rcases h2 with h2 | ⟨g, cap, cur, rfl, hg, hh, r⟩
  · exact .inl h2
  · exact .inr ⟨g, cap, cur, rfl, hg, (hs g (h.row g rfl)).trans hh, r⟩
theorem DiskAt.keep {w w' : World} {F : Nat → Prop} {d pm dm : Nat} {S : St} {val : Nat → Value} (h : DiskAt w F d pm dm S val) (hs : ∀ i, F i → w'.heap[i]? = w.heap[i]?) (hz : w.heap.size ≤ w'.heap.size) : DiskAt w' F d pm dm S val :=
  ⟨(hs d h.fd).trans h.box, h.fd, h.fp, h.fm, h.ne, h.pres.at_ (hs pm h.fp), h.dur.at_ (hs dm h.fm), h.presOK, h.durOK, fun f hf => (h.files f hf).keep hs, h.apart, h.inj, h.lo, h.hi, fun i hi => Nat.lt_of_lt_of_le (h.lt i hi) hz⟩
theorem DiskAt.below {w w' : World} {F : Nat → Prop} {d pm dm : Nat} {S : St} {val : Nat → Value} (h : DiskAt w F d pm dm S val) (hb : Below w.heap.size w w') : DiskAt w' F d pm dm S val :=
  h.keep (fun i hi => hb.block i (h.lt i hi)) hb.size
theorem heap_drewN (w : World) (q : Nat) : (w.drewN q).heap = w.heap := rfl

section
variable {w : World} {F : Nat → Prop} {d pm dm : Nat} {S : St} {val : Nat → Value} (h : DiskAt w F d pm dm S val)
include h
theorem DiskAt.c0 : w.cell? ⟨d, 0, none⟩ = some (.int .i64 (S.size : Int)) := by rw [cell_of_row w d 0 _ _ (0, 0) h.box]; rfl
theorem DiskAt.c1 : w.cell? ⟨d, 1, none⟩ = some (.map (some pm)) := by rw [cell_of_row w d 1 _ _ (0, 0) h.box]; rfl
theorem DiskAt.c2 : w.cell? ⟨d, 2, none⟩ = some (.map (some dm)) := by rw [cell_of_row w d 2 _ _ (0, 0) h.box]; rfl
theorem DiskAt.tidy : Tidy S.pres := h.pres.tidy keyLaw
end
theorem FileAt.f0 {w : World} {F : Nat → Prop} {f : Nat} {c : FileC} {v : Value} (h : FileAt w F f c v) : w.cell? ⟨f, 0, none⟩ = some (.int .i64 (c.sure : Int)) := by rw [cell_of_row w f 0 _ _ (0, 0) h.cells]; rfl
theorem FileAt.f1 {w : World} {F : Nat → Prop} {f : Nat} {c : FileC} {v : Value} (h : FileAt w F f c v) : w.cell? ⟨f, 1, none⟩ = some v := by rw [cell_of_row w f 1 _ _ (0, 0) h.cells]; rfl

/-- the error of a name that leads to nothing; of one that leads to something -/
def noneErr (o : Option Nat) : Int := if o.isSome then 0 else 7
def thereErr (o : Option Nat) : Int := if o.isSome then 8 else 0
def fullErr (D : Dir) : Int := if Maps.size D < 64 then 0 else 6

theorem below_q (w : World) (q : Nat) : Below w.heap.size w (w.drewN q) := ⟨rfl, rfl, rfl, Nat.le_refl _, fun _ _ => rfl⟩

set_option maxHeartbeats 1000000 in
theorem leadsF_any (a b d pm : Nat) (s : ByteArray) (w : World) (lk : Option Nat) (ka : w.cell? ⟨a, 0, none⟩ = some (.pointer (some ⟨d, 0, none⟩))) (kb : w.cell? ⟨b, 0, none⟩ = some (.string s)) (hc : w.cell? ⟨d, 1, none⟩ = some (.map (some pm)))
    (hlk : ∀ q, (Instr.lookup 93 (.map (some pm)) (.string s) false).run Try.prog (w.drewN q) = .ok (ptrOf lk) (w.drewN q)) :
    Calls Try.prog 72 #[.pointer (some ⟨a, 0, none⟩), .pointer (some ⟨b, 0, none⟩)] w fun x w' => x = .returned (er (noneErr lk)) ∧ Below w.heap.size w w' := by
  cases lk with
  | none =>
    simp only [ptrOf] at hlk
    go_enter Try.func72, Try.ntmps72
    go_wp2
    go_quiet ((go_at_call 69; exact Calls.quiet_of_same (unless_any _ _ _)))
    go_wp2
    go_ret
    exact ⟨rfl, below_q _ _⟩
  | some f =>
    simp only [ptrOf] at hlk
    go_enter Try.func72, Try.ntmps72
    go_wp2
    go_quiet ((go_at_call 69; exact Calls.quiet_of_same (unless_any _ _ _)))
    go_wp2
    go_ret
    exact ⟨rfl, below_q _ _⟩

set_option maxHeartbeats 1000000 in
theorem isFreeF_any (a b d pm : Nat) (s : ByteArray) (w : World) (lk : Option Nat) (ka : w.cell? ⟨a, 0, none⟩ = some (.pointer (some ⟨d, 0, none⟩))) (kb : w.cell? ⟨b, 0, none⟩ = some (.string s)) (hc : w.cell? ⟨d, 1, none⟩ = some (.map (some pm)))
    (hlk : ∀ q, (Instr.lookup 93 (.map (some pm)) (.string s) false).run Try.prog (w.drewN q) = .ok (ptrOf lk) (w.drewN q)) :
    Calls Try.prog 74 #[.pointer (some ⟨a, 0, none⟩), .pointer (some ⟨b, 0, none⟩)] w fun x w' => x = .returned (er (thereErr lk)) ∧ Below w.heap.size w w' := by
  cases lk with
  | none =>
    simp only [ptrOf] at hlk
    go_enter Try.func74, Try.ntmps74
    go_wp2
    go_quiet ((go_at_call 69; exact Calls.quiet_of_same (unless_any _ _ _)))
    go_wp2
    go_ret
    exact ⟨rfl, below_q _ _⟩
  | some f =>
    simp only [ptrOf] at hlk
    go_enter Try.func74, Try.ntmps74
    go_wp2
    go_quiet ((go_at_call 69; exact Calls.quiet_of_same (unless_any _ _ _)))
    go_wp2
    go_ret
    exact ⟨rfl, below_q _ _⟩

set_option maxHeartbeats 1000000 in
theorem hasFree_ok {w : World} {F : Nat → Prop} {d pm dm : Nat} {S : St} {val : Nat → Value} (h : DiskAt w F d pm dm S val) :
    Calls Try.prog 47 #[.pointer (some ⟨d, 0, none⟩)] w fun x w' => x = .returned (er (fullErr S.pres)) ∧ w' = w := by
  have hc := h.c1
  have hlen := World.ownsMap.len h.pres Try.underlying93
  obtain ⟨n, hn⟩ : ∃ n, Maps.size S.pres = n := ⟨_, rfl⟩
  rw [hn] at hlen
  by_cases hlt : n < 64
  · have HF : Hid (fullErr S.pres = 0) := by unfold Hid fullErr; rw [hn, if_pos hlt]
    clear hn h
    go_enter Try.func47, Try.ntmps47
    go_wp2_with (go_at_call 69; refine (unless_any _ _ _).mono ?_; rintro x w' ⟨rfl, rfl⟩)
    go_ret
    exact ⟨by rw [HF.out]; rfl, rfl⟩
  · have HF : Hid (fullErr S.pres = 6) := by unfold Hid fullErr; rw [hn, if_neg hlt]
    clear hn h
    go_enter Try.func47, Try.ntmps47
    go_wp2_with (go_at_call 69; refine (unless_any _ _ _).mono ?_; rintro x w' ⟨rfl, rfl⟩)
    go_ret
    exact ⟨by rw [HF.out]; rfl, rfl⟩

/-- the sum of lengths that have come -/
def LRel (w : World) (F : Nat → Prop) (d pm dm : Nat) (S : St) (val : Nat → Value) (t : Value) (wr : World) : Prop :=
  ∃ left cnt, wr.ranges Try.prog 9 pE pm w.heap.size 64 S.pres left cnt ∧ t = .int .i64 ((S.size : Int) - (part S.pres left S.len : Int)) ∧ part S.pres left S.len + cnt * 1048576 ≤ 67108864 ∧ Below w.heap.size w wr

theorem ent_of_at {D : Dir} (hD : DirOK D) {kl : Lit} {y : DataW Unit} (h : ∀ zd, D.atKey kl zd = y) : ∃ (k : List UInt8) (b : Nat), kl = .string k ∧ y = .lit (.int .u64 (b : Int)) ∧ look D k = some b := by
  have h0 := h .nil
  cases D with
  | map es =>
    obtain ⟨p, hp, rfl, rfl⟩ := mem_at h
    obtain ⟨k, b, h1, h2⟩ := hD p hp
    refine ⟨k, b, h1, h2, ?_⟩
    unfold look
    rw [← h1, h, h2]
    rfl
  | _ => rw [← h (.lit (.bool true))] at h0; exact absurd h0 (by simp [DataW.atKey])
theorem keys_ok {D : Dir} (hD : DirOK D) : ∀ e ∈ ents D, WideAt.IsKeyLit e.1 := fun e he => by
  obtain ⟨k, b, h1, _⟩ := hD e he
  rw [h1]; trivial

theorem sub_sub_nat (a b c : Nat) : (a : Int) - (b : Int) - (c : Int) = (a : Int) - ((b + c : Nat) : Int) := by omega
theorem ptrOf_inj {a b : Option Nat} (h : ptrOf a = ptrOf b) : a = b := by
  cases a <;> cases b <;> simp [ptrOf] at h ⊢
  exact h

set_option maxHeartbeats 2000000 in
theorem left_ok {w : World} {F : Nat → Prop} {d pm dm : Nat} {S : St} {val : Nat → Value} (h : DiskAt w F d pm dm S val) :
    Calls Try.prog 76 #[.pointer (some ⟨d, 0, none⟩)] w fun x w' => x = .returned (.int .i64 (S.left : Int)) ∧ Below w.heap.size w w' := by
  have hc := h.c1
  have hc0 := h.c0
  have H := Lib.hid h
  clear h
  go_enter Try.func76, Try.ntmps76
  go_wp2_with (first
    | (go_at_call 40; refine (exists_ok _ _ _ hc).mono ?_; rintro x w' ⟨rfl, rfl⟩)
    | (at_range; refine wpList_range_own _ rfl _ 93 rfl 9 91 keyLaw Try.underlying93 pE pm 64 S.pres rfl H.out.pres ?_; intro w0 hrg0 hg0 hs0))
  go_frame
  have R1 : LRel w' F d pm dm S val (.int .i64 (S.size : Int)) w0 := ⟨_, _, hrg0, by rw [part_start _ H.out.tidy (keys_ok H.out.presOK)]; simp, by rw [part_start _ H.out.tidy (keys_ok H.out.presOK)]; have := OwnD.size_le H.out.pres; omega, ⟨hg0.os, hg0.tape, hg0.output, hg0.size, fun i hi => hg0.block i hi (by simp)⟩⟩
  clear hrg0 hg0 hs0 hc hc0
  have R0 := Lib.hid R1
  clear R1
  go_loopw [3] (fun t wr => LRel w' F d pm dm S val t wr) (fun _ wr => wr.rangeLeft pm w'.heap.size)
  case atStart => exact R0.out
  case round =>
    clear R0
    obtain ⟨left, cnt, hrg, rfl, hbd, hb⟩ := hrel
    have HB := Lib.hid hb; have HBD := Lib.hid hbd
    clear hb
    go_wp2_with (at_next; refine wpList_next_ranges _ rfl _ rfl 9 keyLaw pE id ptrOf (fun key kl hk => ⟨key, rfl⟩) (fun v y hv => ⟨blk y.1, pE_blk hv⟩) pm w'.heap.size 64 _ _ _ rfl hrg ?_ ?_)
    · intro hc0 hl0
      have HL : Hid (S.left = S.size - part S.pres left S.len) := by rw [part_end _ _ _ hl0]; rfl
      have hpl : part S.pres left S.len ≤ 67108864 := by omega
      generalize part S.pres left S.len = pp at *
      by_cases hle : pp ≤ S.size
      · have hi := H.out.hi
        generalize S.size = sz at *
        go_wp2
        go_ret
        exact ⟨by rw [HL.out, show ((sz - pp : Nat) : Int) = (sz : Int) - (pp : Int) by omega]; rfl, HB.out⟩
      · have hi := H.out.hi
        generalize S.size = sz at *
        have hneg : (sz : Int) - (pp : Int) < 0 := by omega
        go_wp2
        go_ret
        exact ⟨by rw [HL.out, show sz - pp = 0 by omega]; rfl, HB.out⟩
    · intro x c kl yd yp w1 cnt1 hkey hlx hvy hat hrg1 hlt hg1 hs1 hen
      obtain ⟨k, b, rfl, hy, hlk⟩ := ent_of_at H.out.presOK hat
      have hcb : c = some b := by
        have := pE_blk hvy
        rw [hy] at this
        have hbk : blk (.lit (.int .u64 (b : Int)) : DataW Unit) = some b := rfl
        rw [hbk] at this
        exact ptrOf_inj this
      subst hcb
      have hB1 : Below w'.heap.size w' w1 := HB.out.grown hg1 HB.out.size (fun r e => by injection e with e; omega)
      have hF := (H.out.files b (.inl ⟨k, hlk⟩)).keep (fun i hi => hB1.block i (H.out.lt i hi))
      have hc1 := hF.f1
      obtain ⟨A, cp, hv, hnc, hcm, _⟩ := own_shape hF.own
      rw [hv] at hc1
      have hps := part_step S.pres H.out.tidy left (.string k) yd trivial hlx hat S.len
      rw [hy] at hps
      have hvl : valE S.len (.lit (.int .u64 (b : Int))) = S.len b := rfl
      rw [hvl] at hps
      have hmx : S.len b ≤ 1048576 := hF.max
      have hlen : (S.file b).bytes.length = S.len b := rfl
      rw [hlen] at hc1
      have hsz := H.out.hi
      have hbd2 : part S.pres left S.len ≤ 67108864 := by omega
      have HR : Hid (LRel w' F d pm dm S val (.int .i64 ((S.size : Int) - (part S.pres left S.len : Int) - (S.len b : Int))) w1) :=
        ⟨_, cnt1, hrg1, by rw [hps, ← sub_sub_nat], by rw [hps]; omega, hB1⟩
      have hme : w1.rangeLeft pm w'.heap.size < wr.rangeLeft pm w'.heap.size := by rw [hrg1.left_eq, hrg.left_eq]; exact hlt
      have HM := Lib.hid hme
      clear hps hvl hF hB1 hat hkey hvy hlx hlk hg1 hs1 hrg hrg1 hv hme hbd HBD hnc hcm
      generalize part S.pres left S.len = pp at *
      generalize S.len b = lb at *
      simp only [ptrOf] at hen ⊢
      go_wp2
      exact ⟨HR.out, HM.out⟩
end Go.Proofs.Ytopcnlophmplgaa
