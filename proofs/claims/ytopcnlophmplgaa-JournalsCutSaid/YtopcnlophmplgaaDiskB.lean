/-
  The checks of a disk of package files, as the methods hand them to firstError: leads, isFree, hasFreeName, hasSpace, reaches.
-/
import Derived.Test.YtopcnlophmplgaaDisk
import Derived.Test.YtopcnlophmplgaaOpC
import Derived.Deep.RegionHeld3
import Derived.Deep.RegionWith
namespace Go.Proofs.Ytopcnlophmplgaa
open Go.RowKit Go.Maps
set_option maxRecDepth 100000
set_option linter.unusedVariables false
set_option linter.unusedSimpArgs false

def spaceErr (S : St) (len n : Nat) : Int := if n ≤ S.left ∧ n + len ≤ 1048576 then 0 else 6
def shortErr (len : Nat) (at_ n : Int) : Int := if n ≤ (len : Int) - at_ then 0 else 5
theorem spaceErr_ok {S : St} {len n : Nat} (h : n ≤ S.left ∧ n + len ≤ 1048576) : spaceErr S len n = 0 := if_pos h
theorem spaceErr_no {S : St} {len n : Nat} (h : ¬ (n ≤ S.left ∧ n + len ≤ 1048576)) : spaceErr S len n = 6 := if_neg h
theorem shortErr_ok {len : Nat} {at_ n : Int} (h : n ≤ (len : Int) - at_) : shortErr len at_ n = 0 := if_pos h
theorem shortErr_no {len : Nat} {at_ n : Int} (h : ¬ n ≤ (len : Int) - at_) : shortErr len at_ n = 5 := if_neg h

set_option maxHeartbeats 1000000 in
theorem reachesF_any (a b c e d pm f n cp : Nat) (A : Option Addr) (s : ByteArray) (w : World) (at_ m : Int) (ka : w.cell? ⟨a, 0, none⟩ = some (.pointer (some ⟨d, 0, none⟩))) (kb : w.cell? ⟨b, 0, none⟩ = some (.string s))
    (kc : w.cell? ⟨c, 0, none⟩ = some (.int .i64 m)) (ke : w.cell? ⟨e, 0, none⟩ = some (.int .i64 at_)) (hc : w.cell? ⟨d, 1, none⟩ = some (.map (some pm)))
    (hlk : ∀ q, (Instr.lookup 93 (.map (some pm)) (.string s) false).run Try.prog (w.drewN q) = .ok (.pointer (some ⟨f, 0, none⟩)) (w.drewN q)) (hf : w.cell? ⟨f, 1, none⟩ = some (.slice A n cp))
    (h0 : 0 ≤ at_) (h1 : at_ ≤ 9223372036854775807) (hn : n ≤ 1048576) :
    Calls Try.prog 73 #[.pointer (some ⟨a, 0, none⟩), .pointer (some ⟨b, 0, none⟩), .pointer (some ⟨c, 0, none⟩), .pointer (some ⟨e, 0, none⟩)] w fun x w' => x = .returned (er (shortErr n at_ m)) ∧ Below w.heap.size w w' := by
  by_cases hle : m ≤ (n : Int) - at_
  · have HR := Lib.hid (shortErr_ok hle)
    go_enter Try.func73, Try.ntmps73
    go_wp2
    go_quiet (fail)
    go_wp2_with (go_at_call 69; refine (unless_any _ _ _).mono ?_; rintro x w' ⟨rfl, rfl⟩)
    go_ret
    exact ⟨by rw [HR.out]; rfl, below_q _ _⟩
  · have HR := Lib.hid (shortErr_no hle)
    have hle2 : (n : Int) - at_ < m := by omega
    clear hle
    go_enter Try.func73, Try.ntmps73
    go_wp2
    go_quiet (fail)
    go_wp2_with (go_at_call 69; refine (unless_any _ _ _).mono ?_; rintro x w' ⟨rfl, rfl⟩)
    go_ret
    exact ⟨by rw [HR.out]; rfl, below_q _ _⟩

theorem unless_is (ok b : Bool) (h : ok = b) (e : Int) (w : World) : Calls Try.prog 69 #[.bool ok, er e] w fun x w' => x = .returned (er (bif b then 0 else e)) ∧ w' = w := by
  subst h
  cases ok <;> exact unless_any _ e w

section
variable {w : World} {F : Nat → Prop} {d pm dm : Nat} {S : St} {val : Nat → Value} (h : DiskAt w F d pm dm S val)
include h
theorem DiskAt.gives : Gives w (fv 40 (.pointer (some ⟨d, 0, none⟩))) 0 :=
  ⟨_, _, _, rfl, ent_of Try.func40 (by kernel_rfl) rfl, fun w' hb => (exists_ok d pm w' (h.below hb).c1).mono fun x w2 ⟨h1, h2⟩ => ⟨h1, by rw [h2]; exact Below.refl _ _⟩⟩
theorem DiskAt.leads {s : ByteArray} (hs : s.size ≤ 140737488355328) : Chk2 w 72 (.pointer (some ⟨d, 0, none⟩)) (.string s) (noneErr (look S.pres s.data.toList)) := by
  intro w1 a b hb ka kb
  refine ⟨_, _, _, rfl, ent_of Try.func72 (by kernel_rfl) rfl, fun w' hb' => ?_⟩
  have D := (h.below hb).below hb'
  exact leadsF_any a b d pm s w' _ (ka.below hb').2 (kb.below hb').2 D.c1 (fun q => OwnD.looks D.pres hs q)
theorem DiskAt.free {s : ByteArray} (hs : s.size ≤ 140737488355328) : Chk2 w 74 (.pointer (some ⟨d, 0, none⟩)) (.string s) (thereErr (look S.pres s.data.toList)) := by
  intro w1 a b hb ka kb
  refine ⟨_, _, _, rfl, ent_of Try.func74 (by kernel_rfl) rfl, fun w' hb' => ?_⟩
  have D := (h.below hb).below hb'
  exact isFreeF_any a b d pm s w' _ (ka.below hb').2 (kb.below hb').2 D.c1 (fun q => OwnD.looks D.pres hs q)
theorem DiskAt.freeName : Gives w (fv 47 (.pointer (some ⟨d, 0, none⟩))) (fullErr S.pres) :=
  ⟨_, _, _, rfl, ent_of Try.func47 (by kernel_rfl) rfl, fun w' hb => (hasFree_ok (h.below hb)).mono fun x w2 ⟨h1, h2⟩ => ⟨h1, by rw [h2]; exact Below.refl _ _⟩⟩
theorem DiskAt.looksAt {s : ByteArray} (hs : s.size ≤ 140737488355328) {f : Nat} (hf : look S.pres s.data.toList = some f) (q : Nat) :
    (Instr.lookup 93 (.map (some pm)) (.string s) false).run Try.prog (w.drewN q) = .ok (.pointer (some ⟨f, 0, none⟩)) (w.drewN q) := by
  have := OwnD.looks h.pres hs q
  rw [hf] at this
  exact this
theorem DiskAt.reach {s : ByteArray} (hs : s.size ≤ 140737488355328) {f : Nat} (hf : look S.pres s.data.toList = some f) (at_ m : Int) (h0 : 0 ≤ at_) (h1 : at_ ≤ 9223372036854775807) :
    Chk4 w 73 (.pointer (some ⟨d, 0, none⟩)) (.string s) (.int .i64 m) (.int .i64 at_) (shortErr (S.len f) at_ m) := by
  intro w1 a b c e hb ka kb kc ke
  refine ⟨_, _, _, rfl, ent_of Try.func73 (by kernel_rfl) rfl, fun w' hb' => ?_⟩
  have D := (h.below hb).below hb'
  have hF := D.files f (.inl ⟨_, hf⟩)
  obtain ⟨A, cp, hv, _⟩ := own_shape hF.own
  have h3 := hF.f1
  rw [hv] at h3
  exact reachesF_any a b c e d pm f _ cp A s w' at_ m (ka.below hb').2 (kb.below hb').2 (kc.below hb').2 (ke.below hb').2 D.c1 (D.looksAt hs hf) h3 h0 h1 hF.max
end

theorem below_any {w w' : World} (h1 : w'.os = w.os) (h2 : w'.tape = w.tape) (h3 : w'.output = w.output) (h4 : w'.heap = w.heap) : Below w.heap.size w w' := ⟨h1, h2, h3, by rw [h4]; exact Nat.le_refl _, fun _ _ => by rw [h4]⟩
set_option maxHeartbeats 2000000 in
/-- hasSpace's closure -/
theorem hasSpaceF_any {w : World} {F : Nat → Prop} {d pm dm : Nat} {S : St} {val : Nat → Value} (h : DiskAt w F d pm dm S val) (a b c : Nat) (s : ByteArray) (m : Nat) (hm : m ≤ 140737488355328) (hs : s.size ≤ 140737488355328) {f : Nat} (hf : look S.pres s.data.toList = some f)
    (ka : Kept1 w a (.pointer (some ⟨d, 0, none⟩))) (kb : Kept1 w b (.string s)) (kc : Kept1 w c (.int .i64 (m : Int))) :
    Calls Try.prog 75 #[.pointer (some ⟨a, 0, none⟩), .pointer (some ⟨b, 0, none⟩), .pointer (some ⟨c, 0, none⟩)] w fun x w' => x = .returned (er (spaceErr S (S.len f) m)) ∧ Below w.heap.size w w' := by
  have hF := h.files f (.inl ⟨_, hf⟩)
  obtain ⟨A, cp, hv, _⟩ := own_shape hF.own
  have h3 := hF.f1
  rw [hv] at h3
  have hmax : S.len f ≤ 1048576 := hF.max
  have hlen : (S.file f).bytes.length = S.len f := rfl
  rw [hlen] at h3
  have hlk := h.looksAt hs hf
  have c1 := h.c1
  have ca := ka.2; have cb := kb.2; have cc := kc.2
  have HD := Lib.hid h; have HA := Lib.hid ka; have HC := Lib.hid kc
  clear hv hF hlen
  generalize hl : S.len f = l at *
  have hLf : S.left ≤ 8388608 := by have := h.hi; unfold St.left; omega
  have HL : ∀ w', Below w.heap.size w w' → Calls Try.prog 76 #[.pointer (some ⟨d, 0, none⟩)] w' fun x w2 => x = .returned (.int .i64 (S.left : Int)) ∧ Below w.heap.size w w2 := fun w' hb =>
    (left_ok (h.below hb)).mono fun x w2 hx => ⟨hx.1, hb.trans (hx.2.mono hb.size)⟩
  have HLf := Lib.hid HL
  have KA : Hid (∀ w', Below w.heap.size w w' → w'.cell? ⟨a, 0, none⟩ = some (.pointer (some ⟨d, 0, none⟩)) ∧ w'.cell? ⟨c, 0, none⟩ = some (.int .i64 (m : Int))) := fun w' hb => ⟨(ka.below hb).2, (kc.below hb).2⟩
  have HE : Hid (∀ n, spaceErr S l n = if n ≤ S.left ∧ n + l ≤ 1048576 then 0 else 6) := fun n => rfl
  generalize S.left = lf at *
  clear h ka kb kc HL
  have hwr : IntKind.i64.wrap (1048576 - (l : Int)) = 1048576 - (l : Int) := (IntWalk.i64_left _).trans (IntWalk.wrap64_in _ ⟨by omega, by omega⟩)
  by_cases hle : m ≤ lf
  · have hle1 : (m : Int) ≤ (lf : Int) := by omega
    by_cases h2 : m + l ≤ 1048576
    · have HR : Hid (spaceErr S l m = 0) := by unfold Hid; rw [HE.out, if_pos ⟨hle, h2⟩]
      have h3 : (m : Int) ≤ 1048576 - (l : Int) := by omega
      go_enter Try.func75, Try.ntmps75
      go_wp2
      go_quiet (fail)
      go_wp2_with fail
      go_region_held3 (fun w' => w'.cell? ⟨a, 0, none⟩ = some (.pointer (some ⟨d, 0, none⟩)) ∧ w'.cell? ⟨c, 0, none⟩ = some (.int .i64 (m : Int))) (first | exact KA.out _ (by exact below_any rfl rfl rfl rfl) | exact KA.out _ hb2)
        (first
         | (go_at_call 76; refine (HLf.out _ (by exact below_any rfl rfl rfl rfl)).mono ?_; rintro x w2 ⟨rfl, hb2⟩)
         | (go_at_call 69; refine (unless_is _ true (by first | rfl | exact decide_eq_true (by first | omega | (rw [hwr]; omega))) _ _).mono ?_; rintro x w3 ⟨rfl, rfl⟩))
      all_goals (
        go_wp2
        go_ret
        exact ⟨by rw [HR.out]; rfl, hb2⟩)
    · have HR : Hid (spaceErr S l m = 6) := by unfold Hid; rw [HE.out, if_neg (fun hh => h2 hh.2)]
      have h3 : 1048576 - (l : Int) < (m : Int) := by omega
      go_enter Try.func75, Try.ntmps75
      go_wp2
      go_quiet (fail)
      go_wp2_with fail
      go_region_held3 (fun w' => w'.cell? ⟨a, 0, none⟩ = some (.pointer (some ⟨d, 0, none⟩)) ∧ w'.cell? ⟨c, 0, none⟩ = some (.int .i64 (m : Int))) (first | exact KA.out _ (by exact below_any rfl rfl rfl rfl) | exact KA.out _ hb2)
        (first
         | (go_at_call 76; refine (HLf.out _ (by exact below_any rfl rfl rfl rfl)).mono ?_; rintro x w2 ⟨rfl, hb2⟩)
         | (go_at_call 69; refine (unless_is _ false (by first | rfl | exact decide_eq_false (by first | omega | (rw [hwr]; omega))) _ _).mono ?_; rintro x w3 ⟨rfl, rfl⟩))
      all_goals (
        go_wp2
        go_ret
        exact ⟨by rw [HR.out]; rfl, hb2⟩)
  · have HR : Hid (spaceErr S l m = 6) := by unfold Hid; rw [HE.out, if_neg (fun hh => hle hh.1)]
    have hle1 : (lf : Int) < (m : Int) := by omega
    go_enter Try.func75, Try.ntmps75
    go_wp2
    go_quiet (fail)
    go_wp2_with fail
    refine wp_region_held_drew (S := fun w' => w'.cell? ⟨a, 0, none⟩ = some (.pointer (some ⟨d, 0, none⟩)) ∧ w'.cell? ⟨c, 0, none⟩ = some (.int .i64 (m : Int))) (by kernel_rfl) (KA.out _ (by exact below_any rfl rfl rfl rfl)) (fun hHeld => ?_)
    refine wpAnyH_take (i := 0) (oi := _) (v := ?v0) rfl (by kernel_rfl) (by kernel_rfl) (by kernel_rfl) (fun _ _ _ h => h) (Or.inl ⟨by rfl, ?y0⟩) (by assumption) ?r0
    case y0 => (intro w' hSw; (try dsimp only at hSw); go_simp <;> with_reducible rfl)
    try simp only [Act.put, List.setIfInBounds_toArray, List.set_cons_zero, List.set_cons_succ, List.getElem_toArray, List.getElem_cons_zero, List.getElem_cons_succ]
    refine wpAnyH_take (i := 1) (oi := _) (v := ?v1) rfl (by kernel_rfl) (by kernel_rfl) (by kernel_rfl) (fun _ _ _ h => h) (Or.inl ⟨by rfl, ?y1⟩) (by assumption) ?r1
    case y1 => (intro w' hSw; (try dsimp only at hSw); go_simp <;> with_reducible rfl)
    try simp only [Act.put, List.setIfInBounds_toArray, List.set_cons_zero, List.set_cons_succ, List.getElem_toArray, List.getElem_cons_zero, List.getElem_cons_succ]
    refine wpAnyH_ready (rs := [2]) (by kernel_rfl) (by simp) ?_
    refine AllReadyH.cons (o := _) rfl (fun K hK => ?_) AllReadyH.nil
    go_simp
    go_at_call 76
    refine (HLf.out _ (by exact below_any rfl rfl rfl rfl)).mono ?_
    rintro x w2 ⟨rfl, hb2⟩
    refine hK.out _ _ (KA.out _ hb2) (fun hHeld => ?_)
    clear hK K
    try simp only [Act.put, List.setIfInBounds_toArray, List.set_cons_zero, List.set_cons_succ, List.getElem_toArray, List.getElem_cons_zero, List.getElem_cons_succ]
    refine wpAnyH_take (i := 3) (oi := _) (v := .bool false) rfl (by kernel_rfl) (by kernel_rfl) (by kernel_rfl) (fun _ _ _ h => h) (Or.inl ⟨by rfl, ?y3⟩) (by assumption) ?r3
    case y3 => (intro w' hSw; go_simp)
    try simp only [Act.put, List.setIfInBounds_toArray, List.set_cons_zero, List.set_cons_succ, List.getElem_toArray, List.getElem_cons_zero, List.getElem_cons_succ]
    refine wpAnyH_take (i := 4) (oi := _) (v := ?v4) rfl (by kernel_rfl) (by kernel_rfl) (by kernel_rfl) (fun _ _ _ h => h) (Or.inl ⟨by rfl, ?y4⟩) (by assumption) ?r4
    case y4 => (intro w' hSw; (try dsimp only at hSw); go_simp <;> with_reducible rfl)
    try simp only [Act.put, List.setIfInBounds_toArray, List.set_cons_zero, List.set_cons_succ, List.getElem_toArray, List.getElem_cons_zero, List.getElem_cons_succ]
    refine wpAnyH_take (i := 5) (oi := _) (v := undef) rfl (by kernel_rfl) (by kernel_rfl) (by kernel_rfl) (fun _ _ _ h => h) (Or.inr ⟨by rfl, rfl⟩) (by assumption) ?_
    try simp only [Act.put, List.setIfInBounds_toArray, List.set_cons_zero, List.set_cons_succ, List.getElem_toArray, List.getElem_cons_zero, List.getElem_cons_succ]
    refine wpAnyH_take (i := 6) (oi := _) (v := undef) rfl (by kernel_rfl) (by kernel_rfl) (by kernel_rfl) (fun _ _ _ h => h) (Or.inr ⟨by rfl, rfl⟩) (by assumption) ?_
    try simp only [Act.put, List.setIfInBounds_toArray, List.set_cons_zero, List.set_cons_succ, List.getElem_toArray, List.getElem_cons_zero, List.getElem_cons_succ]
    refine wpAnyH_take (i := 7) (oi := _) (v := undef) rfl (by kernel_rfl) (by kernel_rfl) (by kernel_rfl) (fun _ _ _ h => h) (Or.inr ⟨by rfl, rfl⟩) (by assumption) ?_
    try simp only [Act.put, List.setIfInBounds_toArray, List.set_cons_zero, List.set_cons_succ, List.getElem_toArray, List.getElem_cons_zero, List.getElem_cons_succ]
    refine wpAnyH_take (i := 8) (oi := _) (v := undef) rfl (by kernel_rfl) (by kernel_rfl) (by kernel_rfl) (fun _ _ _ h => h) (Or.inr ⟨by rfl, rfl⟩) (by assumption) ?_
    try simp only [Act.put, List.setIfInBounds_toArray, List.set_cons_zero, List.set_cons_succ, List.getElem_toArray, List.getElem_cons_zero, List.getElem_cons_succ]
    refine wpAnyH_take (i := 9) (oi := _) (v := ?v9) rfl (by kernel_rfl) (by kernel_rfl) (by kernel_rfl) (fun _ _ _ h => h) (Or.inl ⟨by rfl, ?y9⟩) (by assumption) ?r9
    case y9 => (intro w' hSw; (try dsimp only at hSw); go_simp <;> with_reducible rfl)
    try simp only [Act.put, List.setIfInBounds_toArray, List.set_cons_zero, List.set_cons_succ, List.getElem_toArray, List.getElem_cons_zero, List.getElem_cons_succ]
    refine wpAnyH_ready (rs := [10]) (by kernel_rfl) (by simp) ?_
    refine AllReadyH.cons (o := _) rfl (fun K hK => ?_) AllReadyH.nil
    go_simp
    go_at_call 69
    refine (unless_is _ false (by rfl) _ _).mono ?_
    rintro x w3 ⟨rfl, rfl⟩
    refine hK.out _ _ (KA.out _ hb2) (fun hHeld => ?_)
    clear hK K
    try simp only [Act.put, List.setIfInBounds_toArray, List.set_cons_zero, List.set_cons_succ, List.getElem_toArray, List.getElem_cons_zero, List.getElem_cons_succ]
    refine wpAnyH_take (i := 11) (oi := _) (v := ?v11) rfl (by kernel_rfl) (by kernel_rfl) (by kernel_rfl) (fun _ _ _ h => h) (Or.inl ⟨by rfl, ?y11⟩) (by assumption) ?r11
    case y11 => (intro w' hSw; (try dsimp only at hSw); go_simp <;> with_reducible rfl)
    try simp only [Act.put, List.setIfInBounds_toArray, List.set_cons_zero, List.set_cons_succ, List.getElem_toArray, List.getElem_cons_zero, List.getElem_cons_succ]
    refine wpAnyH_done (by kernel_rfl) ?_ _
    go_wp2
    go_ret
    exact ⟨by rw [HR.out]; rfl, hb2⟩

theorem DiskAt.space {w : World} {F : Nat → Prop} {d pm dm : Nat} {S : St} {val : Nat → Value} (h : DiskAt w F d pm dm S val) {s : ByteArray} (hs : s.size ≤ 140737488355328) {f : Nat} (hf : look S.pres s.data.toList = some f) (m : Nat) (hm : m ≤ 140737488355328) :
    Chk3 w 75 (.pointer (some ⟨d, 0, none⟩)) (.string s) (.int .i64 (m : Int)) (spaceErr S (S.len f) m) := by
  intro w1 a b c hb ka kb kc
  refine ⟨_, _, _, rfl, ent_of Try.func75 (by kernel_rfl) rfl, fun w' hb' => ?_⟩
  exact hasSpaceF_any ((h.below hb).below hb') a b c s m hm hs hf (ka.below hb') (kb.below hb') (kc.below hb')
end Go.Proofs.Ytopcnlophmplgaa
